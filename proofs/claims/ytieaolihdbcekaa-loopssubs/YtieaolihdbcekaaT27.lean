import Derived.Test.YtieaolihdbcekaaT23
import Derived.Deep.LoopGhost
/- Layer 6: the reference's Subtypes. -/
namespace Go.Proofs.Ytieaolihdbcekaa
open Go.RowKit
set_option linter.unusedVariables false

theorem iniS_zero {N : List Nd} {p : Pt} (h : jud N p = 0) : true = iniS N p := by unfold iniS; rw [decide_eq_true (by omega)]
theorem iniS_one {N : List Nd} {p : Pt} (h : jud N p = 1) : false = iniS N p := by unfold iniS; rw [decide_eq_false (by omega)]
theorem iniS_two {N : List Nd} {p : Pt} (h : jud N p = 2) : true = iniS N p := by unfold iniS; rw [decide_eq_true (by omega)]
theorem prtS_none {N : List Nd} {p : Pt} (h : jud N p ≠ 2) : prtS N p = none := by unfold prtS; rw [if_neg h]
theorem prtS_two {N : List Nd} {p : Pt} (h : jud N p = 2) : prtS N p = some (pA N p, pB N p) := by unfold prtS; rw [if_pos h]
set_option maxRecDepth 100000 in
set_option maxHeartbeats 12800000 in
theorem subtypes_any (N : List Nd) (A : Option Addr) (n c : Nat) (w : World) (hN : Nl w A n c N) (hok : OkN N) (hn : n ≤ 900) :
    Calls Try.prog 20 #[.slice A n c] w fun e w' => (∃ g vs, e = .returned (.slice (some ⟨g, 0, none⟩) (n * n) (n * n)) ∧ vs.length = n * n ∧ Owl w' w.heap.size (.slice (some ⟨g, 0, none⟩) (n * n) (n * n)) vs ∧ ∀ p, inP n p → (tb n vs p = true ↔ SubT N p)) ∧ Below w.heap.size w w' := by
  have HLN : Hid (N.length = n) := hN.len
  have HN := Lib.hid hN
  have HOK := Lib.hid hok
  have HG := Lib.hid (great_sub hN.len hok)
  obtain ⟨q, hq⟩ : ∃ q, q = n * n := ⟨_, rfl⟩
  have hmul : (n : Int) * (n : Int) = (q : Int) := by rw [hq]; simp
  have hqb : q ≤ 1000000 := by rw [hq]; have := Nat.mul_le_mul hn hn; omega
  have HQ := Lib.hid hq
  rw [← hq]
  obtain ⟨i1, hi, hz0, hz1, hz2⟩ := info_parts Try.infoBool
  have HIB : Hid (Try.prog.info? 4 = some i1 ∧ i1.zero = some (.bool false) ∧ i1.size = 1 ∧ i1.bytes = 1) := ⟨hi, hz0, hz1, hz2⟩
  have HTW : Hid (∀ {W : World} {vs : List Bool}, Owl W w.heap.size (.slice (some ⟨w.heap.size, 0, none⟩) q q) vs → vs.length = n * n → ∀ i j m, i < n → j < n → m = n * i → W.cell? ⟨w.heap.size, m + j, none⟩ = some (.bool (tb n vs (i, j))) ∧ m + j < q) := fun h hl i j m hi hj hm => h.tb_at (hl.trans hq.symm) hq hi hj hm
  have HMI : Hid (∀ i, ∃ m, m = n * i ∧ (n : Int) * (i : Int) = (m : Int)) := fun i => ⟨n * i, rfl, by simp⟩
  clear hN hok hi hz0 hz1 hz2 hq
  go_enter Try.func20, Try.ntmps20
  go_wp2_with (at_make; go_must (refine makel_law _ rfl (.tmp 19) (.tmp 19) 34 rfl w.heap.size i1 Try.underlying34 HIB.out _ _ q rfl rfl (by first | exact hmul | rfl) (by first | exact hmul | rfl) hqb (Nat.le_refl _) ?_); intro w3 hv3 hg3; have HV3 := Lib.hid hv3; clear hv3; have HG3 : Hid (Below w.heap.size w w3) := (Below.refl _ _).grown hg3 (Nat.le_refl _) (fun k h => by cases h); clear hg3)
  have HTI0 : Hid (TbI n (iniS N) (List.replicate q false) 0 0) := by rw [HQ.out]; exact TbI.start
  generalize List.replicate q false = vs0 at *
  generalize hs : w.heap.size = s at *
  -- the table is made
  go_loopw [5] (fun i w' => ∃ (k : Nat) (vs : List Bool), k ≤ n ∧ i = .int .i64 (k : Int) ∧ Hid (TbI n (iniS N) vs k 0) ∧ Hid (Owl w' s (.slice (some ⟨s, 0, none⟩) q q) vs) ∧ Hid (Below s w w')) (fun i _ => n - (intOf i).toNat)
  case atStart => exact ⟨0, vs0, by omega, by go_num, HTI0.out, HV3.out, HG3.out⟩
  case round =>
    obtain ⟨k, vs, hk, rfl, HTI, HOV, HBW⟩ := hrel
    obtain ⟨wo, rfl⟩ : ∃ wo : World, wo = wr := ⟨_, rfl⟩
    clear HTI0 HV3 HG3
    by_cases hlt : k < n
    · have i2 : (k : Int) < (n : Int) := by omega
      obtain ⟨m, hm, hmi⟩ := HMI.out k
      have HM := Lib.hid hm
      clear hm
      go_wp2
      go_loopw [6] (fun i w' => ∃ (t : Nat) (vs : List Bool), t ≤ n ∧ i = .int .i64 (t : Int) ∧ Hid (TbI n (iniS N) vs k t) ∧ Hid (Owl w' s (.slice (some ⟨s, 0, none⟩) q q) vs) ∧ Hid (Below s w w')) (fun i _ => n - (intOf i).toNat)
      case atStart => exact ⟨0, vs, by omega, by go_num, HTI.out, HOV.out, HBW.out⟩
      case round =>
        obtain ⟨t, vs', ht, rfl, HTI2, HOV2, HBW2⟩ := hrel
        obtain ⟨wi, rfl⟩ : ∃ wi : World, wi = wr := ⟨_, rfl⟩
        clear HTI HOV HBW
        by_cases hlt2 : t < n
        · have i3 : (t : Int) < (n : Int) := by omega
          obtain ⟨b, off', rfl, hbl, ⟨p0, p1, p2⟩, q0, q1, q2⟩ := (HN.out.below HBW2.out (Nat.le_of_eq hs)).two hlt hlt2
          have HJ : Hid (jud N (k, t) = judX (nd N k) (nd N t)) := rfl
          obtain ⟨hc, hmt⟩ := HTW.out HOV2.out HTI2.out.len k t m hlt hlt2 HM.out
          have hfr := HOV2.out.free (HTI2.out.len.trans HQ.out.symm) (m + t)
          generalize nd N k = x at *
          generalize nd N t = y at *
          obtain ⟨kx, ax, bx⟩ := x
          obtain ⟨ky, ay, byy⟩ := y
          dsimp only at p0 p1 p2 q0 q1 q2
          clear p1 p2 q1 q2
          have HPUT : Hid (∀ x, x = iniS N (k, t) → TbI n (iniS N) (vs'.set (m + t) x) k (t + 1)) := fun x hx => by rw [HM.out]; exact HTI2.out.put hlt hlt2 hx
          have HOP : Hid (∀ nq x, Owl ((wi.drewN nq).setCell ⟨s, m + t, none⟩ (.bool x)) s (.slice (some ⟨s, 0, none⟩) q q) (vs'.set (m + t) x)) := fun nq x => Owl.put (w := wi.drewN nq) HOV2.out (HTI2.out.len.trans HQ.out.symm) (m + t) x
          have HBP : Hid (∀ nq x, Below s w ((wi.drewN nq).setCell ⟨s, m + t, none⟩ (.bool x))) := fun nq x => (below_dn HBW2.out nq).setCell (Nat.le_refl _) _
          clear HTI2 HOV2 HBW2
          by_cases h0 : kx = 0
          · have HX := Lib.hid (HPUT.out true (iniS_zero (by rw [HJ.out, judX_zero h0])))
            have g0 : ((kx : Int) == 0) = true := by simpa using h0
            clear h0
            go_wp2
            go_quiet (fail)
            go_wp2
            exact ⟨⟨t + 1, _, by omega, by go_num, HX.out, HOP.out _ _, HBP.out _ _⟩, by simp [intOf]; omega⟩
          · have g0 : ((kx : Int) == 0) = false := by simpa using h0
            by_cases h1 : ky = 1
            · have HX := Lib.hid (HPUT.out true (iniS_zero (by rw [HJ.out, judX_one h1])))
              have g1 : ((ky : Int) == 1) = true := by simpa using (by omega : (ky : Int) = 1)
              clear h0 h1
              go_wp2
              go_quiet (fail)
              go_wp2
              exact ⟨⟨t + 1, _, by omega, by go_num, HX.out, HOP.out _ _, HBP.out _ _⟩, by simp [intOf]; omega⟩
            · have g1 : ((ky : Int) == 1) = false := by simpa using (by omega : ¬ (ky : Int) = 1)
              by_cases hxy : kx = ky
              · have HX := Lib.hid (HPUT.out true (by
                  by_cases h4 : 4 ≤ kx
                  · exact iniS_two (by rw [HJ.out, judX_part h1 hxy h4])
                  · exact iniS_zero (by rw [HJ.out, judX_leaf h0 h1 hxy h4])))
                have e2 : ((kx : Int) == (ky : Int)) = true := by simp; omega
                clear h0 h1 hxy
                go_wp2
                go_quiet (fail)
                go_wp2
                exact ⟨⟨t + 1, _, by omega, by go_num, HX.out, HOP.out _ _, HBP.out _ _⟩, by simp [intOf]; omega⟩
              · have HX := Lib.hid (HPUT.out false (iniS_one (by rw [HJ.out, judX_ne h0 h1 hxy])))
                have e2 : ((kx : Int) == (ky : Int)) = false := by simp; omega
                clear h0 h1 hxy
                go_wp2
                go_quiet (fail)
                go_wp2
                exact ⟨⟨t + 1, _, by omega, by go_num, HX.out, HOP.out _ _, HBP.out _ _⟩, by simp [intOf]; omega⟩
        · have htn : t = n := by omega
          subst htn
          have i3 : ¬ (t : Int) < (t : Int) := by omega
          have HX := Lib.hid HTI2.out.row
          go_wp2
          exact ⟨⟨k + 1, vs', by omega, by go_num, HX.out, HOV2.out, HBW2.out⟩, by simp [intOf]; omega⟩
    · have hkn : k = n := by omega
      subst hkn
      have i2 : ¬ (k : Int) < (k : Int) := by omega
      have HOK1 := Lib.hid (HTI.out.done HG.out)
      clear hlt hk HTI
      go_wp2
      -- pairs are removed
      go_loopg [9] (2 * vs.count true + 1) (fun gk ag w' => ∃ (b : Bool) (vs : List Bool), ag = .bool b ∧ gk = 2 * vs.count true + b.toNat ∧ Hid (TbQ k (iniS N) (SubT N) b vs) ∧ Hid (Owl w' s (.slice (some ⟨s, 0, none⟩) q q) vs) ∧ Hid (Below s w w'))
      case atStart => exact ⟨true, vs, rfl, rfl, ⟨HOK1.out, fun e => (by cases e)⟩, HOV.out, HBW.out⟩
      case round =>
        obtain ⟨b, vs1, rfl, hgk, HTQ, HOV1, HBW1⟩ := hrel
        have HGK := Lib.hid hgk
        clear hgk HOK1 HOV HBW
        obtain ⟨wo2, rfl⟩ : ∃ wo : World, wo = wr := ⟨_, rfl⟩
        rcases b with _ | _
        · have HF := Lib.hid (HTQ.out.fin rfl)
          have HL1 := Lib.hid HTQ.out.ok.len
          go_wp2
          go_ret
          exact ⟨⟨s, vs1, rfl, by rw [HQ.out]; exact HL1.out, by rw [hs]; exact HOV1.out, HF.out⟩, by rw [hs]; exact HBW1.out⟩
        · have hl1 := HTQ.out.ok.len
          have HTP0 := Lib.hid (HTQ.out.ok.pass (prt := prtS N))
          obtain ⟨c0, hc0⟩ : ∃ c0, c0 = vs1.count true := ⟨_, rfl⟩
          rw [← hc0] at HTP0 HGK
          clear hc0 hl1 HTQ
          go_wp2
          go_loopw [9, 10] (fun ag i w' => ∃ (b : Bool) (r : Nat) (vs : List Bool), ag = .bool b ∧ r ≤ k ∧ i = .int .i64 (r : Int) ∧ Hid (TbP k (iniS N) (prtS N) (SubT N) b vs c0 r 0) ∧ Hid (Owl w' s (.slice (some ⟨s, 0, none⟩) q q) vs) ∧ Hid (Below s w w')) (fun _ i _ => k - (intOf i).toNat)
          case atStart => exact ⟨false, 0, vs1, rfl, by omega, by go_num, HTP0.out, HOV1.out, HBW1.out⟩
          case round =>
            obtain ⟨b2, r, vs2, rfl, hr, rfl, HTP, HOV2, HBW2⟩ := hrel
            obtain ⟨wo3, rfl⟩ : ∃ wo : World, wo = wr := ⟨_, rfl⟩
            clear HTP0 HOV1 HBW1
            by_cases hlt : r < k
            · have i4 : (r : Int) < (k : Int) := by omega
              obtain ⟨m, hm, hmi⟩ := HMI.out r
              have HM := Lib.hid hm
              clear hm
              go_wp2
              go_loopw [9, 11] (fun ag i w' => ∃ (b : Bool) (t : Nat) (vs : List Bool), ag = .bool b ∧ t ≤ k ∧ i = .int .i64 (t : Int) ∧ Hid (TbP k (iniS N) (prtS N) (SubT N) b vs c0 r t) ∧ Hid (Owl w' s (.slice (some ⟨s, 0, none⟩) q q) vs) ∧ Hid (Below s w w')) (fun _ i _ => k - (intOf i).toNat)
              case atStart => exact ⟨b2, 0, vs2, rfl, by omega, by go_num, HTP.out, HOV2.out, HBW2.out⟩
              case round =>
                obtain ⟨b3, t, vs3, rfl, ht, rfl, HTP3, HOV3, HBW3⟩ := hrel
                obtain ⟨W, rfl⟩ : ∃ wi : World, wi = wr := ⟨_, rfl⟩
                clear HTP HOV2 HBW2
                by_cases hlt2 : t < k
                · have i5 : (t : Int) < (k : Int) := by omega
                  obtain ⟨b, off', rfl, hbl, ⟨p0, p1, p2⟩, q0, q1, q2⟩ := (HN.out.below HBW3.out (Nat.le_of_eq hs)).two hlt hlt2
                  have HIA := Lib.hid (HOK.out.pA (p := (r, t)) ⟨by rw [HLN.out]; exact hlt, by rw [HLN.out]; exact hlt2⟩)
                  have HIB := Lib.hid (HOK.out.pB (p := (r, t)) ⟨by rw [HLN.out]; exact hlt, by rw [HLN.out]; exact hlt2⟩)
                  rw [HLN.out] at HIA HIB
                  have hpx := HOK.out.a r (by rw [HLN.out]; exact hlt)
                  have hpy := HOK.out.a t (by rw [HLN.out]; exact hlt2)
                  have hbx := HOK.out.b r (by rw [HLN.out]; exact hlt)
                  have hby := HOK.out.b t (by rw [HLN.out]; exact hlt2)
                  rw [HLN.out] at hpx hpy hbx hby
                  have HJ : Hid (jud N (r, t) = judX (nd N r) (nd N t)) := rfl
                  have HPA : Hid (pA N (r, t) = if (nd N r).k = 5 then ((nd N t).a, (nd N r).a) else ((nd N r).a, (nd N t).a)) := rfl
                  have HPB : Hid (pB N (r, t) = ((nd N r).b, (nd N t).b)) := rfl
                  generalize nd N r = x at *
                  generalize nd N t = y at *
                  obtain ⟨kx, ax, bx⟩ := x
                  obtain ⟨ky, ay, byy⟩ := y
                  dsimp only at p0 p1 p2 q0 q1 q2 HPA HPB hpx hpy hbx hby
                  obtain ⟨p01, p02⟩ := cell_2z p0 hbl
                  obtain ⟨p11, p12⟩ := cell_2z p1 hbl
                  obtain ⟨p21, p22⟩ := cell_2z p2 hbl
                  obtain ⟨q01, q02⟩ := cell_2z q0 hbl
                  obtain ⟨q11, q12⟩ := cell_2z q1 hbl
                  obtain ⟨q21, q22⟩ := cell_2z q2 hbl
                  go_wp2
                  go_region
                  all_goals (
                    clear p0 p1 p2 q0 q1 q2 p01 p02 p11 p12 p21 p22 q01 q02 q11 q12 q21 q22
                    generalize hW2 : World.drew (World.alloc (World.alloc W _) _) = W2
                    first
                      | have T : TwoNew W W2 (W.heap.size + 1) W.heap.size #[.int .i64 (kx : Int), .int .i64 (ax : Int), .int .i64 (bx : Int)] #[.int .i64 (ky : Int), .int .i64 (ay : Int), .int .i64 (byy : Int)] 59 := by rw [← hW2]; exact (twoNew_a W _ _ _).swap
                      | have T : TwoNew W W2 W.heap.size (W.heap.size + 1) #[.int .i64 (kx : Int), .int .i64 (ax : Int), .int .i64 (bx : Int)] #[.int .i64 (ky : Int), .int .i64 (ay : Int), .int .i64 (byy : Int)] 59 := by rw [← hW2]; exact twoNew_a W _ _ _
                    clear hW2
                    have HB2 : Hid (Below s w W2) := HBW3.out.trans (T.bl.mono (Nat.le_trans (Nat.le_of_eq hs.symm) HBW3.out.size))
                    have HO2 := Lib.hid (HOV3.out.below T.bl (Nat.le_refl _))
                    have u0' := cell_in T.hu (i := 0) rfl
                    have u1' := cell_in T.hu (i := 1) rfl
                    have u2' := cell_in T.hu (i := 2) rfl
                    have v0' := cell_in T.hv (i := 0) rfl
                    have v1' := cell_in T.hv (i := 1) rfl
                    have v2' := cell_in T.hv (i := 2) rfl
                    clear T HBW3 HOV3
                    obtain ⟨hc, hmt⟩ := HTW.out HO2.out HTP3.out.ok.len r t m hlt hlt2 HM.out
                    have hfr := HO2.out.free (HTP3.out.ok.len.trans HQ.out.symm) (m + t)
                    have HOP := Lib.hid (Owl.put HO2.out (HTP3.out.ok.len.trans HQ.out.symm) (m + t) false)
                    have HBP : Hid (Below s w (W2.setCell ⟨s, m + t, none⟩ (.bool false))) := HB2.out.setCell (Nat.le_refl _) _
                    obtain ⟨m1, hm1, hm1i⟩ := HMI.out ax
                    obtain ⟨d1, hd1⟩ := HTW.out HO2.out HTP3.out.ok.len ax ay m1 hpx hpy hm1
                    obtain ⟨m2, hm2, hm2i⟩ := HMI.out ay
                    obtain ⟨d2, hd2⟩ := HTW.out HO2.out HTP3.out.ok.len ay ax m2 hpy hpx hm2
                    obtain ⟨m3, hm3, hm3i⟩ := HMI.out bx
                    obtain ⟨d3, hd3⟩ := HTW.out HO2.out HTP3.out.ok.len bx byy m3 hbx hby hm3
                    have HSK : Hid ((tb k vs3 (r, t) = false ∨ (kx : Int) = 0 ∨ (ky : Int) = 1 ∨ (kx : Int) < 4 ∨ ((kx : Int) = 5 ∧ tb k vs3 (ay, ax) = true ∧ tb k vs3 (bx, byy) = true) ∨ (¬ (kx : Int) = 5 ∧ tb k vs3 (ax, ay) = true ∧ tb k vs3 (bx, byy) = true)) → TbP k (iniS N) (prtS N) (SubT N) b3 vs3 c0 r (t + 1)) := fun h => HTP3.out.skip fun hx a b hab => by
                      obtain ⟨hj, rfl, rfl⟩ := prtS_some hab
                      rw [HJ.out] at hj
                      rw [HPA.out, HPB.out]
                      rcases h with h | h | h | h | ⟨h, h1, h2⟩ | ⟨h, h1, h2⟩
                      · rw [h] at hx; cases hx
                      · rw [judX_zero (by dsimp only; omega)] at hj; omega
                      · rw [judX_one (by dsimp only; omega)] at hj; omega
                      · unfold judX at hj
                        dsimp only at hj
                        split at hj
                        · omega
                        · split at hj
                          · omega
                          · rw [if_neg (by omega)] at hj; omega
                      · rw [if_pos (by omega)]; exact ⟨h1, h2⟩
                      · rw [if_neg (by omega)]; exact ⟨h1, h2⟩
                    have HCK : Hid (tb k vs3 (r, t) = true → ¬ (kx : Int) = 0 → ¬ (ky : Int) = 1 → ¬ (kx : Int) < 4 → (((kx : Int) = 5 ∧ (tb k vs3 (ay, ax) = false ∨ tb k vs3 (bx, byy) = false)) ∨ (¬ (kx : Int) = 5 ∧ (tb k vs3 (ax, ay) = false ∨ tb k vs3 (bx, byy) = false))) → TbP k (iniS N) (prtS N) (SubT N) true (vs3.set (m + t) false) c0 r (t + 1)) := fun hx h0 h1 h4 h => by
                      have hne : jud N (r, t) ≠ 1 := of_decide_eq_true (p := jud N (r, t) ≠ 1) (HTP3.out.ok.dn (r, t) ⟨hlt, hlt2⟩ hx)
                      have hxy : kx = ky := Classical.byContradiction fun e => hne (by rw [HJ.out, judX_ne (by dsimp only; omega) (by dsimp only; omega) e])
                      have hj2 : jud N (r, t) = 2 := by rw [HJ.out, judX_part (by dsimp only; omega) hxy (by dsimp only; omega)]
                      rw [HM.out]
                      refine HTP3.out.clear HG.out hlt hlt2 hx (prtS_two hj2) ?_
                      rw [HPA.out, HPB.out]
                      rintro ⟨ha, hb⟩
                      rcases h with ⟨h5, h | h⟩ | ⟨h5, h | h⟩
                      · rw [if_pos (by omega), h] at ha; cases ha
                      · rw [h] at hb; cases hb
                      · rw [if_neg (by omega), h] at ha; cases ha
                      · rw [h] at hb; cases hb
                    have HK1 : Hid (t + 1 ≤ k ∧ k - ((t + 1 : Nat) : Int).toNat < k - (t : Int).toNat) := by rw [Hid]; omega
                    clear hm1 hm2 hm3 hpx hpy hbx hby HIA HIB HJ HPA HPB HTP3 hn i2 i4 i5 hmul hlt hlt2 hr ht hbl
                    generalize tb k vs3 (r, t) = x at *
                    generalize tb k vs3 (ax, ay) = x1 at *
                    generalize tb k vs3 (ay, ax) = x2 at *
                    generalize tb k vs3 (bx, byy) = x3 at *
                    have SKA : Hid (¬ x = true → TbP k (iniS N) (prtS N) (SubT N) b3 vs3 c0 r (t + 1)) := fun h => HSK.out (.inl (by simpa using h))
                    have SKB : Hid (kx = 0 → TbP k (iniS N) (prtS N) (SubT N) b3 vs3 c0 r (t + 1)) := fun h => HSK.out (.inr (.inl (by omega)))
                    have SKC : Hid ((ky : Int) = 1 → TbP k (iniS N) (prtS N) (SubT N) b3 vs3 c0 r (t + 1)) := fun h => HSK.out (.inr (.inr (.inl h)))
                    have SKD : Hid (((((kx : Int) == 0) = true ∨ ((ky : Int) == 1) = true) ∨ (kx : Int) < 4) → TbP k (iniS N) (prtS N) (SubT N) b3 vs3 c0 r (t + 1)) := fun h => by
                      rcases h with (h | h) | h
                      · exact HSK.out (.inr (.inl (by simpa using h)))
                      · exact HSK.out (.inr (.inr (.inl (by simpa using h))))
                      · exact HSK.out (.inr (.inr (.inr (.inl h))))
                    have SK5 : Hid (((kx : Int) == 5) = true → x2 = true → (!x3) = false → TbP k (iniS N) (prtS N) (SubT N) b3 vs3 c0 r (t + 1)) := fun h5 h2 h3 => HSK.out (.inr (.inr (.inr (.inr (.inl ⟨by simpa using h5, h2, by simpa using h3⟩)))))
                    have SKN : Hid (((kx : Int) == 5) = false → x1 = true → (!x3) = false → TbP k (iniS N) (prtS N) (SubT N) b3 vs3 c0 r (t + 1)) := fun h5 h2 h3 => HSK.out (.inr (.inr (.inr (.inr (.inr ⟨by simpa using h5, h2, by simpa using h3⟩)))))
                    have CK5 : Hid (x = true → ((((kx : Int) == 0) = false ∧ ((ky : Int) == 1) = false) ∧ 4 ≤ (kx : Int)) → ((kx : Int) == 5) = true → ¬ x2 = true → TbP k (iniS N) (prtS N) (SubT N) true (vs3.set (m + t) false) c0 r (t + 1)) := fun hx h h5 h2 => by
                      simp only [beq_eq_false_iff_ne, ne_eq] at h
                      exact HCK.out hx h.1.1 h.1.2 (by omega) (.inl ⟨by simpa using h5, .inl (by simpa using h2)⟩)
                    have CK5b : Hid (x = true → ((((kx : Int) == 0) = false ∧ ((ky : Int) == 1) = false) ∧ 4 ≤ (kx : Int)) → ((kx : Int) == 5) = true → (!x3) = true → TbP k (iniS N) (prtS N) (SubT N) true (vs3.set (m + t) false) c0 r (t + 1)) := fun hx h h5 h2 => by
                      simp only [beq_eq_false_iff_ne, ne_eq] at h
                      exact HCK.out hx h.1.1 h.1.2 (by omega) (.inl ⟨by simpa using h5, .inr (by simpa using h2)⟩)
                    have CKN : Hid (x = true → ((((kx : Int) == 0) = false ∧ ((ky : Int) == 1) = false) ∧ 4 ≤ (kx : Int)) → ((kx : Int) == 5) = false → ¬ x1 = true → TbP k (iniS N) (prtS N) (SubT N) true (vs3.set (m + t) false) c0 r (t + 1)) := fun hx h h5 h2 => by
                      simp only [beq_eq_false_iff_ne, ne_eq] at h
                      exact HCK.out hx h.1.1 h.1.2 (by omega) (.inr ⟨by simpa using h5, .inl (by simpa using h2)⟩)
                    have CKNb : Hid (x = true → ((((kx : Int) == 0) = false ∧ ((ky : Int) == 1) = false) ∧ 4 ≤ (kx : Int)) → ((kx : Int) == 5) = false → (!x3) = true → TbP k (iniS N) (prtS N) (SubT N) true (vs3.set (m + t) false) c0 r (t + 1)) := fun hx h h5 h2 => by
                      simp only [beq_eq_false_iff_ne, ne_eq] at h
                      exact HCK.out hx h.1.1 h.1.2 (by omega) (.inr ⟨by simpa using h5, .inr (by simpa using h2)⟩)
                    clear HSK HCK
                    go_wp2
                    all_goals first
                      | exact ⟨⟨b3, t + 1, vs3, rfl, HK1.out.1, by go_num, by first | exact SKA.out (by assumption) | exact SKA.out (by decide) | exact SKB.out (by assumption) | exact SKC.out (by assumption) | exact SKD.out (by assumption) | exact SK5.out (by assumption) (by assumption) (by assumption) | exact SKN.out (by assumption) (by assumption) (by assumption), HO2.out, HB2.out⟩, by simp [intOf]; have := HK1.out; omega⟩
                      | exact ⟨⟨true, t + 1, _, rfl, HK1.out.1, by go_num, by first | exact CK5.out (by first | rfl | assumption) (by assumption) (by assumption) (by assumption) | exact CK5b.out (by first | rfl | assumption) (by assumption) (by assumption) (by assumption) | exact CKN.out (by first | rfl | assumption) (by assumption) (by assumption) (by assumption) | exact CKNb.out (by first | rfl | assumption) (by assumption) (by assumption) (by assumption), HOP.out, HBP.out⟩, by simp [intOf]; have := HK1.out; omega⟩)
                · have htn : t = k := by omega
                  subst htn
                  have i5 : ¬ (t : Int) < (t : Int) := by omega
                  have HX := Lib.hid HTP3.out.row
                  go_wp2
                  exact ⟨⟨b3, r + 1, vs3, rfl, by omega, by go_num, HX.out, HOV3.out, HBW3.out⟩, by simp [intOf]; omega⟩
            · have hrk : r = k := by omega
              subst hrk
              have i4 : ¬ (r : Int) < (r : Int) := by omega
              have HOK2 := Lib.hid HTP.out.ok
              have HLE := Lib.hid HTP.out.le
              have HLT := Lib.hid HTP.out.lt
              have HFN : Hid (b2 = false → ∀ p, inP r p → (tb r vs2 p = true ↔ SubT N p)) := fun e p hp => by
                have h := HTP.out
                subst e
                exact h.done HG.out hp
              clear HTP hlt hr
              go_wp2
              go_roundg (2 * vs2.count true + b2.toNat)
              case measure =>
                have h1 := HLE.out
                have h2 := HLT.out
                rw [HGK.out]
                rcases b2 with _ | _
                · simp; omega
                · have := h2 rfl
                  simp; omega
              case rel => exact ⟨b2, vs2, rfl, rfl, ⟨HOK2.out, HFN.out⟩, HOV2.out, HBW2.out⟩
end Go.Proofs.Ytieaolihdbcekaa
