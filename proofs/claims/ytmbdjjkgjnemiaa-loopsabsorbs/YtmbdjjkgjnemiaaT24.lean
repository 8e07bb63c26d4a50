import Derived.Test.YtmbdjjkgjnemiaaT23
import Derived.Test.YtmbdjjkgjnemiaaT06
import Derived.Deep.LoopGhost
/- Layer 6: the reference's Equals. -/
namespace Go.Proofs.Ytmbdjjkgjnemiaa
open Go.RowKit
set_option linter.unusedVariables false

def iniE (N : List Nd) (p : Pt) : Bool := decide ((nd N p.1).k = (nd N p.2).k)
def prtE (N : List Nd) (p : Pt) : Option (Pt × Pt) := if 4 ≤ (nd N p.1).k then some (((nd N p.1).a, (nd N p.2).a), ((nd N p.1).b, (nd N p.2).b)) else none
theorem great_eq {N : List Nd} {n : Nat} (hn : N.length = n) (hok : OkN N) : Great n (iniE N) (prtE N) (EqT N) := by
  subst hn
  refine ⟨fun p hs => ?_, fun R hR p hp => ⟨R, fun q hq => ?_, hp⟩, fun p hp a b h => ?_⟩
  · have h := eqT_clo N p hs
    refine ⟨decide_eq_true h.1, fun a b hab => ?_⟩
    unfold prtE at hab
    by_cases e : 4 ≤ (nd N p.1).k
    · rw [if_pos e] at hab
      injection hab with hab
      injection hab with h1 h2
      subst h1 h2
      rcases h.2 with h3 | h3
      · omega
      · exact h3
    · rw [if_neg e] at hab; cases hab
  · obtain ⟨h1, h2⟩ := hR q hq
    refine ⟨of_decide_eq_true h1, ?_⟩
    by_cases e : 4 ≤ (nd N q.1).k
    · exact .inr (h2 _ _ (by unfold prtE; rw [if_pos e]))
    · exact .inl (by omega)
  · unfold prtE at h
    by_cases e : 4 ≤ (nd N p.1).k
    · rw [if_pos e] at h
      injection h with h
      injection h with h1 h2
      subst h1 h2
      exact ⟨⟨hok.a _ hp.1, hok.a _ hp.2⟩, hok.b _ hp.1, hok.b _ hp.2⟩
    · rw [if_neg e] at h; cases h
set_option maxRecDepth 100000 in
set_option maxHeartbeats 12800000 in
theorem equalsR_any (N : List Nd) (A : Option Addr) (n c : Nat) (w : World) (hN : Nl w A n c N) (hok : OkN N) (hn : n ≤ 1200) :
    Calls Try.prog 27 #[.slice A n c] w fun e w' => (∃ g vs, e = .returned (.slice (some ⟨g, 0, none⟩) (n * n) (n * n)) ∧ vs.length = n * n ∧ Owl w' w.heap.size (.slice (some ⟨g, 0, none⟩) (n * n) (n * n)) vs ∧ ∀ p, inP n p → (tb n vs p = true ↔ EqT N p)) ∧ Below w.heap.size w w' := by
  have HLN : Hid (N.length = n) := hN.len
  have HN := Lib.hid hN
  have HOK := Lib.hid hok
  have HG := Lib.hid (great_eq hN.len hok)
  obtain ⟨q, hq⟩ : ∃ q, q = n * n := ⟨_, rfl⟩
  have hmul : (n : Int) * (n : Int) = (q : Int) := by rw [hq]; simp
  have hqb : q ≤ 2000000 := by rw [hq]; have := Nat.mul_le_mul hn hn; omega
  have HQ := Lib.hid hq
  rw [← hq]
  obtain ⟨i1, hi, hz0, hz1, hz2⟩ := info_parts Try.infoBool
  have HIB : Hid (Try.prog.info? 4 = some i1 ∧ i1.zero = some (.bool false) ∧ i1.size = 1 ∧ i1.bytes = 1) := ⟨hi, hz0, hz1, hz2⟩
  have HTW : Hid (∀ {W : World} {vs : List Bool}, Owl W w.heap.size (.slice (some ⟨w.heap.size, 0, none⟩) q q) vs → vs.length = n * n → ∀ i j m, i < n → j < n → m = n * i → W.cell? ⟨w.heap.size, m + j, none⟩ = some (.bool (tb n vs (i, j))) ∧ m + j < q) := fun h hl i j m hi hj hm => h.tb_at (hl.trans hq.symm) hq hi hj hm
  have HMI : Hid (∀ i, ∃ m, m = n * i ∧ (n : Int) * (i : Int) = (m : Int)) := fun i => ⟨n * i, rfl, by simp⟩
  clear hN hok hi hz0 hz1 hz2 hq
  go_enter Try.func27, Try.ntmps27
  go_wp2_with (at_make; go_must (refine makel_law _ rfl (.tmp 14) (.tmp 14) 34 rfl w.heap.size i1 Try.underlying34 HIB.out _ _ q rfl rfl (by first | exact hmul | rfl) (by first | exact hmul | rfl) hqb (Nat.le_refl _) ?_); intro w3 hv3 hg3; have HV3 := Lib.hid hv3; clear hv3; have HG3 : Hid (Below w.heap.size w w3) := (Below.refl _ _).grown hg3 (Nat.le_refl _) (fun k h => by cases h); clear hg3)
  have HTI0 : Hid (TbI n (iniE N) (List.replicate q false) 0 0) := by rw [HQ.out]; exact TbI.start
  generalize List.replicate q false = vs0 at *
  generalize hs : w.heap.size = s at *
  -- the table is made
  go_loopw [5] (fun i w' => ∃ (k : Nat) (vs : List Bool), k ≤ n ∧ i = .int .i64 (k : Int) ∧ Hid (TbI n (iniE N) vs k 0) ∧ Hid (Owl w' s (.slice (some ⟨s, 0, none⟩) q q) vs) ∧ Hid (Below s w w')) (fun i _ => n - (intOf i).toNat)
  case atStart => exact ⟨0, vs0, by omega, by go_num, HTI0.out, HV3.out, HG3.out⟩
  case round =>
    obtain ⟨k, vs, hk, rfl, HTI, HOV, HBW⟩ := hrel
    obtain ⟨wo, rfl⟩ : ∃ wo : World, wo = wr := ⟨_, rfl⟩
    clear HTI0 HV3 HG3
    by_cases hlt : k < n
    · have i2 : (k : Int) < (n : Int) := by omega
      obtain ⟨m, hm, hmi⟩ := HMI.out k
      have HM := Lib.hid hm
      clear hm
      go_wp2
      go_loopw [6] (fun i w' => ∃ (t : Nat) (vs : List Bool), t ≤ n ∧ i = .int .i64 (t : Int) ∧ Hid (TbI n (iniE N) vs k t) ∧ Hid (Owl w' s (.slice (some ⟨s, 0, none⟩) q q) vs) ∧ Hid (Below s w w')) (fun i _ => n - (intOf i).toNat)
      case atStart => exact ⟨0, vs, by omega, by go_num, HTI.out, HOV.out, HBW.out⟩
      case round =>
        obtain ⟨t, vs', ht, rfl, HTI2, HOV2, HBW2⟩ := hrel
        obtain ⟨wi, rfl⟩ : ∃ wi : World, wi = wr := ⟨_, rfl⟩
        clear HTI HOV HBW
        by_cases hlt2 : t < n
        · have i3 : (t : Int) < (n : Int) := by omega
          obtain ⟨b, off', rfl, hbl, ⟨p0, p1, p2⟩, q0, q1, q2⟩ := (HN.out.below HBW2.out (Nat.le_of_eq hs)).two hlt hlt2
          have HIN : Hid (iniE N (k, t) = decide ((nd N k).k = (nd N t).k)) := rfl
          obtain ⟨hc, hmt⟩ := HTW.out HOV2.out HTI2.out.len k t m hlt hlt2 HM.out
          have hfr := HOV2.out.free (HTI2.out.len.trans HQ.out.symm) (m + t)
          generalize nd N k = x at *
          generalize nd N t = y at *
          obtain ⟨kx, ax, bx⟩ := x
          obtain ⟨ky, ay, byy⟩ := y
          dsimp only at p0 p1 p2 q0 q1 q2
          clear p1 p2 q1 q2
          have HPUT : Hid (∀ x, x = iniE N (k, t) → TbI n (iniE N) (vs'.set (m + t) x) k (t + 1)) := fun x hx => by rw [HM.out]; exact HTI2.out.put hlt hlt2 hx
          have HOP : Hid (∀ nq x, Owl ((wi.drewN nq).setCell ⟨s, m + t, none⟩ (.bool x)) s (.slice (some ⟨s, 0, none⟩) q q) (vs'.set (m + t) x)) := fun nq x => Owl.put (w := wi.drewN nq) HOV2.out (HTI2.out.len.trans HQ.out.symm) (m + t) x
          have HBP : Hid (∀ nq x, Below s w ((wi.drewN nq).setCell ⟨s, m + t, none⟩ (.bool x))) := fun nq x => (below_dn HBW2.out nq).setCell (Nat.le_refl _) _
          clear HTI2 HOV2 HBW2
          by_cases hxy : kx = ky
          · have HX := Lib.hid (HPUT.out true (by rw [HIN.out, decide_eq_true hxy]))
            have e2 : ((kx : Int) == (ky : Int)) = true := by simp; omega
            clear hxy
            go_wp2
            have hw1 : IntKind.i64.wrap (m : Int) = (m : Int) := IntWalk.i64_in _ (by omega)
            have hw2 : IntKind.i64.wrap ((m : Int) + (t : Int)) = (m : Int) + (t : Int) := IntWalk.i64_in _ (by omega)
            have ht1 : ((m : Int) + (t : Int)).toNat = m + t := by omega
            have ht2 : (0 : Int) ≤ (m : Int) + (t : Int) := by omega
            have ht3 : (m : Int) + (t : Int) < (q : Int) := by omega
            go_region
            all_goals (
              clear hw1 hw2 ht1 ht2 ht3
              go_wp2
              exact ⟨⟨t + 1, _, by omega, by go_num, HX.out, HOP.out 1 _, HBP.out 1 _⟩, by simp [intOf]; omega⟩)
          · have HX := Lib.hid (HPUT.out false (by rw [HIN.out, decide_eq_false hxy]))
            have e2 : ((kx : Int) == (ky : Int)) = false := by simp; omega
            clear hxy
            go_wp2
            have hw1 : IntKind.i64.wrap (m : Int) = (m : Int) := IntWalk.i64_in _ (by omega)
            have hw2 : IntKind.i64.wrap ((m : Int) + (t : Int)) = (m : Int) + (t : Int) := IntWalk.i64_in _ (by omega)
            have ht1 : ((m : Int) + (t : Int)).toNat = m + t := by omega
            have ht2 : (0 : Int) ≤ (m : Int) + (t : Int) := by omega
            have ht3 : (m : Int) + (t : Int) < (q : Int) := by omega
            go_region
            all_goals (
              clear hw1 hw2 ht1 ht2 ht3
              go_wp2
              exact ⟨⟨t + 1, _, by omega, by go_num, HX.out, HOP.out 1 _, HBP.out 1 _⟩, by simp [intOf]; omega⟩)
        · have htn : t = n := by omega
          subst htn
          have i3 : ¬ (t : Int) < (t : Int) := by omega
          have HX := Lib.hid HTI2.out.row
          go_wp2
          exact ⟨⟨k + 1, vs', by omega, by go_num, HX.out, HOV2.out, HBW2.out⟩, by simp [intOf]; omega⟩
    · have hkn : k = n := by omega
      subst hkn
      have i2 : ¬ (k : Int) < (k : Int) := by omega
      have HOK1 := Lib.hid (HTI.out.done HG.out)
      clear hlt hk HTI
      go_wp2
      -- pairs are removed
      go_loopg [7] (2 * vs.count true + 1) (fun gk ag w' => ∃ (b : Bool) (vs : List Bool), ag = .bool b ∧ gk = 2 * vs.count true + b.toNat ∧ Hid (TbQ k (iniE N) (EqT N) b vs) ∧ Hid (Owl w' s (.slice (some ⟨s, 0, none⟩) q q) vs) ∧ Hid (Below s w w'))
      case atStart => exact ⟨true, vs, rfl, rfl, ⟨HOK1.out, fun e => (by cases e)⟩, HOV.out, HBW.out⟩
      case round =>
        obtain ⟨b, vs1, rfl, hgk, HTQ, HOV1, HBW1⟩ := hrel
        have HGK := Lib.hid hgk
        clear hgk HOK1 HOV HBW
        obtain ⟨wo2, rfl⟩ : ∃ wo : World, wo = wr := ⟨_, rfl⟩
        rcases b with _ | _
        · have HF := Lib.hid (HTQ.out.fin rfl)
          have HL1 := Lib.hid HTQ.out.ok.len
          go_wp2
          go_ret
          exact ⟨⟨s, vs1, rfl, by rw [HQ.out]; exact HL1.out, by rw [hs]; exact HOV1.out, HF.out⟩, by rw [hs]; exact HBW1.out⟩
        · have hl1 := HTQ.out.ok.len
          have HTP0 := Lib.hid (HTQ.out.ok.pass (prt := prtE N))
          obtain ⟨c0, hc0⟩ : ∃ c0, c0 = vs1.count true := ⟨_, rfl⟩
          rw [← hc0] at HTP0 HGK
          clear hc0 hl1 HTQ
          go_wp2
          go_loopw [7, 8] (fun ag i w' => ∃ (b : Bool) (r : Nat) (vs : List Bool), ag = .bool b ∧ r ≤ k ∧ i = .int .i64 (r : Int) ∧ Hid (TbP k (iniE N) (prtE N) (EqT N) b vs c0 r 0) ∧ Hid (Owl w' s (.slice (some ⟨s, 0, none⟩) q q) vs) ∧ Hid (Below s w w')) (fun _ i _ => k - (intOf i).toNat)
          case atStart => exact ⟨false, 0, vs1, rfl, by omega, by go_num, HTP0.out, HOV1.out, HBW1.out⟩
          case round =>
            obtain ⟨b2, r, vs2, rfl, hr, rfl, HTP, HOV2, HBW2⟩ := hrel
            obtain ⟨wo3, rfl⟩ : ∃ wo : World, wo = wr := ⟨_, rfl⟩
            clear HTP0 HOV1 HBW1
            by_cases hlt : r < k
            · have i4 : (r : Int) < (k : Int) := by omega
              obtain ⟨m, hm, hmi⟩ := HMI.out r
              have HM := Lib.hid hm
              clear hm
              go_wp2
              go_loopw [7, 9] (fun ag i w' => ∃ (b : Bool) (t : Nat) (vs : List Bool), ag = .bool b ∧ t ≤ k ∧ i = .int .i64 (t : Int) ∧ Hid (TbP k (iniE N) (prtE N) (EqT N) b vs c0 r t) ∧ Hid (Owl w' s (.slice (some ⟨s, 0, none⟩) q q) vs) ∧ Hid (Below s w w')) (fun _ i _ => k - (intOf i).toNat)
              case atStart => exact ⟨b2, 0, vs2, rfl, by omega, by go_num, HTP.out, HOV2.out, HBW2.out⟩
              case round =>
                obtain ⟨b3, t, vs3, rfl, ht, rfl, HTP3, HOV3, HBW3⟩ := hrel
                obtain ⟨W, rfl⟩ : ∃ wi : World, wi = wr := ⟨_, rfl⟩
                clear HTP HOV2 HBW2
                by_cases hlt2 : t < k
                · have i5 : (t : Int) < (k : Int) := by omega
                  obtain ⟨b, off', rfl, hbl, ⟨p0, p1, p2⟩, q0, q1, q2⟩ := (HN.out.below HBW3.out (Nat.le_of_eq hs)).two hlt hlt2
                  have hpx := HOK.out.a r (by rw [HLN.out]; exact hlt)
                  have hpy := HOK.out.a t (by rw [HLN.out]; exact hlt2)
                  have hbx := HOK.out.b r (by rw [HLN.out]; exact hlt)
                  have hby := HOK.out.b t (by rw [HLN.out]; exact hlt2)
                  rw [HLN.out] at hpx hpy hbx hby
                  have HPE : Hid (prtE N (r, t) = if 4 ≤ (nd N r).k then some (((nd N r).a, (nd N t).a), ((nd N r).b, (nd N t).b)) else none) := rfl
                  generalize nd N r = x at *
                  generalize nd N t = y at *
                  obtain ⟨kx, ax, bx⟩ := x
                  obtain ⟨ky, ay, byy⟩ := y
                  dsimp only at p0 p1 p2 q0 q1 q2 HPE hpx hpy hbx hby
                  obtain ⟨hc, hmt⟩ := HTW.out HOV3.out HTP3.out.ok.len r t m hlt hlt2 HM.out
                  have HSKF : Hid (tb k vs3 (r, t) = false → TbP k (iniE N) (prtE N) (EqT N) b3 vs3 c0 r (t + 1)) := fun h => HTP3.out.skip fun h' => by rw [h] at h'; cases h'
                  have HOQ : Hid (∀ nq, Owl (W.drewN nq) s (.slice (some ⟨s, 0, none⟩) q q) vs3 ∧ Below s w (W.drewN nq)) := fun nq => ⟨HOV3.out.below (below_dn (Below.refl _ W) nq) (Nat.le_refl _), below_dn HBW3.out nq⟩
                  have hfr : ∀ nq, (W.drewN nq).frozen? ⟨s, m + t, none⟩ = false := fun nq => (HOQ.out nq).1.free (HTP3.out.ok.len.trans HQ.out.symm) (m + t)
                  have HOP : Hid (∀ nq, Owl ((W.drewN nq).setCell ⟨s, m + t, none⟩ (.bool false)) s (.slice (some ⟨s, 0, none⟩) q q) (vs3.set (m + t) false)) := fun nq => Owl.put (HOQ.out nq).1 (HTP3.out.ok.len.trans HQ.out.symm) (m + t) false
                  have HBP : Hid (∀ nq, Below s w ((W.drewN nq).setCell ⟨s, m + t, none⟩ (.bool false))) := fun nq => (HOQ.out nq).2.setCell (Nat.le_refl _) _
                  obtain ⟨m1, hm1, hm1i⟩ := HMI.out ax
                  obtain ⟨d1, hd1⟩ := HTW.out HOV3.out HTP3.out.ok.len ax ay m1 hpx hpy hm1
                  obtain ⟨m3, hm3, hm3i⟩ := HMI.out bx
                  obtain ⟨d3, hd3⟩ := HTW.out HOV3.out HTP3.out.ok.len bx byy m3 hbx hby hm3
                  have HOV4 := HOV3
                  clear hm1 hm3 hpx hpy hbx hby HBW3 HOV3
                  rcases hx : tb k vs3 (r, t) with _ | _
                  · have HX := Lib.hid (HSKF.out hx)
                    rw [hx] at hc
                    clear hx HSKF
                    go_wp2
                    have hw1 : IntKind.i64.wrap (m : Int) = (m : Int) := IntWalk.i64_in _ (by omega)
                    have hw2 : IntKind.i64.wrap ((m : Int) + (t : Int)) = (m : Int) + (t : Int) := IntWalk.i64_in _ (by omega)
                    have ht1 : ((m : Int) + (t : Int)).toNat = m + t := by omega
                    have ht2 : (0 : Int) ≤ (m : Int) + (t : Int) := by omega
                    have ht3 : (m : Int) + (t : Int) < (q : Int) := by omega
                    go_quiet (fail)
                    clear hw1 hw2 ht1 ht2 ht3
                    go_wp2
                    exact ⟨⟨b3, t + 1, vs3, rfl, by omega, by go_num, HX.out, (HOQ.out _).1, (HOQ.out _).2⟩, by simp [intOf]; omega⟩
                  · rw [hx] at hc
                    by_cases h4 : 4 ≤ kx
                    · have i9 : (kx : Int) ≥ 4 := by omega
                      rw [if_pos h4] at HPE
                      have HSK2 : Hid (tb k vs3 (ax, ay) = true → tb k vs3 (bx, byy) = true → TbP k (iniE N) (prtE N) (EqT N) b3 vs3 c0 r (t + 1)) := fun ha hb => HTP3.out.skip fun _ a b hab => by
                        rw [HPE.out] at hab
                        injection hab with hab
                        injection hab with e1 e2
                        rw [← e1, ← e2]
                        exact ⟨ha, hb⟩
                      have HCL2 : Hid (¬ (tb k vs3 (ax, ay) = true ∧ tb k vs3 (bx, byy) = true) → TbP k (iniE N) (prtE N) (EqT N) true (vs3.set (m + t) false) c0 r (t + 1)) := fun h => by
                        rw [HM.out]
                        exact HTP3.out.clear HG.out hlt hlt2 hx HPE.out h
                      clear hx HSKF h4
                      rcases ha : tb k vs3 (ax, ay) with _ | _
                      · have HX := Lib.hid (HCL2.out (fun h => by rw [ha] at h; cases h.1))
                        rw [ha] at d1
                        clear ha
                        go_wp2
                        have hw1 : IntKind.i64.wrap (m : Int) = (m : Int) := IntWalk.i64_in _ (by omega)
                        have hw2 : IntKind.i64.wrap ((m : Int) + (t : Int)) = (m : Int) + (t : Int) := IntWalk.i64_in _ (by omega)
                        have ht1 : ((m : Int) + (t : Int)).toNat = m + t := by omega
                        have ht2 : (0 : Int) ≤ (m : Int) + (t : Int) := by omega
                        have ht3 : (m : Int) + (t : Int) < (q : Int) := by omega
                        have hw3 : IntKind.i64.wrap (m1 : Int) = (m1 : Int) := IntWalk.i64_in _ (by omega)
                        have hw4 : IntKind.i64.wrap ((m1 : Int) + (ay : Int)) = (m1 : Int) + (ay : Int) := IntWalk.i64_in _ (by omega)
                        have ht4 : ((m1 : Int) + (ay : Int)).toNat = m1 + ay := by omega
                        have ht5 : (0 : Int) ≤ (m1 : Int) + (ay : Int) := by omega
                        have ht6 : (m1 : Int) + (ay : Int) < (q : Int) := by omega
                        have hw5 : IntKind.i64.wrap (m3 : Int) = (m3 : Int) := IntWalk.i64_in _ (by omega)
                        have hw6 : IntKind.i64.wrap ((m3 : Int) + (byy : Int)) = (m3 : Int) + (byy : Int) := IntWalk.i64_in _ (by omega)
                        have ht7 : ((m3 : Int) + (byy : Int)).toNat = m3 + byy := by omega
                        have ht8 : (0 : Int) ≤ (m3 : Int) + (byy : Int) := by omega
                        have ht9 : (m3 : Int) + (byy : Int) < (q : Int) := by omega
                        go_quiet (fail)
                        clear hw1 hw2 hw3 hw4 hw5 hw6 ht1 ht2 ht3 ht4 ht5 ht6 ht7 ht8 ht9
                        have hcq : (W.drewN nq).cell? ⟨s, m + t, none⟩ = some (.bool true) := hc
                        have hfq := hfr nq
                        have HOPQ := Lib.hid (HOP.out nq)
                        have HBPQ := Lib.hid (HBP.out nq)
                        generalize W.drewN nq = Wq at *
                        go_wp2
                        exact ⟨⟨true, t + 1, _, rfl, by omega, by go_num, HX.out, HOPQ.out, HBPQ.out⟩, by simp [intOf]; omega⟩
                      · rcases hb : tb k vs3 (bx, byy) with _ | _
                        · have HX := Lib.hid (HCL2.out (fun h => by rw [hb] at h; cases h.2))
                          rw [ha] at d1
                          rw [hb] at d3
                          clear ha hb
                          go_wp2
                          have hw1 : IntKind.i64.wrap (m : Int) = (m : Int) := IntWalk.i64_in _ (by omega)
                          have hw2 : IntKind.i64.wrap ((m : Int) + (t : Int)) = (m : Int) + (t : Int) := IntWalk.i64_in _ (by omega)
                          have ht1 : ((m : Int) + (t : Int)).toNat = m + t := by omega
                          have ht2 : (0 : Int) ≤ (m : Int) + (t : Int) := by omega
                          have ht3 : (m : Int) + (t : Int) < (q : Int) := by omega
                          have hw3 : IntKind.i64.wrap (m1 : Int) = (m1 : Int) := IntWalk.i64_in _ (by omega)
                          have hw4 : IntKind.i64.wrap ((m1 : Int) + (ay : Int)) = (m1 : Int) + (ay : Int) := IntWalk.i64_in _ (by omega)
                          have ht4 : ((m1 : Int) + (ay : Int)).toNat = m1 + ay := by omega
                          have ht5 : (0 : Int) ≤ (m1 : Int) + (ay : Int) := by omega
                          have ht6 : (m1 : Int) + (ay : Int) < (q : Int) := by omega
                          have hw5 : IntKind.i64.wrap (m3 : Int) = (m3 : Int) := IntWalk.i64_in _ (by omega)
                          have hw6 : IntKind.i64.wrap ((m3 : Int) + (byy : Int)) = (m3 : Int) + (byy : Int) := IntWalk.i64_in _ (by omega)
                          have ht7 : ((m3 : Int) + (byy : Int)).toNat = m3 + byy := by omega
                          have ht8 : (0 : Int) ≤ (m3 : Int) + (byy : Int) := by omega
                          have ht9 : (m3 : Int) + (byy : Int) < (q : Int) := by omega
                          go_quiet (fail)
                          clear hw1 hw2 hw3 hw4 hw5 hw6 ht1 ht2 ht3 ht4 ht5 ht6 ht7 ht8 ht9
                          have hcq : (W.drewN nq).cell? ⟨s, m + t, none⟩ = some (.bool true) := hc
                          have hfq := hfr nq
                          have HOPQ := Lib.hid (HOP.out nq)
                          have HBPQ := Lib.hid (HBP.out nq)
                          generalize W.drewN nq = Wq at *
                          go_wp2
                          exact ⟨⟨true, t + 1, _, rfl, by omega, by go_num, HX.out, HOPQ.out, HBPQ.out⟩, by simp [intOf]; omega⟩
                        · have HX := Lib.hid (HSK2.out ha hb)
                          rw [ha] at d1
                          rw [hb] at d3
                          clear ha hb
                          go_wp2
                          have hw1 : IntKind.i64.wrap (m : Int) = (m : Int) := IntWalk.i64_in _ (by omega)
                          have hw2 : IntKind.i64.wrap ((m : Int) + (t : Int)) = (m : Int) + (t : Int) := IntWalk.i64_in _ (by omega)
                          have ht1 : ((m : Int) + (t : Int)).toNat = m + t := by omega
                          have ht2 : (0 : Int) ≤ (m : Int) + (t : Int) := by omega
                          have ht3 : (m : Int) + (t : Int) < (q : Int) := by omega
                          have hw3 : IntKind.i64.wrap (m1 : Int) = (m1 : Int) := IntWalk.i64_in _ (by omega)
                          have hw4 : IntKind.i64.wrap ((m1 : Int) + (ay : Int)) = (m1 : Int) + (ay : Int) := IntWalk.i64_in _ (by omega)
                          have ht4 : ((m1 : Int) + (ay : Int)).toNat = m1 + ay := by omega
                          have ht5 : (0 : Int) ≤ (m1 : Int) + (ay : Int) := by omega
                          have ht6 : (m1 : Int) + (ay : Int) < (q : Int) := by omega
                          have hw5 : IntKind.i64.wrap (m3 : Int) = (m3 : Int) := IntWalk.i64_in _ (by omega)
                          have hw6 : IntKind.i64.wrap ((m3 : Int) + (byy : Int)) = (m3 : Int) + (byy : Int) := IntWalk.i64_in _ (by omega)
                          have ht7 : ((m3 : Int) + (byy : Int)).toNat = m3 + byy := by omega
                          have ht8 : (0 : Int) ≤ (m3 : Int) + (byy : Int) := by omega
                          have ht9 : (m3 : Int) + (byy : Int) < (q : Int) := by omega
                          go_quiet (fail)
                          clear hw1 hw2 hw3 hw4 hw5 hw6 ht1 ht2 ht3 ht4 ht5 ht6 ht7 ht8 ht9
                          go_wp2
                          exact ⟨⟨b3, t + 1, vs3, rfl, by omega, by go_num, HX.out, (HOQ.out _).1, (HOQ.out _).2⟩, by simp [intOf]; omega⟩
                    · have i9 : ¬ (kx : Int) ≥ 4 := by omega
                      have g9 : decide ((4 : Int) ≤ (kx : Int)) = false := decide_eq_false (by omega)
                      have g8 : decide (4 ≤ kx) = false := decide_eq_false (by omega)
                      have HX : Hid (TbP k (iniE N) (prtE N) (EqT N) b3 vs3 c0 r (t + 1)) := HTP3.out.skip fun _ a b hab => by
                        rw [HPE.out, if_neg h4] at hab; cases hab
                      clear hx HSKF h4
                      go_wp2
                      have hw1 : IntKind.i64.wrap (m : Int) = (m : Int) := IntWalk.i64_in _ (by omega)
                      have hw2 : IntKind.i64.wrap ((m : Int) + (t : Int)) = (m : Int) + (t : Int) := IntWalk.i64_in _ (by omega)
                      have ht1 : ((m : Int) + (t : Int)).toNat = m + t := by omega
                      have ht2 : (0 : Int) ≤ (m : Int) + (t : Int) := by omega
                      have ht3 : (m : Int) + (t : Int) < (q : Int) := by omega
                      have hw3 : IntKind.i64.wrap (m1 : Int) = (m1 : Int) := IntWalk.i64_in _ (by omega)
                      have hw4 : IntKind.i64.wrap ((m1 : Int) + (ay : Int)) = (m1 : Int) + (ay : Int) := IntWalk.i64_in _ (by omega)
                      have ht4 : ((m1 : Int) + (ay : Int)).toNat = m1 + ay := by omega
                      have ht5 : (0 : Int) ≤ (m1 : Int) + (ay : Int) := by omega
                      have ht6 : (m1 : Int) + (ay : Int) < (q : Int) := by omega
                      have hw5 : IntKind.i64.wrap (m3 : Int) = (m3 : Int) := IntWalk.i64_in _ (by omega)
                      have hw6 : IntKind.i64.wrap ((m3 : Int) + (byy : Int)) = (m3 : Int) + (byy : Int) := IntWalk.i64_in _ (by omega)
                      have ht7 : ((m3 : Int) + (byy : Int)).toNat = m3 + byy := by omega
                      have ht8 : (0 : Int) ≤ (m3 : Int) + (byy : Int) := by omega
                      have ht9 : (m3 : Int) + (byy : Int) < (q : Int) := by omega
                      go_quiet (fail)
                      clear hw1 hw2 hw3 hw4 hw5 hw6 ht1 ht2 ht3 ht4 ht5 ht6 ht7 ht8 ht9
                      go_wp2
                      exact ⟨⟨b3, t + 1, vs3, rfl, by omega, by go_num, HX.out, (HOQ.out _).1, (HOQ.out _).2⟩, by simp [intOf]; omega⟩
                · have htn : t = k := by omega
                  subst htn
                  have i5 : ¬ (t : Int) < (t : Int) := by omega
                  have HX := Lib.hid HTP3.out.row
                  go_wp2
                  exact ⟨⟨b3, r + 1, vs3, rfl, by omega, by go_num, HX.out, HOV3.out, HBW3.out⟩, by simp [intOf]; omega⟩
            · have hrk : r = k := by omega
              subst hrk
              have i4 : ¬ (r : Int) < (r : Int) := by omega
              have HOK2 := Lib.hid HTP.out.ok
              have HLE := Lib.hid HTP.out.le
              have HLT := Lib.hid HTP.out.lt
              have HFN : Hid (b2 = false → ∀ p, inP r p → (tb r vs2 p = true ↔ EqT N p)) := fun e p hp => by
                have h := HTP.out
                subst e
                exact h.done HG.out hp
              clear HTP hlt hr
              go_wp2
              go_roundg (2 * vs2.count true + b2.toNat)
              case measure =>
                have h1 := HLE.out
                have h2 := HLT.out
                rw [HGK.out]
                rcases b2 with _ | _
                · simp; omega
                · have := h2 rfl
                  simp; omega
              case rel => exact ⟨b2, vs2, rfl, rfl, ⟨HOK2.out, HFN.out⟩, HOV2.out, HBW2.out⟩
end Go.Proofs.Ytmbdjjkgjnemiaa
