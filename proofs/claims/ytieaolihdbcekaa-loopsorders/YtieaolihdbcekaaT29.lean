import Derived.Test.YtieaolihdbcekaaT27
import Derived.Test.YtieaolihdbcekaaT22
import Derived.Test.YtieaolihdbcekaaT28
import Derived.Test.YtieaolihdbcekaaT10
/- Layer 6: the walk of LoopsOrders. -/
namespace Go.Proofs.Ytieaolihdbcekaa
open Go.RowKit
set_option linter.unusedVariables false

theorem bad1_val (xs : List Ty) (i : Int) (hv : valB xs = true) : ((valB xs && inB xs.length i) = false ∧ badB xs i i = true) ∨ (badB xs i i = false ∧ ∃ p : Nat, i = (p : Int) ∧ p < xs.length) := by
  unfold badB
  rw [hv]
  rcases h : inB xs.length i with _ | _
  · exact .inl ⟨rfl, rfl⟩
  · have h2 := inB_iff.1 h
    exact .inr ⟨rfl, i.toNat, by omega, by omega⟩
/-- The law's list between two steps. -/
structure WnS (P : Pt → Bool) (n : Nat) (W0 : World) (L : List Pt) (u : Value) (W : World) : Prop where
  ow : Owp W W0.heap.size 23 u (L.map ptI)
  bl : Below W0.heap.size W0 W
theorem WnS.push {P : Pt → Bool} {n : Nat} {W0 : World} {L : List Pt} {u u' : Value} {W W9 : World} {i j : Nat} (h : WnS P n W0 L u W) (hv : Owp W9 W0.heap.size 23 u' (L.map ptI ++ [((i : Int), (j : Int))])) (hg : World.grownBy W W9 u.ownBlock) : WnS P n W0 (L ++ [(i, j)]) u' W9 :=
  ⟨by rw [List.map_append]; exact hv, h.bl.grown hg h.bl.size (fun k e => (h.ow.lt e).1)⟩
set_option maxRecDepth 100000 in
set_option maxHeartbeats 12800000 in
theorem orders_walk (zs : List Ty) (A : Option Addr) (len cap : Nat) (i : Int) (w : World) (hT : Tl w A len cap zs) :
    Calls Try.prog 7 #[.slice A len cap, .int .i64 i] w fun e w' => e = .returned (.bool true) ∧ Below w.heap.size w w' := by
  have HOWN := Lib.hid (own_any zs A len cap w hT)
  clear hT
  go_enter Try.func7, Try.ntmps7
  go_wp2_with (go_at_call 15; refine HOWN.out.mono ?_; rintro e w2 ⟨⟨Y, k, c, rfl, hk25, htl⟩, hb1⟩)
  have HBQ := Lib.hid hb1
  have HTQ := Lib.hid htl
  clear hb1 htl HOWN
  generalize cutT zs = xs at *
  have HLX : Hid (xs.length = k) := HTQ.out.len
  have HTYP : Hid (∀ W, Below w2.heap.size w2 W → Calls Try.prog 33 #[.slice Y k c, .int .i64 24] W fun e w' => e = .returned (.bool (valB xs)) ∧ Below W.heap.size W w') := fun W h => by
    have := typesR_any xs Y k c 24 W (HTQ.out.below h (Nat.le_refl _)) (by omega)
    rw [typB_val] at this
    exact this
  rcases hv : valB xs with _ | _
  · have HDB := Lib.hid (depth_bad xs Y k c i w2 HTQ.out (by rw [hv]; rfl))
    have HOB := Lib.hid (fun W h => order_bad xs Y k c W (HTQ.out.below h (Nat.le_refl w2.heap.size)) hv)
    rw [hv] at HTYP
    clear hv
    go_wp2_with (first
      | (go_at_call 31; refine HDB.out.mono ?_; rintro e w3 ⟨rfl, hb3⟩; have HB3 := Lib.hid hb3; clear hb3)
      | (go_at_call 32; refine (HOB.out _ HB3.out).mono ?_; rintro e w4 ⟨rfl, hb4⟩; have HB4 := Lib.hid (HB3.out.trans (hb4.mono HB3.out.size)); clear hb4)
      | (go_at_call 33; refine (HTYP.out _ HB4.out).mono ?_; rintro e w5 ⟨rfl, hb5⟩; have HB5 := Lib.hid (HB4.out.trans (hb5.mono HB4.out.size)); clear hb5)
      | (go_at_call 19; refine (awake_here _).mono ?_; rintro e w9 ⟨rfl, hb9⟩))
    go_ret
    exact ⟨rfl, HBQ.out.trans ((HB5.out.trans (hb9.mono HB5.out.size)).mono HBQ.out.size)⟩
  · have hk24 : k ≤ 24 := by have := (valB_len hv).2; have := HLX.out; omega
    have HNL := Lib.hid (HTQ.out.nl hv)
    have HOK := Lib.hid (valB_ok hv)
    have HLN : Hid ((toN xs).length = k) := by rw [Hid, toN_len]; exact HLX.out
    obtain ⟨N, hNe⟩ : ∃ N, N = toN xs := ⟨_, rfl⟩
    -- Depth's answer, whatever i is
    have HDP : Hid (∃ dn de : Int, (Calls Try.prog 31 #[.slice Y k c, .int .i64 i] w2 fun e w' => e = .returned (.tuple #[.int .i64 dn, .int .i64 de]) ∧ Below w2.heap.size w2 w') ∧ ((badB xs i i = true ∧ dn = 0 ∧ de = 2) ∨ (badB xs i i = false ∧ ∃ p : Nat, i = (p : Int) ∧ p < k ∧ ∃ r : Nat, ((dep N (k + 1) p ≤ k ∧ dn = ((dep N (k + 1) p : Nat) : Int) ∧ de = 0) ∨ (¬ dep N (k + 1) p ≤ k ∧ dn = 0 ∧ de = 6))))) := by
      rcases bad1_val xs i hv with ⟨h1, h2⟩ | ⟨h1, p, rfl, hp⟩
      · exact ⟨0, 2, depth_bad xs Y k c i w2 HTQ.out h1, .inl ⟨h2, rfl, rfl⟩⟩
      · rw [HLX.out] at hp
        have hd := depth_of xs Y k c p w2 HTQ.out hv hp
        rw [← hNe] at hd
        have hok := HOK.out
        rw [← hNe] at hok
        have hln := HLN.out
        rw [← hNe] at hln
        by_cases hlt : dep N k p < k
        · have e1 : dep N (k + 1) p = dep N k p := dep_fin hlt 1
          refine ⟨(dep N k p : Nat), 0, hd.mono ?_, .inr ⟨h1, p, rfl, hp, 0, .inl ⟨by omega, by rw [e1], rfl⟩⟩⟩
          rintro e w' ⟨⟨_, rfl⟩ | ⟨h, rfl⟩, hb⟩
          · exact ⟨rfl, hb⟩
          · omega
        · have hle := dep_le N k p
          have e1 : dep N (k + 1) p = k + 1 := by
            have := dep_inf hok (i := p) (by omega) (by rw [hln]; omega) 1
            rw [hln] at this
            exact this
          refine ⟨0, 6, hd.mono ?_, .inr ⟨h1, p, rfl, hp, 0, .inr ⟨by omega, rfl, rfl⟩⟩⟩
          rintro e w' ⟨⟨h, rfl⟩ | ⟨_, rfl⟩, hb⟩
          · omega
          · exact ⟨rfl, hb⟩
    obtain ⟨dn, de, HDC, HDV⟩ := HDP.out
    have HDC := Lib.hid HDC
    have HDV := Lib.hid HDV
    have HOR : Hid (∀ W, Below w2.heap.size w2 W → Calls Try.prog 32 #[.slice Y k c] W fun e w' => (∃ B m d, e = .returned (.tuple #[.slice B m d, .int .i64 0]) ∧ m = (ordTo (subD N) k k).length ∧ Plr w' B m d ((ordTo (subD N) k k).map ptI)) ∧ Below W.heap.size W w') := fun W h => by
      refine (order_any xs Y k c W (HTQ.out.below h (Nat.le_refl _)) hv).mono ?_
      rintro e w' ⟨⟨u, rfl, hu⟩, hb⟩
      rw [← hNe] at hu
      have hl := ordTo_len (subD N) k k
      have hm : k * k ≤ 24 * 24 := Nat.mul_le_mul hk24 hk24
      obtain ⟨B, d, rfl, hp⟩ := hu.plr (n := (ordTo (subD N) k k).length) (by rw [List.length_map]) (by omega)
      exact ⟨⟨B, _, d, rfl, rfl, hp⟩, hb⟩
    have HST : Hid (∀ W, Below w2.heap.size w2 W → Calls Try.prog 20 #[.slice Y k c] W fun e w' => (∃ g q vs, e = .returned (.slice (some ⟨g, 0, none⟩) q q) ∧ q = k * k ∧ q ≤ 1000000 ∧ vs.length = q ∧ Owl w' W.heap.size (.slice (some ⟨g, 0, none⟩) q q) vs ∧ ∀ p, inP k p → tb k vs p = subD N p) ∧ Below W.heap.size W w') := fun W h => by
      have h2 := subtypes_any (toN xs) Y k c W (HNL.out.below h (Nat.le_refl _)) HOK.out (by omega)
      refine h2.mono ?_
      rintro e w' ⟨⟨g, vs, rfl, hl, ho, hif⟩, hb⟩
      refine ⟨⟨g, k * k, vs, rfl, rfl, by have := Nat.mul_le_mul hk24 hk24; omega, hl, ho, fun p hp => ?_⟩, hb⟩
      rw [Bool.eq_iff_iff, hif p hp, subD_iff, hNe]
    have HDR : Hid (∀ W p, Below w2.heap.size w2 W → p < k → Calls Try.prog 35 #[.slice Y k c, .int .i64 (p : Int)] W fun e w' => e = .returned (.tuple #[.int .i64 (dep N (k + 1) p : Nat), .bool (decide (dep N (k + 1) p ≤ k))]) ∧ Below W.heap.size W w') := fun W p h hp => by
      have := depthR_any (toN xs) Y k c p W (HNL.out.below h (Nat.le_refl _)) HOK.out hp hk24
      rw [← hNe] at this
      exact this
    have HBAD := Lib.hid (fun W h => bad_any xs Y k c i i W (HTQ.out.below h (Nat.le_refl w2.heap.size)))
    obtain ⟨ti, hi0, hz0, hz1, hz2⟩ := info_parts Try.infoPt
    have HIP : Hid (Try.prog.info? 23 = some ti ∧ ti.zero = some (.agg #[.int .i64 0, .int .i64 0]) ∧ ti.size = 2 ∧ ti.bytes = 16) := ⟨hi0, hz0, hz1, hz2⟩
    have HMI : Hid (∀ i, ∃ m, m = k * i ∧ (k : Int) * (i : Int) = (m : Int)) := fun i => ⟨k * i, rfl, by simp⟩
    rw [hv] at HTYP
    clear hv hNe HTQ HNL HOK HLN HDP hi0 hz0 hz1 hz2
    go_wp2_with (first
      | (go_at_call 31; refine HDC.out.mono ?_; rintro e w3 ⟨rfl, hb3⟩; have HB3 := Lib.hid hb3; clear hb3)
      | (go_at_call 32; refine (HOR.out _ HB3.out).mono ?_; rintro e w4 ⟨⟨B4, m4, d4, rfl, hm4, hp4⟩, hb4⟩; have HP4 := Lib.hid hp4; have HM4 := Lib.hid hm4; have HB4 := Lib.hid (HB3.out.trans (hb4.mono HB3.out.size)); clear hb4 hm4 hp4)
      | (go_at_call 33; refine (HTYP.out _ HB4.out).mono ?_; rintro e w5 ⟨rfl, hb5⟩; have HB5 := Lib.hid (HB4.out.trans (hb5.mono HB4.out.size)); have HP5 := Lib.hid (HP4.out.below hb5 (Nat.le_refl _)); clear hb5)
      | (go_at_call 20; refine (HST.out _ HB5.out).mono ?_; rintro e w6 ⟨⟨g, q, vs, rfl, hq, hqb, hl, ho, hif⟩, hb6⟩; have HQ := Lib.hid hq; have HL := Lib.hid hl; have HO := Lib.hid ho; have HIF := Lib.hid hif; have HB6 := Lib.hid (HB5.out.trans (hb6.mono HB5.out.size)); have HP6 := Lib.hid (HP5.out.below hb6 (Nat.le_refl _)); clear hb6 hq hl ho hif))
    have HW0 : Hid (WnS (subD N) k w6 (ordTo (subD N) k 0) (.slice none 0 0) w6) := ⟨Owp.nil _ _ _, Below.refl _ _⟩
    have HTW : Hid (∀ W, Below w6.heap.size w6 W → ∀ i j m, i < k → j < k → m = k * i → W.cell? ⟨g, m + j, none⟩ = some (.bool (subD N (i, j))) ∧ m + j < q) := fun W hW i j m hi hj hm => by
      have := (HO.out.below hW (Nat.le_refl _)).tb_at HL.out HQ.out hi hj hm
      rw [HIF.out (i, j) ⟨hi, hj⟩] at this
      exact this
    clear HDC HOR HST HIF HO HL
    go_loopw [11, 12] (fun u iv w' => ∃ i : Nat, i ≤ k ∧ iv = .int .i64 (i : Int) ∧ Hid (WnS (subD N) k w6 (ordTo (subD N) k i) u w')) (fun _ iv _ => k - (intOf iv).toNat)
    case atStart => exact ⟨0, by omega, by go_num, HW0.out⟩
    case round =>
      obtain ⟨a, ha, rfl, HS⟩ := hrel
      obtain ⟨wo, rfl⟩ : ∃ wo : World, wo = wr := ⟨_, rfl⟩
      clear HW0
      by_cases hak : a < k
      · have i1 : (a : Int) < (k : Int) := by omega
        obtain ⟨m, hm, hmi⟩ := HMI.out a
        have HM := Lib.hid hm
        clear hm
        go_wp2
        go_loopw [11, 13] (fun u jv w' => ∃ b : Nat, b ≤ k ∧ jv = .int .i64 (b : Int) ∧ Hid (WnS (subD N) k w6 (ordTo (subD N) k a ++ rowTo (subD N) a b) u w')) (fun _ jv _ => k - (intOf jv).toNat)
        case atStart => exact ⟨0, by omega, by go_num, by rw [rowTo_zero, List.append_nil]; exact HS.out⟩
        case round =>
          obtain ⟨b, hb, rfl, HSB⟩ := hrel
          obtain ⟨wi, rfl⟩ : ∃ wo : World, wo = wr := ⟨_, rfl⟩
          clear HS
          by_cases hbk : b < k
          · have i2 : (b : Int) < (k : Int) := by omega
            obtain ⟨hc, hlt⟩ := HTW.out wi HSB.out.bl a b m hak hbk HM.out
            have HLL : Hid (((ordTo (subD N) k a ++ rowTo (subD N) a b).map ptI).length ≤ 1099511627776) := by
              have h1 := ordTo_len (subD N) k a
              have h2 := rowTo_len (subD N) a b
              have h3 : a * k ≤ 24 * 24 := Nat.mul_le_mul (by omega) hk24
              rw [Hid, List.length_map, List.length_append]
              omega
            have hij : a = b ∨ a ≠ b := by omega
            rcases hij with hij | hij
            · have g1 : ((a : Int) != (b : Int)) = false := by simp; omega
              have HX : Hid (ordTo (subD N) k a ++ rowTo (subD N) a b = ordTo (subD N) k a ++ rowTo (subD N) a (b + 1)) := by rw [Hid, rowTo_skip (.inl hij)]
              rw [HX.out] at HSB
              clear hij hc HX
              go_wp2
              exact ⟨⟨b + 1, by omega, by go_num, HSB.out⟩, by simp [intOf]; omega⟩
            · have g1 : ((a : Int) != (b : Int)) = true := by simp; omega
              rcases hP : subD N (a, b) with _ | _
              · rw [hP] at hc
                have HX : Hid (ordTo (subD N) k a ++ rowTo (subD N) a b = ordTo (subD N) k a ++ rowTo (subD N) a (b + 1)) := by rw [Hid, rowTo_skip (.inr hP)]
                rw [HX.out] at HSB
                clear hij hP HX
                go_wp2
                exact ⟨⟨b + 1, by omega, by go_num, HSB.out⟩, by simp [intOf]; omega⟩
              · rw [hP] at hc
                have HX : Hid (ordTo (subD N) k a ++ rowTo (subD N) a b ++ [(a, b)] = ordTo (subD N) k a ++ rowTo (subD N) a (b + 1)) := by
                  rw [Hid, rowTo_put hij hP, List.append_assoc]
                clear hij hP
                go_wp2_with (at_builtin; go_must (refine pushp_law _ rfl (.tmp 78) (.tmp 82) 25 rfl w6.heap.size 23 ti Try.underlying25 HIP.out _ ((ordTo (subD N) k a ++ rowTo (subD N) a b).map ptI) (a : Int) (b : Int) rfl rfl HSB.out.ow HLL.out HSB.out.bl.size ?_); intro v9 W9 hv9 hg9 hat9; have HV9 := Lib.hid (HSB.out.push hv9 hg9); clear hv9 hg9 hat9)
                rw [HX.out] at HV9
                exact ⟨⟨b + 1, by omega, by go_num, HV9.out⟩, by simp [intOf]; omega⟩
          · have hbn : b = k := by omega
            subst hbn
            have i2 : ¬ (b : Int) < (b : Int) := by omega
            have HX : Hid (WnS (subD N) b w6 (ordTo (subD N) b (a + 1)) u11 wi) := by rw [ordTo_succ]; exact HSB.out
            clear HSB
            go_wp2
            exact ⟨⟨a + 1, by omega, by go_num, HX.out⟩, by simp [intOf]; omega⟩
      · have hak2 : a = k := by omega
        subst hak2
        have i1 : ¬ (a : Int) < (a : Int) := by omega
        have hl := ordTo_len (subD N) a a
        have hm : a * a ≤ 24 * 24 := Nat.mul_le_mul hk24 hk24
        obtain ⟨B9, d9, hu, hp9⟩ := HS.out.ow.plr (n := m4) (by rw [List.length_map, HM4.out]) (by rw [HM4.out]; omega)
        subst hu
        have HP9 := Lib.hid hp9
        have HB9 : Hid (Below w2.heap.size w2 wo) := HB6.out.trans (HS.out.bl.mono HB6.out.size)
        have HPO := Lib.hid (HP6.out.below HS.out.bl (Nat.le_refl _))
        have HPR := Lib.hid (pairs_same _ _ _ m4 d4 d9 wo HPO.out HP9.out)
        clear HS hp9 hl hm HM4 HP4 HP5 HP6 HTW HB3 HB4 HB5 HB6
        rcases HDV.out with ⟨hbb, rfl, rfl⟩ | ⟨hbb, p, rfl, hp, r, hd⟩
        · rw [hbb] at HBAD
          clear hbb HDV
          go_wp2_with (first
            | (go_at_call 34; refine HPR.out.mono ?_; rintro e wa ⟨rfl, hda⟩; have HBA : Hid (Below w2.heap.size w2 wa) := HB9.out.trans ((hda.below wo.heap.size).mono HB9.out.size); clear hda)
            | (go_at_call 17; refine (HBAD.out _ HBA.out).mono ?_; rintro e wb ⟨rfl, hbb⟩; have HBB := Lib.hid (HBA.out.trans (hbb.mono HBA.out.size)); clear hbb)
            | (go_at_call 19; refine (awake_here _).mono ?_; rintro e wd ⟨rfl, hbd⟩))
          go_ret
          exact ⟨rfl, HBQ.out.trans ((HBB.out.trans (hbd.mono HBB.out.size)).mono HBQ.out.size)⟩
        · rw [hbb] at HBAD
          have HDR1 := Lib.hid (fun W h => HDR.out W p h hp)
          clear hbb HDV HDR
          generalize dep N (a + 1) p = dv at *
          rcases hd with ⟨hd, rfl, rfl⟩ | ⟨hd, rfl, rfl⟩
          · rw [decide_eq_true hd] at HDR1
            have gd : ((dv : Int) == (dv : Int)) = true := by simp
            clear hd
            go_wp2_with (first
              | (go_at_call 34; refine HPR.out.mono ?_; rintro e wa ⟨rfl, hda⟩; have HBA : Hid (Below w2.heap.size w2 wa) := HB9.out.trans ((hda.below wo.heap.size).mono HB9.out.size); clear hda)
              | (go_at_call 17; refine (HBAD.out _ HBA.out).mono ?_; rintro e wb ⟨rfl, hbb⟩; have HBB := Lib.hid (HBA.out.trans (hbb.mono HBA.out.size)); clear hbb)
              | (go_at_call 35; refine (HDR1.out _ HBB.out).mono ?_; rintro e wc ⟨rfl, hbc⟩; have HBC := Lib.hid (HBB.out.trans (hbc.mono HBB.out.size)); clear hbc)
              | (go_at_call 19; refine (awake_here _).mono ?_; rintro e wd ⟨rfl, hbd⟩))
            go_ret
            exact ⟨rfl, HBQ.out.trans ((HBC.out.trans (hbd.mono HBC.out.size)).mono HBQ.out.size)⟩
          · rw [decide_eq_false hd] at HDR1
            clear hd
            go_wp2_with (first
              | (go_at_call 34; refine HPR.out.mono ?_; rintro e wa ⟨rfl, hda⟩; have HBA : Hid (Below w2.heap.size w2 wa) := HB9.out.trans ((hda.below wo.heap.size).mono HB9.out.size); clear hda)
              | (go_at_call 17; refine (HBAD.out _ HBA.out).mono ?_; rintro e wb ⟨rfl, hbb⟩; have HBB := Lib.hid (HBA.out.trans (hbb.mono HBA.out.size)); clear hbb)
              | (go_at_call 35; refine (HDR1.out _ HBB.out).mono ?_; rintro e wc ⟨rfl, hbc⟩; have HBC := Lib.hid (HBB.out.trans (hbc.mono HBB.out.size)); clear hbc)
              | (go_at_call 19; refine (awake_here _).mono ?_; rintro e wd ⟨rfl, hbd⟩))
            go_ret
            exact ⟨rfl, HBQ.out.trans ((HBC.out.trans (hbd.mono HBC.out.size)).mono HBQ.out.size)⟩
end Go.Proofs.Ytieaolihdbcekaa
