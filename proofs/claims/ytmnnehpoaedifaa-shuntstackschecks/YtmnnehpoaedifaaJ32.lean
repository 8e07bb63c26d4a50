import Derived.Test.YtmnnehpoaedifaaJ23
/- The law ShuntStacksChecks, from what the program's functions promise. -/
namespace Go.Proofs.Ytmnnehpoaedifaa
open Go.RowKit
set_option linter.unusedVariables false

theorem tri_checkS (hC : CheckStacksOk) {w0 : World} {B B1 B2 : Option Addr} {m d q d1 r d2 : Nat} {o l b : List Int} {W : World} (h : Tri w0 B B1 B2 m d q d1 r d2 o l b W) (hq : q ≤ 61) (hr : r ≤ 61) :
    Calls Try.prog 34 #[.slice B m d, .slice B1 q d1, .slice B2 r d2] W fun e w' => e = .returned (.int .i64 (checkStacksOf o l b)) ∧ Tri w0 B B1 B2 m d q d1 r d2 o l b w' :=
  (hC B B1 B2 m d q d1 r d2 o l b W h.so h.sl h.sb (by omega) (by omega)).mono fun _ _ ⟨he, hb⟩ => ⟨he, h.call hb⟩
theorem tri_sides {w0 : World} {B B1 B2 : Option Addr} {m d q d1 r d2 : Nat} {o l b : List Int} {W : World} (h : Tri w0 B B1 B2 m d q d1 r d2 o l b W) (hm : m ≤ 61) (hq : q ≤ 61) (v : Bool) (hv : v = sidesB o l) :
    Calls Try.prog 37 #[.slice B m d, .slice B1 q d1] W fun e w' => e = .returned (.bool v) ∧ Tri w0 B B1 B2 m d q d1 r d2 o l b w' := by
  rw [hv]
  exact (sidesSort_any B B1 m d q d1 o l W h.so h.sl (by omega)).mono fun _ _ ⟨he, hb⟩ => ⟨he, h.call hb⟩
theorem tri_tblock {w0 : World} {B B1 B2 : Option Addr} {m d q d1 r d2 : Nat} {o l b : List Int} {W : World} (h : Tri w0 B B1 B2 m d q d1 r d2 o l b W) (hm : m ≤ 61) (hr : r ≤ 61) (v : Bool) (hv : v = tblockB o b) :
    Calls Try.prog 38 #[.slice B m d, .slice B2 r d2] W fun e w' => e = .returned (.bool v) ∧ Tri w0 B B1 B2 m d q d1 r d2 o l b w' := by
  rw [hv]
  exact (stacksBlock_any B B2 m d r d2 o b W h.so h.sb (by omega) (by omega)).mono fun _ _ ⟨he, hb⟩ => ⟨he, h.call (hb.below _)⟩

set_option maxHeartbeats 3200000 in
theorem stacksChecks_law (hA : AwakeOk) (hC : CheckStacksOk) (A A1 A2 : Option Addr) (n c n1 c1 n2 c2 : Nat) (zs za zb : List Int) (w : World) (hs : Sl w A n c zs) (hs1 : Sl w A1 n1 c1 za) (hs2 : Sl w A2 n2 c2 zb) :
    Calls Try.prog 8 #[.slice A n c, .agg #[.slice A1 n1 c1, .slice A2 n2 c2]] w fun e w' => e = .returned (.bool true) ∧ Below w.heap.size w w' := by
  obtain ⟨m, o, hm, hoe, hlen, hm61⟩ := list_has hs
  obtain ⟨q, l, hq, hle, hllen, hq61⟩ := list_has hs1
  obtain ⟨r, b, hr, hbe, hblen, hr61⟩ := list_has hs2
  have HA := Lib.hid hA; clear hA
  have HC := Lib.hid hC; clear hC
  obtain ⟨w0, hw0⟩ : ∃ w0, w0 = w.alloc (.cells #[.slice A1 n1 c1, .slice A2 n2 c2] 42) := ⟨_, rfl⟩
  have HS := Lib.hid (hs.alloc (.cells #[.slice A1 n1 c1, .slice A2 n2 c2] 42))
  have HS1 := Lib.hid (hs1.alloc (.cells #[.slice A1 n1 c1, .slice A2 n2 c2] 42))
  have HS2 := Lib.hid (hs2.alloc (.cells #[.slice A1 n1 c1, .slice A2 n2 c2] 42))
  have HW0 : Hid (Below w.heap.size w w0) := by rw [hw0]; exact (Below.refl _ _).alloc (Nat.le_refl _) _
  have HCL : Hid (∀ W, Kp w0 W → W.cell? ⟨w.heap.size, 0, none⟩ = some (.slice A1 n1 c1) ∧ W.cell? ⟨w.heap.size, 1, none⟩ = some (.slice A2 n2 c2)) := fun W h => by
    have hlt : w.heap.size < w0.heap.size := by rw [hw0]; simp
    exact ⟨(Below.cell h hlt).trans (by rw [hw0]; simp), (Below.cell h hlt).trans (by rw [hw0]; simp)⟩
  rw [← hw0] at HS HS1 HS2
  clear hs hs1 hs2
  have HL0 : Hid (∀ W, Kp w0 W → Calls Try.prog 18 #[.slice A n c] W fun e w' => ∃ (B : Option Addr) (d : Nat), e = .returned (.slice B m d) ∧ Sl w' B m d o ∧ Kp w0 w' ∧ Below W.heap.size W w') := fun W h => (list_sl A n c zs W (HS.out.below h (Nat.le_refl _)) m o hm hoe).mono fun e w' ⟨B, d, he, hs, hb⟩ => ⟨B, d, he, hs, h.call hb, hb⟩
  have HL1 : Hid (∀ W, Kp w0 W → Calls Try.prog 18 #[.slice A1 n1 c1] W fun e w' => ∃ (B : Option Addr) (d : Nat), e = .returned (.slice B q d) ∧ Sl w' B q d l ∧ Kp w0 w' ∧ Below W.heap.size W w') := fun W h => (list_sl A1 n1 c1 za W (HS1.out.below h (Nat.le_refl _)) q l hq hle).mono fun e w' ⟨B, d, he, hs, hb⟩ => ⟨B, d, he, hs, h.call hb, hb⟩
  have HL2 : Hid (∀ W, Kp w0 W → Calls Try.prog 18 #[.slice A2 n2 c2] W fun e w' => ∃ (B : Option Addr) (d : Nat), e = .returned (.slice B r d) ∧ Sl w' B r d b ∧ Kp w0 w' ∧ Below W.heap.size W w') := fun W h => (list_sl A2 n2 c2 zb W (HS2.out.below h (Nat.le_refl _)) r b hr hbe).mono fun e w' ⟨B, d, he, hs, hb⟩ => ⟨B, d, he, hs, h.call hb, hb⟩
  clear hm hoe hq hle hr hbe
  have HK0 : Hid (Kp w0 w0) := Below.refl _ _
  go_enter Try.func8, Try.ntmps8
  go_wp2_with fail
  rw [← hw0]
  have HW := Lib.hid hw0; clear hw0
  rename_i K hK
  have REST : ∀ (B : Option Addr) (d : Nat) (B1 : Option Addr) (d1 : Nat) (B2 : Option Addr) (d2 : Nat) (w3 : World), Tri w0 B B1 B2 m d q d1 r d2 o l b w3 →
      K { tmps := #[.slice A n c, .agg #[.slice A1 n1 c1, .slice A2 n2 c2], undef, .pointer (some ⟨w.heap.size, 0, none⟩), .bool false, .slice B m d, .slice B1 q d1, .slice B2 r d2, undef, .slice A n c, .slice B m d, .pointer (some ⟨w.heap.size, 0, none⟩), .slice A1 n1 c1, .slice B1 q d1, .pointer (some ⟨w.heap.size, 1, none⟩), .slice A2 n2 c2, .slice B2 r d2, undef, undef, undef, undef, undef, undef, undef, undef, undef, undef, undef, undef, undef, undef, undef, undef, undef, undef, undef, undef, undef, undef, undef, undef, undef, undef, undef, undef, undef, undef, undef, undef, undef, undef, undef, undef, undef, undef, undef, undef, undef, undef, undef, undef, undef], defers := [] } w3 := by
    intro B d B1 d1 B2 d2 w3 HT0
    refine hK _ _ ?_
    clear hK
    have HLN := Lib.hid hlen; clear hlen
    have HLL := Lib.hid hllen; clear hllen
    have HBN := Lib.hid hblen; clear hblen
    go_wp2_with (go_at_call 34; refine (tri_checkS HC.out HT0 hq61 hr61).mono ?_; clear HT0; rintro e w4 ⟨rfl, hT1⟩)
    cases hob : ordB o 60 with
    | false =>
      have HOB : Hid (false = ordB o 60) := hob.symm
      clear hob
      have HV : Hid (checkStacksOf o l b = 2) := by
        unfold checkStacksOf; rw [Hid, if_pos HOB.out.symm]
      rw [HV.out]
      go_wp2_with (first | (go_at_call 20; refine (tri_order hT1 hm61 _ HOB.out).mono ?_; rintro e w5 ⟨rfl, hT2⟩) | (go_at_call 22; refine (tri_awake HA.out hT2).mono ?_; rintro e w8 ⟨rfl, hT9⟩))
      go_ret
      exact ⟨rfl, HW0.out.trans (hT9.kp.mono HW0.out.size)⟩
    | true =>
      have HOB : Hid (true = ordB o 60) := hob.symm
      clear hob
      cases hpl : sidesB o l with
      | true =>
        have HPB : Hid (true = sidesB o l) := hpl.symm
        have HLE : Hid (l.length = o.length) := by
          unfold sidesB at hpl
          simp only [Bool.and_eq_true, decide_eq_true_eq] at hpl
          exact hpl.1.1
        clear hpl
        by_cases hr0 : r = 0
        · have gr : ((r : Int) == 0) = true := by simp; omega
          have HR0 := Lib.hid hr0; clear hr0
          have HV : Hid (checkStacksOf o l b = 0) := by
            unfold checkStacksOf; rw [Hid, if_neg (by rw [← HOB.out]; simp)]
            rw [if_pos (.inl ⟨HPB.out.symm, by rw [HBN.out]; exact HR0.out⟩)]
          rw [HV.out]
          go_wp2_with (first | (go_at_call 20; refine (tri_order hT1 hm61 _ HOB.out).mono ?_; rintro e w5 ⟨rfl, hT2⟩) | (go_at_call 37; refine (tri_sides hT2 hm61 hq61 _ HPB.out).mono ?_; rintro e w6 ⟨rfl, hT3⟩) | (go_at_call 22; refine (tri_awake HA.out hT3).mono ?_; rintro e w8 ⟨rfl, hT9⟩))
          go_ret
          exact ⟨rfl, HW0.out.trans (hT9.kp.mono HW0.out.size)⟩
        · have gr : ((r : Int) == 0) = false := by simp; omega
          by_cases hq0 : q = 0
          · have gq : ((q : Int) == 0) = true := by simp; omega
            have hm0 : m = 0 := by have h1 := HLE.out; have h2 := HLN.out; have h3 := HLL.out; omega
            have HQ0 := Lib.hid hq0; clear hq0
            subst hm0
            have HV : Hid (checkStacksOf o l b = 10) := by
              unfold checkStacksOf; rw [Hid, if_neg (by rw [← HOB.out]; simp)]
              rw [if_neg (by rintro (h | h); exact hr0 (by rw [← HBN.out]; exact h.2); have h1 := h.2.1; have h2 := HLN.out; omega)]
            rw [HV.out]
            go_wp2_with (first | (go_at_call 20; refine (tri_order hT1 hm61 _ HOB.out).mono ?_; rintro e w5 ⟨rfl, hT2⟩) | (go_at_call 37; refine (tri_sides hT2 hm61 hq61 _ HPB.out).mono ?_; rintro e w6 ⟨rfl, hT3⟩) | (go_at_call 22; refine (tri_awake HA.out hT3).mono ?_; rintro e w8 ⟨rfl, hT9⟩))
            go_ret
            exact ⟨rfl, HW0.out.trans (hT9.kp.mono HW0.out.size)⟩
          · have gq : ((q : Int) == 0) = false := by simp; omega
            have HV : Hid (checkStacksOf o l b = 10) := by
              unfold checkStacksOf; rw [Hid, if_neg (by rw [← HOB.out]; simp)]
              rw [if_neg (by rintro (h | h); exact hr0 (by rw [← HBN.out]; exact h.2); exact hq0 (by rw [← HLL.out]; exact h.1))]
            rw [HV.out]
            go_wp2_with (first | (go_at_call 20; refine (tri_order hT1 hm61 _ HOB.out).mono ?_; rintro e w5 ⟨rfl, hT2⟩) | (go_at_call 37; refine (tri_sides hT2 hm61 hq61 _ HPB.out).mono ?_; rintro e w6 ⟨rfl, hT3⟩) | (go_at_call 22; refine (tri_awake HA.out hT3).mono ?_; rintro e w8 ⟨rfl, hT9⟩))
            go_ret
            exact ⟨rfl, HW0.out.trans (hT9.kp.mono HW0.out.size)⟩
      | false =>
        have HPB : Hid (false = sidesB o l) := hpl.symm
        by_cases hq0 : q = 0
        · have gq : ((q : Int) == 0) = true := by simp; omega
          have hm0 : 0 < m := by
            rcases Nat.eq_zero_or_pos m with h | h
            · exfalso
              rw [List.eq_nil_of_length_eq_zero (HLN.out.trans h), List.eq_nil_of_length_eq_zero (HLL.out.trans hq0)] at hpl
              exact absurd hpl (by decide)
            · exact h
          have gm : decide (0 < (m : Int)) = true := by simp; omega
          have HM0 := Lib.hid hm0; clear hm0
          have HQ0 := Lib.hid hq0; clear hq0
          clear hpl
          cases hsb : tblockB o b with
          | true =>
            have HBB : Hid (true = tblockB o b) := hsb.symm
            clear hsb
            have HV : Hid (checkStacksOf o l b = 0) := by
              unfold checkStacksOf; rw [Hid, if_neg (by rw [← HOB.out]; simp)]
              rw [if_pos (.inr ⟨by rw [HLL.out]; exact HQ0.out, by rw [HLN.out]; exact HM0.out, HBB.out.symm⟩)]
            rw [HV.out]
            go_wp2_with (first | (go_at_call 20; refine (tri_order hT1 hm61 _ HOB.out).mono ?_; rintro e w5 ⟨rfl, hT2⟩) | (go_at_call 37; refine (tri_sides hT2 hm61 hq61 _ HPB.out).mono ?_; rintro e w6 ⟨rfl, hT3⟩) | (go_at_call 38; refine (tri_tblock hT3 hm61 hr61 _ HBB.out).mono ?_; rintro e w7 ⟨rfl, hT4⟩) | (go_at_call 22; refine (tri_awake HA.out hT4).mono ?_; rintro e w8 ⟨rfl, hT9⟩))
            go_ret
            exact ⟨rfl, HW0.out.trans (hT9.kp.mono HW0.out.size)⟩
          | false =>
            have HBB : Hid (false = tblockB o b) := hsb.symm
            clear hsb
            have HV : Hid (checkStacksOf o l b = 10) := by
              unfold checkStacksOf; rw [Hid, if_neg (by rw [← HOB.out]; simp)]
              rw [if_neg (by rintro (h | h); rw [← HPB.out] at h; cases h.1; rw [← HBB.out] at h; cases h.2.2)]
            rw [HV.out]
            go_wp2_with (first | (go_at_call 20; refine (tri_order hT1 hm61 _ HOB.out).mono ?_; rintro e w5 ⟨rfl, hT2⟩) | (go_at_call 37; refine (tri_sides hT2 hm61 hq61 _ HPB.out).mono ?_; rintro e w6 ⟨rfl, hT3⟩) | (go_at_call 38; refine (tri_tblock hT3 hm61 hr61 _ HBB.out).mono ?_; rintro e w7 ⟨rfl, hT4⟩) | (go_at_call 22; refine (tri_awake HA.out hT4).mono ?_; rintro e w8 ⟨rfl, hT9⟩))
            go_ret
            exact ⟨rfl, HW0.out.trans (hT9.kp.mono HW0.out.size)⟩
        · have gq : ((q : Int) == 0) = false := by simp; omega
          clear hpl
          have HV : Hid (checkStacksOf o l b = 10) := by
            unfold checkStacksOf; rw [Hid, if_neg (by rw [← HOB.out]; simp)]
            rw [if_neg (by rintro (h | h); rw [← HPB.out] at h; cases h.1; exact hq0 (by rw [← HLL.out]; exact h.1))]
          rw [HV.out]
          go_wp2_with (first | (go_at_call 20; refine (tri_order hT1 hm61 _ HOB.out).mono ?_; rintro e w5 ⟨rfl, hT2⟩) | (go_at_call 37; refine (tri_sides hT2 hm61 hq61 _ HPB.out).mono ?_; rintro e w6 ⟨rfl, hT3⟩) | (go_at_call 22; refine (tri_awake HA.out hT3).mono ?_; rintro e w8 ⟨rfl, hT9⟩))
          go_ret
          exact ⟨rfl, HW0.out.trans (hT9.kp.mono HW0.out.size)⟩
  obtain ⟨f0, f1⟩ := HCL.out _ HK0.out
  go_region_with (first
    | (go_at_call 18; (with_reducible refine (HL0.out _ ?_).mono ?_); (first | exact HK0.out | exact Kp.drew HK0.out); rintro e w1 ⟨B, d, rfl, hsl0, hk1, hb1⟩; obtain ⟨f2, f3⟩ := HCL.out _ hk1; clear hb1)
    | (go_at_call 18; (with_reducible refine (HL1.out _ ?_).mono ?_); (first | exact hk1 | exact Kp.drew hk1); rintro e w2 ⟨B1, d1, rfl, hsl1, hk2, hb2⟩; obtain ⟨f4, f5⟩ := HCL.out _ hk2; (first | have s0 := hsl0.below hb2 (Nat.le_refl _) | have s0 := (hsl0.dr ⟨1, rfl⟩).below hb2 (Nat.le_refl _)); clear hb2)
    | (go_at_call 18; (with_reducible refine (HL2.out _ ?_).mono ?_); (first | exact hk2 | exact Kp.drew hk2); rintro e w3 ⟨B2, d2, rfl, hsl2, hk3, hb3⟩; (first | have t0 := s0.below hb3 (Nat.le_refl _) | have t0 := (s0.dr ⟨1, rfl⟩).below hb3 (Nat.le_refl _)); (first | have t1 := hsl1.below hb3 (Nat.le_refl _) | have t1 := (hsl1.dr ⟨1, rfl⟩).below hb3 (Nat.le_refl _)); have HT0 : Hid (Tri w0 B B1 B2 m d q d1 r d2 o l b w3) := ⟨hk3, t0, t1, hsl2⟩; clear hb3 t0 t1 hsl2 hk3))
  all_goals (first | exact REST _ _ _ _ _ _ _ HT0.out | exact REST _ _ _ _ _ _ _ HT0.out.drew | exact REST _ _ _ _ _ _ _ HT0.out.drew.drew)
end Go.Proofs.Ytmnnehpoaedifaa
