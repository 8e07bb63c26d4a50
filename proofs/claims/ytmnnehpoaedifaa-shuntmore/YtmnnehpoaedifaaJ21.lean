import Derived.Test.YtmnnehpoaedifaaJ10
import Derived.Test.YtmnnehpoaedifaaJ00
import Derived.Test.YtmnnehpoaedifaaJ17
/- The law ShuntStackChecks, from what the program's functions promise. -/
namespace Go.Proofs.Ytmnnehpoaedifaa
open Go.RowKit

theorem plan_empty {o : List Int} {p : ByteArray} (h : planB o p.data.toList = true) : p.size = 2 * o.length := by
  unfold planB at h
  simp only [Bool.and_eq_true, decide_eq_true_eq] at h
  simpa using h.1
theorem size_empty {p : ByteArray} (h : p.toList.isEmpty = true) : p = ⟨#[]⟩ := by
  rw [ByteArray.toList_eq, List.isEmpty_iff] at h
  exact ByteArray.ext (Array.toList_inj.1 h)
theorem size_full {p : ByteArray} (h : p.toList.isEmpty = false) : 0 < p.size := by
  rcases Nat.eq_zero_or_pos p.size with h0 | h0
  · have : p = ⟨#[]⟩ := ByteArray.ext (Array.eq_empty_of_size_eq_zero h0)
    rw [this, ByteArray.toList_eq] at h
    exact absurd h (by decide)
  · exact h0

set_option maxHeartbeats 3200000 in
theorem stackChecks_le (hA : AwakeOk) (hC : CheckStackOk) (A A2 : Option Addr) (n c n2 c2 : Nat) (zs zb : List Int) (P : ByteArray) (w : World) (hs : Sl w A n c zs) (hs2 : Sl w A2 n2 c2 zb) (m : Nat) (o : List Int) (hm : m = min n 61) (hoe : o = zs.take 61) (hlen : o.length = m) (hm61 : m ≤ 61)
   (r : Nat) (b : List Int) (hr : r = min n2 61) (hbe : b = zb.take 61) (hblen : b.length = r) (hr61 : r ≤ 61) (hP : P.size ≤ 130) :
    Calls Try.prog 4 #[.slice A n c, .string P, .slice A2 n2 c2] w fun e w' => e = .returned (.bool true) ∧ Below w.heap.size w w' := by
  have HA := Lib.hid hA; clear hA
  have HC := Lib.hid hC; clear hC
  have HL := Lib.hid (list_sl A n c zs w hs m o hm hoe); clear hm hoe
  have HS2 := Lib.hid hs2
  have HL2 : Hid (∀ w1, Below w.heap.size w w1 → Calls Try.prog 18 #[.slice A2 n2 c2] w1 fun e w' => ∃ (B : Option Addr) (d : Nat), e = .returned (.slice B r d) ∧ Sl w' B r d b ∧ Below w1.heap.size w1 w') := fun w1 h => list_sl A2 n2 c2 zb w1 (HS2.out.below h (Nat.le_refl _)) r b hr hbe
  clear hr hbe hs hs2
  go_enter Try.func4, Try.ntmps4
  go_wp2_with (first | (go_at_call 18; refine HL.out.mono ?_; clear HL; rintro e w1 ⟨B, d, rfl, hsl, hb1⟩) | (go_at_call 18; refine (HL2.out _ hb1).mono ?_; clear HL2; rintro e w2 ⟨B2, d2, rfl, hsb, hb2⟩))
  obtain ⟨Q, hQ⟩ : ∃ Q : ByteArray, Q = P := ⟨_, rfl⟩
  have hQs : Q.size ≤ 130 := by rw [hQ]; exact hP
  rw [← hQ]
  have HQ := Lib.hid hQ; clear hQ
  clear hP
  have hb12 : Below w.heap.size w w2 := hb1.trans (hb2.mono hb1.size)
  have hsl2 := hsl.below hb2 (Nat.le_refl _)
  have HK := Lib.hid (HC.out B B2 m d r d2 o b Q w2 hsl2 hsb (by omega) (by omega))
  have HS1 := Lib.hid hsl2
  have HB1 := Lib.hid hsb
  have HLN := Lib.hid hlen
  have HBN := Lib.hid hblen
  clear hsl hsl2 hsb hlen hblen
  have HO : Hid (∀ w3 v, v = ordB o 60 → Below w2.heap.size w2 w3 → Calls Try.prog 20 #[.slice B m d, .int .i64 60] w3 fun e w' => e = .returned (.bool v) ∧ Below w2.heap.size w2 w') := fun w3 v hv h => (order_sl B m d o w3 (HS1.out.below h (Nat.le_refl _)) (by omega) v hv).mono fun e w' ⟨he, hb⟩ => ⟨he, Below.trans h (hb.mono h.size)⟩
  have HP : Hid (∀ w3 v, v = planB o Q.data.toList → Below w2.heap.size w2 w3 → Calls Try.prog 24 #[.slice B m d, .string Q] w3 fun e w' => e = .returned (.bool v) ∧ Below w2.heap.size w2 w') := fun w3 v hv h => by
    rw [hv]
    exact (planSorts_any B m d o Q w3 (HS1.out.below h (Nat.le_refl _)) (by omega) (by omega)).mono fun e w' ⟨he, hb⟩ => ⟨he, Below.trans h (hb.mono h.size)⟩
  have HSB : Hid (∀ w3 v, v = sblockB o b → Below w2.heap.size w2 w3 → Calls Try.prog 25 #[.slice B m d, .slice B2 r d2] w3 fun e w' => e = .returned (.bool v) ∧ Below w2.heap.size w2 w') := fun w3 v hv h => by
    rw [hv]
    exact (stackBlock_any B B2 m d r d2 o b w3 (HS1.out.below h (Nat.le_refl _)) (HB1.out.below h (Nat.le_refl _)) (by omega) (by omega)).mono fun e w' ⟨he, hb⟩ => ⟨he, Below.trans h (hb.below _)⟩
  have HAW : Hid (∀ w3, Below w2.heap.size w2 w3 → Calls Try.prog 22 #[] w3 fun e w' => e = .returned (.bool true) ∧ Below w2.heap.size w2 w') := fun w3 h => (HA.out w3).mono fun e w' ⟨he, hb⟩ => ⟨he, Below.trans h (hb.mono h.size)⟩
  cases hob : ordB o 60 with
  | false =>
    have HOB : Hid (false = ordB o 60) := hob.symm
    clear hob
    have HV : Hid (checkStackOf o Q b = 2) := by
      unfold checkStackOf; rw [Hid, if_pos HOB.out.symm]
    go_wp2_with (first | (go_at_call 21; refine HK.out.mono ?_; clear HK; rintro e w3 ⟨rfl, hk⟩; rw [HV.out]) | (go_at_call 20; refine (HO.out _ false HOB.out hk).mono ?_; clear HO; rintro e w4 ⟨rfl, ho⟩) | (go_at_call 22; refine (HAW.out _ ho).mono ?_; clear HAW; rintro e w7 ⟨rfl, ha⟩))
    go_ret
    exact ⟨rfl, hb12.trans (ha.mono hb12.size)⟩
  | true =>
    have HOB : Hid (true = ordB o 60) := hob.symm
    clear hob
    cases hpl : planB o Q.data.toList with
    | true =>
      have HPB : Hid (true = planB o Q.data.toList) := hpl.symm
      clear hpl
      have hqz := Lib.hid (plan_empty HPB.out.symm)
      by_cases hr0 : r = 0
      · subst hr0
        have HV : Hid (checkStackOf o Q b = 0) := by
          unfold checkStackOf; rw [Hid, if_neg (by rw [← HOB.out]; decide)]
          rw [if_pos (.inl ⟨HPB.out.symm, HBN.out⟩)]
        go_wp2_with (first | (go_at_call 21; refine HK.out.mono ?_; clear HK; rintro e w3 ⟨rfl, hk⟩; rw [HV.out]) | (go_at_call 20; refine (HO.out _ true HOB.out hk).mono ?_; clear HO; rintro e w4 ⟨rfl, ho⟩) | (go_at_call 24; refine (HP.out _ true HPB.out ho).mono ?_; clear HP; rintro e w5 ⟨rfl, hp⟩) | (go_at_call 22; refine (HAW.out _ hp).mono ?_; clear HAW; rintro e w7 ⟨rfl, ha⟩))
        go_ret
        exact ⟨rfl, hb12.trans (ha.mono hb12.size)⟩
      · have gr : ((r : Int) == 0) = false := by simp; omega
        cases hqe : Q.toList.isEmpty with
        | true =>
          have h0 : Q.size = 0 := by rw [size_empty hqe]; rfl
          have hm0 : m = 0 := by have := hqz.out; have := HLN.out; omega
          subst hm0
          have H0 := Lib.hid h0; clear h0
          have HV : Hid (checkStackOf o Q b = 10) := by
            unfold checkStackOf; rw [Hid, if_neg (by rw [← HOB.out]; decide)]
            rw [if_neg (by rintro (h | h); exact hr0 (by rw [← HBN.out]; exact h.2); have := HLN.out; omega)]
          go_wp2_with (first | (go_at_call 21; refine HK.out.mono ?_; clear HK; rintro e w3 ⟨rfl, hk⟩; rw [HV.out]) | (go_at_call 20; refine (HO.out _ true HOB.out hk).mono ?_; clear HO; rintro e w4 ⟨rfl, ho⟩) | (go_at_call 24; refine (HP.out _ true HPB.out ho).mono ?_; clear HP; rintro e w5 ⟨rfl, hp⟩) | (go_at_call 22; refine (HAW.out _ hp).mono ?_; clear HAW; rintro e w7 ⟨rfl, ha⟩))
          go_ret
          exact ⟨rfl, hb12.trans (ha.mono hb12.size)⟩
        | false =>
          have h0 := Lib.hid (size_full hqe)
          have HV : Hid (checkStackOf o Q b = 10) := by
            unfold checkStackOf; rw [Hid, if_neg (by rw [← HOB.out]; decide)]
            rw [if_neg (by rintro (h | h); exact hr0 (by rw [← HBN.out]; exact h.2); have := h0.out; omega)]
          go_wp2_with (first | (go_at_call 21; refine HK.out.mono ?_; clear HK; rintro e w3 ⟨rfl, hk⟩; rw [HV.out]) | (go_at_call 20; refine (HO.out _ true HOB.out hk).mono ?_; clear HO; rintro e w4 ⟨rfl, ho⟩) | (go_at_call 24; refine (HP.out _ true HPB.out ho).mono ?_; clear HP; rintro e w5 ⟨rfl, hp⟩) | (go_at_call 22; refine (HAW.out _ hp).mono ?_; clear HAW; rintro e w7 ⟨rfl, ha⟩))
          go_ret
          exact ⟨rfl, hb12.trans (ha.mono hb12.size)⟩
    | false =>
      have HPB : Hid (false = planB o Q.data.toList) := hpl.symm
      cases hqe : Q.toList.isEmpty with
      | true =>
        have hm0 : 0 < m := by
          rcases Nat.eq_zero_or_pos m with h | h
          · exfalso
            rw [size_empty hqe, List.eq_nil_of_length_eq_zero (HLN.out.trans h)] at hpl
            exact absurd hpl (by decide)
          · exact h
        clear hpl
        have h0 : Q.size = 0 := by rw [size_empty hqe]; rfl
        have H0 := Lib.hid h0; clear h0
        cases hsb : sblockB o b with
        | true =>
          have HBB : Hid (true = sblockB o b) := hsb.symm
          clear hsb
          have HV : Hid (checkStackOf o Q b = 0) := by
            unfold checkStackOf; rw [Hid, if_neg (by rw [← HOB.out]; decide)]
            rw [if_pos (.inr ⟨H0.out, by rw [HLN.out]; exact hm0, HBB.out.symm⟩)]
          go_wp2_with (first | (go_at_call 21; refine HK.out.mono ?_; clear HK; rintro e w3 ⟨rfl, hk⟩; rw [HV.out]) | (go_at_call 20; refine (HO.out _ true HOB.out hk).mono ?_; clear HO; rintro e w4 ⟨rfl, ho⟩) | (go_at_call 24; refine (HP.out _ false HPB.out ho).mono ?_; clear HP; rintro e w5 ⟨rfl, hp⟩) | (go_at_call 25; refine (HSB.out _ true HBB.out hp).mono ?_; clear HSB; rintro e w6 ⟨rfl, hq⟩) | (go_at_call 22; refine (HAW.out _ hq).mono ?_; clear HAW; rintro e w7 ⟨rfl, ha⟩))
          go_ret
          exact ⟨rfl, hb12.trans (ha.mono hb12.size)⟩
        | false =>
          have HBB : Hid (false = sblockB o b) := hsb.symm
          clear hsb
          have HV : Hid (checkStackOf o Q b = 10) := by
            unfold checkStackOf; rw [Hid, if_neg (by rw [← HOB.out]; decide)]
            rw [if_neg (by rintro (h | h); rw [← HPB.out] at h; cases h.1; rw [← HBB.out] at h; cases h.2.2)]
          go_wp2_with (first | (go_at_call 21; refine HK.out.mono ?_; clear HK; rintro e w3 ⟨rfl, hk⟩; rw [HV.out]) | (go_at_call 20; refine (HO.out _ true HOB.out hk).mono ?_; clear HO; rintro e w4 ⟨rfl, ho⟩) | (go_at_call 24; refine (HP.out _ false HPB.out ho).mono ?_; clear HP; rintro e w5 ⟨rfl, hp⟩) | (go_at_call 25; refine (HSB.out _ false HBB.out hp).mono ?_; clear HSB; rintro e w6 ⟨rfl, hq⟩) | (go_at_call 22; refine (HAW.out _ hq).mono ?_; clear HAW; rintro e w7 ⟨rfl, ha⟩))
          go_ret
          exact ⟨rfl, hb12.trans (ha.mono hb12.size)⟩
      | false =>
        clear hpl
        have h0 := Lib.hid (size_full hqe)
        have HV : Hid (checkStackOf o Q b = 10) := by
          unfold checkStackOf; rw [Hid, if_neg (by rw [← HOB.out]; decide)]
          rw [if_neg (by rintro (h | h); rw [← HPB.out] at h; cases h.1; have := h0.out; omega)]
        go_wp2_with (first | (go_at_call 21; refine HK.out.mono ?_; clear HK; rintro e w3 ⟨rfl, hk⟩; rw [HV.out]) | (go_at_call 20; refine (HO.out _ true HOB.out hk).mono ?_; clear HO; rintro e w4 ⟨rfl, ho⟩) | (go_at_call 24; refine (HP.out _ false HPB.out ho).mono ?_; clear HP; rintro e w5 ⟨rfl, hp⟩) | (go_at_call 22; refine (HAW.out _ hp).mono ?_; clear HAW; rintro e w7 ⟨rfl, ha⟩))
        go_ret
        exact ⟨rfl, hb12.trans (ha.mono hb12.size)⟩

set_option maxHeartbeats 3200000 in
theorem stackChecks_gt (hA : AwakeOk) (hC : CheckStackOk) (A A2 : Option Addr) (n c n2 c2 : Nat) (zs zb : List Int) (P : ByteArray) (w : World) (hs : Sl w A n c zs) (hs2 : Sl w A2 n2 c2 zb) (m : Nat) (o : List Int) (hm : m = min n 61) (hoe : o = zs.take 61) (hlen : o.length = m) (hm61 : m ≤ 61)
   (r : Nat) (b : List Int) (hr : r = min n2 61) (hbe : b = zb.take 61) (hblen : b.length = r) (hr61 : r ≤ 61) (hP : 130 < P.size) :
    Calls Try.prog 4 #[.slice A n c, .string P, .slice A2 n2 c2] w fun e w' => e = .returned (.bool true) ∧ Below w.heap.size w w' := by
  have HA := Lib.hid hA; clear hA
  have HC := Lib.hid hC; clear hC
  have HL := Lib.hid (list_sl A n c zs w hs m o hm hoe); clear hm hoe
  have HS2 := Lib.hid hs2
  have HL2 : Hid (∀ w1, Below w.heap.size w w1 → Calls Try.prog 18 #[.slice A2 n2 c2] w1 fun e w' => ∃ (B : Option Addr) (d : Nat), e = .returned (.slice B r d) ∧ Sl w' B r d b ∧ Below w1.heap.size w1 w') := fun w1 h => list_sl A2 n2 c2 zb w1 (HS2.out.below h (Nat.le_refl _)) r b hr hbe
  clear hr hbe hs hs2
  go_enter Try.func4, Try.ntmps4
  go_wp2_with (first | (go_at_call 18; refine HL.out.mono ?_; clear HL; rintro e w1 ⟨B, d, rfl, hsl, hb1⟩) | (go_at_call 18; refine (HL2.out _ hb1).mono ?_; clear HL2; rintro e w2 ⟨B2, d2, rfl, hsb, hb2⟩))
  obtain ⟨Q, hQ⟩ : ∃ Q : ByteArray, Q = P.extract 0 130 := ⟨_, rfl⟩
  have hQs : Q.size ≤ 130 := by rw [hQ]; simp [ByteArray.size_extract]; omega
  rw [← hQ]
  have HQ := Lib.hid hQ; clear hQ
  clear hP
  have hb12 : Below w.heap.size w w2 := hb1.trans (hb2.mono hb1.size)
  have hsl2 := hsl.below hb2 (Nat.le_refl _)
  have HK := Lib.hid (HC.out B B2 m d r d2 o b Q w2 hsl2 hsb (by omega) (by omega))
  have HS1 := Lib.hid hsl2
  have HB1 := Lib.hid hsb
  have HLN := Lib.hid hlen
  have HBN := Lib.hid hblen
  clear hsl hsl2 hsb hlen hblen
  have HO : Hid (∀ w3 v, v = ordB o 60 → Below w2.heap.size w2 w3 → Calls Try.prog 20 #[.slice B m d, .int .i64 60] w3 fun e w' => e = .returned (.bool v) ∧ Below w2.heap.size w2 w') := fun w3 v hv h => (order_sl B m d o w3 (HS1.out.below h (Nat.le_refl _)) (by omega) v hv).mono fun e w' ⟨he, hb⟩ => ⟨he, Below.trans h (hb.mono h.size)⟩
  have HP : Hid (∀ w3 v, v = planB o Q.data.toList → Below w2.heap.size w2 w3 → Calls Try.prog 24 #[.slice B m d, .string Q] w3 fun e w' => e = .returned (.bool v) ∧ Below w2.heap.size w2 w') := fun w3 v hv h => by
    rw [hv]
    exact (planSorts_any B m d o Q w3 (HS1.out.below h (Nat.le_refl _)) (by omega) (by omega)).mono fun e w' ⟨he, hb⟩ => ⟨he, Below.trans h (hb.mono h.size)⟩
  have HSB : Hid (∀ w3 v, v = sblockB o b → Below w2.heap.size w2 w3 → Calls Try.prog 25 #[.slice B m d, .slice B2 r d2] w3 fun e w' => e = .returned (.bool v) ∧ Below w2.heap.size w2 w') := fun w3 v hv h => by
    rw [hv]
    exact (stackBlock_any B B2 m d r d2 o b w3 (HS1.out.below h (Nat.le_refl _)) (HB1.out.below h (Nat.le_refl _)) (by omega) (by omega)).mono fun e w' ⟨he, hb⟩ => ⟨he, Below.trans h (hb.below _)⟩
  have HAW : Hid (∀ w3, Below w2.heap.size w2 w3 → Calls Try.prog 22 #[] w3 fun e w' => e = .returned (.bool true) ∧ Below w2.heap.size w2 w') := fun w3 h => (HA.out w3).mono fun e w' ⟨he, hb⟩ => ⟨he, Below.trans h (hb.mono h.size)⟩
  cases hob : ordB o 60 with
  | false =>
    have HOB : Hid (false = ordB o 60) := hob.symm
    clear hob
    have HV : Hid (checkStackOf o Q b = 2) := by
      unfold checkStackOf; rw [Hid, if_pos HOB.out.symm]
    go_wp2_with (first | (go_at_call 21; refine HK.out.mono ?_; clear HK; rintro e w3 ⟨rfl, hk⟩; rw [HV.out]) | (go_at_call 20; refine (HO.out _ false HOB.out hk).mono ?_; clear HO; rintro e w4 ⟨rfl, ho⟩) | (go_at_call 22; refine (HAW.out _ ho).mono ?_; clear HAW; rintro e w7 ⟨rfl, ha⟩))
    go_ret
    exact ⟨rfl, hb12.trans (ha.mono hb12.size)⟩
  | true =>
    have HOB : Hid (true = ordB o 60) := hob.symm
    clear hob
    cases hpl : planB o Q.data.toList with
    | true =>
      have HPB : Hid (true = planB o Q.data.toList) := hpl.symm
      clear hpl
      have hqz := Lib.hid (plan_empty HPB.out.symm)
      by_cases hr0 : r = 0
      · subst hr0
        have HV : Hid (checkStackOf o Q b = 0) := by
          unfold checkStackOf; rw [Hid, if_neg (by rw [← HOB.out]; decide)]
          rw [if_pos (.inl ⟨HPB.out.symm, HBN.out⟩)]
        go_wp2_with (first | (go_at_call 21; refine HK.out.mono ?_; clear HK; rintro e w3 ⟨rfl, hk⟩; rw [HV.out]) | (go_at_call 20; refine (HO.out _ true HOB.out hk).mono ?_; clear HO; rintro e w4 ⟨rfl, ho⟩) | (go_at_call 24; refine (HP.out _ true HPB.out ho).mono ?_; clear HP; rintro e w5 ⟨rfl, hp⟩) | (go_at_call 22; refine (HAW.out _ hp).mono ?_; clear HAW; rintro e w7 ⟨rfl, ha⟩))
        go_ret
        exact ⟨rfl, hb12.trans (ha.mono hb12.size)⟩
      · have gr : ((r : Int) == 0) = false := by simp; omega
        cases hqe : Q.toList.isEmpty with
        | true =>
          have h0 : Q.size = 0 := by rw [size_empty hqe]; rfl
          have hm0 : m = 0 := by have := hqz.out; have := HLN.out; omega
          subst hm0
          have H0 := Lib.hid h0; clear h0
          have HV : Hid (checkStackOf o Q b = 10) := by
            unfold checkStackOf; rw [Hid, if_neg (by rw [← HOB.out]; decide)]
            rw [if_neg (by rintro (h | h); exact hr0 (by rw [← HBN.out]; exact h.2); have := HLN.out; omega)]
          go_wp2_with (first | (go_at_call 21; refine HK.out.mono ?_; clear HK; rintro e w3 ⟨rfl, hk⟩; rw [HV.out]) | (go_at_call 20; refine (HO.out _ true HOB.out hk).mono ?_; clear HO; rintro e w4 ⟨rfl, ho⟩) | (go_at_call 24; refine (HP.out _ true HPB.out ho).mono ?_; clear HP; rintro e w5 ⟨rfl, hp⟩) | (go_at_call 22; refine (HAW.out _ hp).mono ?_; clear HAW; rintro e w7 ⟨rfl, ha⟩))
          go_ret
          exact ⟨rfl, hb12.trans (ha.mono hb12.size)⟩
        | false =>
          have h0 := Lib.hid (size_full hqe)
          have HV : Hid (checkStackOf o Q b = 10) := by
            unfold checkStackOf; rw [Hid, if_neg (by rw [← HOB.out]; decide)]
            rw [if_neg (by rintro (h | h); exact hr0 (by rw [← HBN.out]; exact h.2); have := h0.out; omega)]
          go_wp2_with (first | (go_at_call 21; refine HK.out.mono ?_; clear HK; rintro e w3 ⟨rfl, hk⟩; rw [HV.out]) | (go_at_call 20; refine (HO.out _ true HOB.out hk).mono ?_; clear HO; rintro e w4 ⟨rfl, ho⟩) | (go_at_call 24; refine (HP.out _ true HPB.out ho).mono ?_; clear HP; rintro e w5 ⟨rfl, hp⟩) | (go_at_call 22; refine (HAW.out _ hp).mono ?_; clear HAW; rintro e w7 ⟨rfl, ha⟩))
          go_ret
          exact ⟨rfl, hb12.trans (ha.mono hb12.size)⟩
    | false =>
      have HPB : Hid (false = planB o Q.data.toList) := hpl.symm
      cases hqe : Q.toList.isEmpty with
      | true =>
        have hm0 : 0 < m := by
          rcases Nat.eq_zero_or_pos m with h | h
          · exfalso
            rw [size_empty hqe, List.eq_nil_of_length_eq_zero (HLN.out.trans h)] at hpl
            exact absurd hpl (by decide)
          · exact h
        clear hpl
        have h0 : Q.size = 0 := by rw [size_empty hqe]; rfl
        have H0 := Lib.hid h0; clear h0
        cases hsb : sblockB o b with
        | true =>
          have HBB : Hid (true = sblockB o b) := hsb.symm
          clear hsb
          have HV : Hid (checkStackOf o Q b = 0) := by
            unfold checkStackOf; rw [Hid, if_neg (by rw [← HOB.out]; decide)]
            rw [if_pos (.inr ⟨H0.out, by rw [HLN.out]; exact hm0, HBB.out.symm⟩)]
          go_wp2_with (first | (go_at_call 21; refine HK.out.mono ?_; clear HK; rintro e w3 ⟨rfl, hk⟩; rw [HV.out]) | (go_at_call 20; refine (HO.out _ true HOB.out hk).mono ?_; clear HO; rintro e w4 ⟨rfl, ho⟩) | (go_at_call 24; refine (HP.out _ false HPB.out ho).mono ?_; clear HP; rintro e w5 ⟨rfl, hp⟩) | (go_at_call 25; refine (HSB.out _ true HBB.out hp).mono ?_; clear HSB; rintro e w6 ⟨rfl, hq⟩) | (go_at_call 22; refine (HAW.out _ hq).mono ?_; clear HAW; rintro e w7 ⟨rfl, ha⟩))
          go_ret
          exact ⟨rfl, hb12.trans (ha.mono hb12.size)⟩
        | false =>
          have HBB : Hid (false = sblockB o b) := hsb.symm
          clear hsb
          have HV : Hid (checkStackOf o Q b = 10) := by
            unfold checkStackOf; rw [Hid, if_neg (by rw [← HOB.out]; decide)]
            rw [if_neg (by rintro (h | h); rw [← HPB.out] at h; cases h.1; rw [← HBB.out] at h; cases h.2.2)]
          go_wp2_with (first | (go_at_call 21; refine HK.out.mono ?_; clear HK; rintro e w3 ⟨rfl, hk⟩; rw [HV.out]) | (go_at_call 20; refine (HO.out _ true HOB.out hk).mono ?_; clear HO; rintro e w4 ⟨rfl, ho⟩) | (go_at_call 24; refine (HP.out _ false HPB.out ho).mono ?_; clear HP; rintro e w5 ⟨rfl, hp⟩) | (go_at_call 25; refine (HSB.out _ false HBB.out hp).mono ?_; clear HSB; rintro e w6 ⟨rfl, hq⟩) | (go_at_call 22; refine (HAW.out _ hq).mono ?_; clear HAW; rintro e w7 ⟨rfl, ha⟩))
          go_ret
          exact ⟨rfl, hb12.trans (ha.mono hb12.size)⟩
      | false =>
        clear hpl
        have h0 := Lib.hid (size_full hqe)
        have HV : Hid (checkStackOf o Q b = 10) := by
          unfold checkStackOf; rw [Hid, if_neg (by rw [← HOB.out]; decide)]
          rw [if_neg (by rintro (h | h); rw [← HPB.out] at h; cases h.1; have := h0.out; omega)]
        go_wp2_with (first | (go_at_call 21; refine HK.out.mono ?_; clear HK; rintro e w3 ⟨rfl, hk⟩; rw [HV.out]) | (go_at_call 20; refine (HO.out _ true HOB.out hk).mono ?_; clear HO; rintro e w4 ⟨rfl, ho⟩) | (go_at_call 24; refine (HP.out _ false HPB.out ho).mono ?_; clear HP; rintro e w5 ⟨rfl, hp⟩) | (go_at_call 22; refine (HAW.out _ hp).mono ?_; clear HAW; rintro e w7 ⟨rfl, ha⟩))
        go_ret
        exact ⟨rfl, hb12.trans (ha.mono hb12.size)⟩
theorem stackChecks_law (hA : AwakeOk) (hC : CheckStackOk) (A A2 : Option Addr) (n c n2 c2 : Nat) (zs zb : List Int) (P : ByteArray) (w : World) (hs : Sl w A n c zs) (hs2 : Sl w A2 n2 c2 zb) :
    Calls Try.prog 4 #[.slice A n c, .string P, .slice A2 n2 c2] w fun e w' => e = .returned (.bool true) ∧ Below w.heap.size w w' := by
  obtain ⟨m, o, hm, hoe, hlen, h61⟩ := list_has hs
  obtain ⟨r, b, hr, hbe, hblen, hr61⟩ := list_has hs2
  rcases Nat.lt_or_ge 130 P.size with h | h
  · exact stackChecks_gt hA hC A A2 n c n2 c2 zs zb P w hs hs2 m o hm hoe hlen h61 r b hr hbe hblen hr61 h
  · exact stackChecks_le hA hC A A2 n c n2 c2 zs zb P w hs hs2 m o hm hoe hlen h61 r b hr hbe hblen hr61 h
end Go.Proofs.Ytmnnehpoaedifaa
