import Derived.Test.YtfeohcknopdamaaT08
/- Layer 10: dials: areSizes, countSettings, settingIn, Setting. -/
namespace Go.Proofs.Ytfeohcknopdamaa
open Go.RowKit
set_option linter.unusedVariables false

/-- The number of settings. -/
def prodL : List Int → Nat
  | [] => 1
  | z :: zs => z.toNat * prodL zs
/-- The setting at a position. -/
def setF : List Int → Nat → List Int
  | [], _ => []
  | z :: zs, a => ((a / prodL zs : Nat) : Int) :: setF zs (dirN (prodL zs) (decide (a / prodL zs % 2 = 1)) (a % prodL zs))
def dialB (z : Int) : Bool := decide (1 ≤ z) && decide (z ≤ 10)
def allD (zs : List Int) : Bool := allB (fun j => dialB (atI zs j)) zs.length
/-- Sizes of dials. -/
def sizesB (zs : List Int) : Bool := decide (zs.length ≤ 12) && allD zs
theorem allD_at {zs : List Int} (h : allD zs = true) {j : Nat} (hj : j < zs.length) : ∃ x : Nat, atI zs j = (x : Int) ∧ 1 ≤ x ∧ x ≤ 10 := by
  have := allB_iff.1 h j hj
  unfold dialB at this
  rw [Bool.and_eq_true, decide_eq_true_iff, decide_eq_true_iff] at this
  exact ⟨(atI zs j).toNat, by omega, by omega, by omega⟩
theorem drop_atI {zs : List Int} {k : Nat} (h : k < zs.length) : zs.drop k = atI zs k :: zs.drop (k + 1) := by
  rw [List.drop_eq_getElem_cons h, atI_get h]
theorem prodL_pos {zs : List Int} (h : allD zs = true) : ∀ d k, zs.length = k + d → 1 ≤ prodL (zs.drop k) ∧ prodL (zs.drop k) ≤ 10 ^ d
  | 0, k, e => by rw [List.drop_of_length_le (by omega), prodL]; exact ⟨Nat.le_refl _, Nat.le_refl _⟩
  | d + 1, k, e => by
    obtain ⟨h1, h2⟩ := prodL_pos h d (k + 1) (by omega)
    obtain ⟨x, hx, h3, h4⟩ := allD_at h (j := k) (by omega)
    rw [drop_atI (by omega), prodL, hx, Int.toNat_natCast, Nat.pow_succ, Nat.mul_comm (10 ^ d)]
    exact ⟨Nat.mul_pos h3 h1, Nat.mul_le_mul h4 h2⟩
theorem prodL_le {zs : List Int} (h : sizesB zs = true) (k : Nat) (hk : k ≤ zs.length) : 1 ≤ prodL (zs.drop k) ∧ prodL (zs.drop k) ≤ 1000000000000 := by
  rw [sizesB, Bool.and_eq_true, decide_eq_true_iff] at h
  obtain ⟨h1, h2⟩ := prodL_pos h.2 (zs.length - k) k (by omega)
  have h3 : 10 ^ (zs.length - k) ≤ 10 ^ 12 := Nat.pow_le_pow_right (by omega) (by omega)
  have e : (10 : Nat) ^ 12 = 1000000000000 := by decide
  exact ⟨h1, by omega⟩
theorem dialc_any (z : Int) (w : World) : Calls Try.prog 85 #[.int .i64 z] w fun e w' => e = .returned (.bool (!dialB z)) ∧ w = w' := by
  have HB := Lib.hid (isBetween_any z 1 10 w)
  rw [show (decide (1 ≤ z) && decide (z ≤ 10)) = dialB z from rfl] at HB
  generalize dialB z = b at *
  go_enter Try.func85, Try.ntmps85
  go_wp2_with (go_at_call 55; (with_reducible refine HB.out.mono ?_); rintro e w1 ⟨rfl, rfl⟩)
  go_ret
  exact ⟨rfl, rfl⟩
set_option maxHeartbeats 1600000 in
theorem idxF_any (zs : List Int) (A : Option Addr) (n c : Nat) (w : World) (h : Sl w A n c zs) :
    Calls Try.prog 93 #[.slice A n c, .func (.func 85) #[] #[]] w fun e w' => (∃ r : Int, e = .returned (.int .i64 r) ∧ decide (0 ≤ r) = !allD zs) ∧ w = w' := by
  have hbig := h.big
  have HL : Hid (zs.length = n) := h.len
  have HR : Hid (Rd w A zs) := h.rd
  have HBAD : Hid (∀ k, k < n → dialB (zs[k]?.getD 0) = false → decide ((0 : Int) ≤ (k : Int)) = !allD zs) := fun k hk h => by
    unfold allD
    rw [← allB_bad (p := fun j => dialB (atI zs j)) (by rw [HL.out]; exact hk) h, decide_eq_true (by omega)]; rfl
  have HGOOD : Hid ((∀ k, k < n → dialB (zs[k]?.getD 0) = true) → decide ((0 : Int) ≤ -1) = !allD zs) := fun h => by
    unfold allD
    rw [← allB_good (p := fun j => dialB (atI zs j)) (by rw [HL.out]; exact h)]; rfl
  clear h
  go_enter Try.func93, Try.ntmps93
  go_wp2
  go_loopw [8] (fun i w' => ∃ k : Nat, k ≤ n ∧ i = .int .i64 (k : Int) ∧ Hid (∀ j, j < k → dialB (zs[j]?.getD 0) = true) ∧ w = w') (fun i _ => n - (intOf i).toNat)
  case atStart => exact ⟨0, Nat.zero_le _, by go_num, fun j hj => absurd hj (Nat.not_lt_zero _), rfl⟩
  case round =>
    obtain ⟨k, hk, rfl, HK, rfl⟩ := hrel
    by_cases hlt : k < n
    · have i1 : (k : Int) < (n : Int) := by omega
      obtain ⟨b, off, rfl, hcell⟩ := HR.out k (by rw [HL.out]; exact hlt)
      have HBK := Lib.hid (HBAD.out k hlt)
      have HKS : Hid (dialB (zs[k]?.getD 0) = true → ∀ j, j < k + 1 → dialB (zs[j]?.getD 0) = true) := fun h j hj => by
        by_cases e : j = k
        · rw [e]; exact h
        · exact HK.out j (by omega)
      generalize zs[k]?.getD 0 = z at *
      have HA := Lib.hid (dialc_any z w)
      rcases hl : dialB z with _ | _
      · have HX := Lib.hid (HBK.out hl)
        rw [hl] at HA
        clear hl HBK HKS
        go_wp2_with (go_at_call 85; refine HA.out.mono ?_; rintro e w1 ⟨rfl, rfl⟩)
        go_ret
        exact ⟨⟨_, rfl, HX.out⟩, rfl⟩
      · have HX := Lib.hid (HKS.out hl)
        rw [hl] at HA
        clear hl HBK HKS
        go_wp2_with (go_at_call 85; refine HA.out.mono ?_; rintro e w1 ⟨rfl, rfl⟩)
        exact ⟨⟨k + 1, by omega, by go_num, HX.out, trivial⟩, by simp [intOf]; omega⟩
    · have hkn : k = n := by omega
      have HX := Lib.hid (HGOOD.out (by rw [← hkn]; exact HK.out))
      have i1 : ¬ (k : Int) < (n : Int) := by omega
      clear hkn
      go_wp2
      go_ret
      exact ⟨⟨-1, rfl, HX.out⟩, rfl⟩
theorem contF_any (zs : List Int) (A : Option Addr) (n c : Nat) (w : World) (h : Sl w A n c zs) :
    Calls Try.prog 84 #[.slice A n c, .func (.func 85) #[] #[]] w fun e w' => e = .returned (.bool (!allD zs)) ∧ w = w' := by
  have HI := Lib.hid (idxF_any zs A n c w h)
  clear h
  go_enter Try.func84, Try.ntmps84
  go_wp2_with (go_at_call 93; refine HI.out.mono ?_; rintro e w1 ⟨⟨r, rfl, hr⟩, rfl⟩; have HR := Lib.hid hr; clear hr)
  go_ret
  exact ⟨bend HR.out, rfl⟩
theorem areSizes_any (zs : List Int) (A : Option Addr) (n c : Nat) (w : World) (h : Sl w A n c zs) :
    Calls Try.prog 71 #[.slice A n c] w fun e w' => e = .returned (.bool (sizesB zs)) ∧ w = w' := by
  have HC := Lib.hid (contF_any zs A n c w h)
  have hl := h.len
  have HD : Hid (sizesB zs = (decide (n ≤ 12) && allD zs)) := by rw [Hid, sizesB, hl]
  rw [HD.out]
  clear h hl HD
  generalize allD zs = b at *
  by_cases h0 : n ≤ 12
  · have d0 : decide ((n : Int) ≤ 12) = true := decide_eq_true (by omega)
    have d1 : decide (n ≤ 12) = true := decide_eq_true h0
    rw [d1, Bool.true_and]
    clear h0
    go_enter Try.func71, Try.ntmps71
    go_wp2_with (go_at_call 84; refine HC.out.mono ?_; rintro e w1 ⟨rfl, rfl⟩)
    go_ret
    exact ⟨bend (by simp), rfl⟩
  · have d0 : decide ((n : Int) ≤ 12) = false := decide_eq_false (by omega)
    have d1 : decide (n ≤ 12) = false := decide_eq_false h0
    rw [d1, Bool.false_and]
    clear h0
    go_enter Try.func71, Try.ntmps71
    go_wp2
    go_ret
    exact ⟨rfl, rfl⟩
/-- The product of the first k. -/
theorem prodL_split {zs : List Int} {k : Nat} (hk : k < zs.length) (x : Nat) (hx : atI zs k = (x : Int)) : prodL (zs.drop k) = x * prodL (zs.drop (k + 1)) := by
  rw [drop_atI hk, prodL, hx, Int.toNat_natCast]
theorem count_any (zs : List Int) (A : Option Addr) (n c : Nat) (w : World) (h : Sl w A n c zs) (hs : sizesB zs = true) :
    Calls Try.prog 72 #[.slice A n c] w fun e w' => e = .returned (.int .i64 ((prodL zs : Nat) : Int)) ∧ w = w' := by
  have hbig := h.big
  have HS := Lib.hid h
  have HL : Hid (zs.length = n) := h.len
  have HA : Hid (allD zs = true) := by
    rw [sizesB, Bool.and_eq_true] at hs; exact hs.2
  have HB := Lib.hid (fun k hk => prodL_le hs k hk)
  clear h hs
  go_enter Try.func72, Try.ntmps72
  go_wp2
  go_loopw [3, 8] (fun p i w' => ∃ k q : Nat, k ≤ n ∧ i = .int .i64 (k : Int) ∧ p = .int .i64 (q : Int) ∧ Hid (q * prodL (zs.drop k) = prodL zs) ∧ w = w') (fun _ i _ => n - (intOf i).toNat)
  case atStart => exact ⟨0, 1, Nat.zero_le _, by go_num, rfl, by rw [Hid, List.drop_zero, Nat.one_mul], rfl⟩
  case round =>
    obtain ⟨k, q, hk, rfl, rfl, HQ, rfl⟩ := hrel
    by_cases hlt : k < n
    · have i1 : (k : Int) < (n : Int) := by omega
      obtain ⟨b, off, rfl, hcell⟩ := HS.out.at_ hlt
      rw [show zs[k]?.getD 0 = atI zs k from rfl] at hcell
      obtain ⟨x, hx, hx1, hx2⟩ := allD_at HA.out (j := k) (by rw [HL.out]; exact hlt)
      have HQ2 : Hid (q * x * prodL (zs.drop (k + 1)) = prodL zs) := by
        rw [Hid, Nat.mul_assoc, ← prodL_split (by rw [HL.out]; exact hlt) x hx]
        exact HQ.out
      have hqx : q * x ≤ 1000000000000 := by
        have h1 := HB.out (k + 1) (by rw [HL.out]; omega)
        have h2 := (HB.out 0 (Nat.zero_le _)).2
        rw [List.drop_zero, ← HQ2.out] at h2
        exact Nat.le_trans (Nat.le_mul_of_pos_right _ h1.1) h2
      rw [hx] at hcell
      clear hx
      have v1 : IntKind.i64.wrap ((q : Int) * (x : Int)) = ((q * x : Nat) : Int) := by
        rw [← Int.natCast_mul]
        exact IntWalk.i64_in _ (by omega)
      go_wp2
      exact ⟨⟨k + 1, q * x, by omega, by go_num, rfl, HQ2.out, trivial⟩, by simp [intOf]; omega⟩
    · have hkn : k = n := by omega
      have HX : Hid (q = prodL zs) := by
        have := HQ.out
        rw [List.drop_of_length_le (by rw [HL.out]; omega), prodL, Nat.mul_one] at this
        exact this
      have i1 : ¬ (k : Int) < (n : Int) := by omega
      clear hkn
      go_wp2
      go_ret
      exact ⟨by rw [← HX.out]; rfl, rfl⟩
end Go.Proofs.Ytfeohcknopdamaa
