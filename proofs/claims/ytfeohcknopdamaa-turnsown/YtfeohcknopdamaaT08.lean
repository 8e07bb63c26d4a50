import Derived.Test.YtfeohcknopdamaaT06
import Derived.Test.YtfeohcknopdamaaT07
/- Layer 10: Set, SetAt, Choice, ChoiceAt, Many. -/
namespace Go.Proofs.Ytfeohcknopdamaa
open Go.RowKit
set_option linter.unusedVariables false

theorem chs_succ (n k : Nat) : chs n k ≤ chs (n + 1) k := by
  cases k with
  | zero => rw [chs_zero, chs_zero]; exact Nat.le_refl _
  | succ k => rw [chs]; omega
theorem chs_mono {a b : Nat} (h : a ≤ b) (k : Nat) : chs a k ≤ chs b k := by
  obtain ⟨d, rfl⟩ := Nat.exists_eq_add_of_le h
  induction d with
  | zero => exact Nat.le_refl _
  | succ d ih => exact Nat.le_trans (ih (by omega)) (chs_succ (a + d) k)
theorem chs_up {a b : Nat} (h : a < b) (k : Nat) : chs a k ≤ chs b (k + 1) := by
  refine Nat.le_trans ?_ (chs_mono (show a + 1 ≤ b from h) (k + 1))
  rw [chs]; omega
theorem atI_pos {n : Nat} {zs : List Int} (h : setB (n : Int) zs = true) {k : Nat} (hk : k < zs.length) : ∃ x : Nat, atI zs k = (x : Int) ∧ k + 1 ≤ x ∧ x ≤ n := by
  have h1 := setB_ge h k hk
  have h2 := (setB_at h hk).2
  exact ⟨(atI zs k).toNat, by omega, by omega, by omega⟩
theorem atI_up {n : Nat} {zs : List Int} (h : setB (n : Int) zs = true) {k : Nat} (hk : k + 1 < zs.length) : (atI zs k).toNat < (atI zs (k + 1)).toNat := by
  have h1 := (setB_at h hk).1
  rw [prevI, if_neg (by omega), Nat.add_sub_cancel] at h1
  obtain ⟨x, hx, h2, _⟩ := atI_pos h (k := k) (by omega)
  omega
theorem plA_lt {n : Nat} {zs : List Int} (h : setB (n : Int) zs = true) : ∀ k, k < zs.length → plF expL zs k < expL (atI zs k).toNat (k + 1)
  | 0, hk => by rw [plF, expL]; exact Nat.two_pow_pos _
  | k + 1, hk => by
    have h1 := plA_lt h k (by omega)
    have h2 : 2 ^ (atI zs k).toNat ≤ 2 ^ (atI zs (k + 1)).toNat := Nat.pow_le_pow_right (by omega) (Nat.le_of_lt (atI_up h hk))
    rw [plF]
    unfold expL at h1 ⊢
    omega
theorem plC_lt {n : Nat} {zs : List Int} (h : setB (n : Int) zs = true) : ∀ k, k < zs.length → plF chs zs k < chs (atI zs k).toNat (k + 1)
  | 0, hk => by
    obtain ⟨x, hx, h2, _⟩ := atI_pos h hk
    rw [plF, hx, Int.toNat_natCast]
    exact chs_pos _ _ h2
  | k + 1, hk => by
    have h1 := plC_lt h k (by omega)
    have h2 := chs_up (atI_up h hk) (k + 1)
    rw [plF]
    omega
theorem plOkA {n : Nat} {zs : List Int} (h : setB (n : Int) zs = true) (hn : n ≤ 40) : PlOk expL zs := fun k hk => by
  obtain ⟨x, hx, h2, h3⟩ := atI_pos h hk
  have := setB_len h
  have h4 := plA_lt h k hk
  rw [hx, Int.toNat_natCast] at h4 ⊢
  exact ⟨h4, two_le (by omega), by omega, by omega, by omega⟩
theorem plOkC {n : Nat} {zs : List Int} (h : setB (n : Int) zs = true) (hn : n ≤ 40) : PlOk chs zs := fun k hk => by
  obtain ⟨x, hx, h2, h3⟩ := atI_pos h hk
  have := setB_len h
  have h4 := plC_lt h k hk
  rw [hx, Int.toNat_natCast] at h4 ⊢
  exact ⟨h4, Nat.le_trans (chs_le _ _) (two_le (by omega)), by omega, by omega, by omega⟩
/-- From 0 to 40. -/
def in40 (n : Int) : Bool := decide (0 ≤ n) && decide (n ≤ 40)
theorem in40_nat {n : Int} (h : in40 n = true) : ∃ k : Nat, n = (k : Int) ∧ k ≤ 40 := by
  rw [in40, Bool.and_eq_true, decide_eq_true_iff, decide_eq_true_iff] at h
  exact ⟨n.toNat, by omega, by omega⟩
/-- A position of a sequence. -/
def posB (a len : Int) : Bool := decide (0 ≤ a) && decide (a < len)
theorem posB_nat {a : Int} {len : Nat} (h : posB a len = true) : ∃ k : Nat, a = (k : Int) ∧ k < len := by
  rw [posB, Bool.and_eq_true, decide_eq_true_iff, decide_eq_true_iff] at h
  exact ⟨a.toNat, by omega, by omega⟩
def badL : Ending := .returned (.tuple #[.slice none 0 0, .int .i64 2])
def badI : Ending := .returned (.tuple #[.int .i64 0, .int .i64 2])
/-- Set gives the set at the position, or ErrArg. -/
theorem setP_any (n a : Int) (w : World) : Calls Try.prog 17 #[.int .i64 n, .int .i64 a] w fun e w' =>
    (if in40 n && posB a ((2 ^ n.toNat : Nat) : Int) then ∃ v, e = .returned (.tuple #[v, .int .i64 0]) ∧ Ow w' w.heap.size 3 v (pL expL n.toNat n.toNat a.toNat) else e = badL) ∧ Below w.heap.size w w' := by
  rcases h0 : in40 n with _ | _
  · simp only [Bool.false_and, Bool.false_eq_true, if_false]
    have HB := Lib.hid (fun w => isBetween_any n 0 40 w)
    rw [show (decide (0 ≤ n) && decide (n ≤ 40)) = false from h0] at HB
    clear h0
    go_enter Try.func17, Try.ntmps17
    go_wp2_with (go_at_call 55; (with_reducible refine (HB.out _).mono ?_); rintro e w1 ⟨rfl, rfl⟩)
    go_ret2
    exact ⟨rfl, Below.refl _ _⟩
  · obtain ⟨k, rfl, hk⟩ := in40_nat h0
    rw [Bool.true_and, Int.toNat_natCast]
    have HB := Lib.hid (fun w => isBetween_any (k : Int) 0 40 w)
    rw [show (decide (0 ≤ (k : Int)) && decide ((k : Int) ≤ 40)) = true from h0] at HB
    have HA := Lib.hid (fun w => allSets_any k (k : Int) w hk)
    have HP := Lib.hid (fun w => isPosition_any a ((2 ^ k : Nat) : Int) w)
    rcases h1 : posB a ((2 ^ k : Nat) : Int) with _ | _
    · simp only [Bool.false_eq_true, if_false]
      rw [show (decide (0 ≤ a) && decide (a < ((2 ^ k : Nat) : Int))) = false from h1] at HP
      clear h0 h1
      generalize 2 ^ k = q at *
      go_enter Try.func17, Try.ntmps17
      go_wp2_with (first | (go_at_call 55; (with_reducible refine (HB.out _).mono ?_); rintro e w1 ⟨rfl, rfl⟩) | (go_at_call 57; (with_reducible refine (HA.out _).mono ?_); rintro e w1 ⟨rfl, rfl⟩) | (go_at_call 56; (with_reducible refine (HP.out _).mono ?_); rintro e w1 ⟨rfl, rfl⟩))
      go_ret2
      exact ⟨rfl, Below.refl _ _⟩
    · simp only [if_true]
      rw [show (decide (0 ≤ a) && decide (a < ((2 ^ k : Nat) : Int))) = true from h1] at HP
      obtain ⟨b, rfl, hb⟩ := posB_nat h1
      have HS := Lib.hid (setInA_any k k b w ⟨hb, Nat.le_refl _, hk⟩)
      rw [Int.toNat_natCast]
      clear h0 h1 hb
      generalize 2 ^ k = q at *
      go_enter Try.func17, Try.ntmps17
      go_wp2_with (first | (go_at_call 55; (with_reducible refine (HB.out _).mono ?_); rintro e w1 ⟨rfl, rfl⟩) | (go_at_call 57; (with_reducible refine (HA.out _).mono ?_); rintro e w1 ⟨rfl, rfl⟩) | (go_at_call 56; (with_reducible refine (HP.out _).mono ?_); rintro e w1 ⟨rfl, rfl⟩) | (go_at_call 58; (with_reducible refine HS.out.mono ?_); rintro e w1 ⟨⟨v, rfl, hv⟩, hbw⟩; have HV := Lib.hid hv; have HBW := Lib.hid hbw; clear hv hbw))
      go_ret2
      exact ⟨⟨v, rfl, HV.out⟩, HBW.out⟩
/-- SetAt gives the position, or ErrArg. -/
theorem setAtP_any (n : Int) (zs : List Int) (A : Option Addr) (m c : Nat) (w : World) (h : Sl w A m c zs) : Calls Try.prog 18 #[.int .i64 n, .slice A m c] w fun e w' =>
    e = (if in40 n && setB n zs then .returned (.tuple #[.int .i64 ((plF expL zs m : Nat) : Int), .int .i64 0]) else badI) ∧ Below w.heap.size w w' := by
  rcases h0 : in40 n with _ | _
  · simp only [Bool.false_and, Bool.false_eq_true, if_false]
    have HB := Lib.hid (fun w => isBetween_any n 0 40 w)
    rw [show (decide (0 ≤ n) && decide (n ≤ 40)) = false from h0] at HB
    clear h0 h
    go_enter Try.func18, Try.ntmps18
    go_wp2_with (go_at_call 55; (with_reducible refine (HB.out _).mono ?_); rintro e w1 ⟨rfl, rfl⟩)
    go_ret2
    exact ⟨rfl, Below.refl _ _⟩
  · obtain ⟨k, rfl, hk⟩ := in40_nat h0
    rw [Bool.true_and]
    have HB := Lib.hid (fun w => isBetween_any (k : Int) 0 40 w)
    rw [show (decide (0 ≤ (k : Int)) && decide ((k : Int) ≤ 40)) = true from h0] at HB
    have HI := Lib.hid (isSet_any zs k A m c w h hk)
    rcases h1 : setB (k : Int) zs with _ | _
    · simp only [Bool.false_eq_true, if_false]
      rw [h1] at HI
      clear h0 h1 h
      go_enter Try.func18, Try.ntmps18
      go_wp2_with (first | (go_at_call 55; (with_reducible refine (HB.out _).mono ?_); rintro e w1 ⟨rfl, rfl⟩) | (go_at_call 59; (with_reducible refine HI.out.mono ?_); rintro e w1 ⟨rfl, rfl⟩))
      go_ret2
      exact ⟨rfl, Below.refl _ _⟩
    · simp only [if_true]
      rw [h1] at HI
      have HS := Lib.hid (placeA_any zs A m c w h (plOkA h1 hk))
      clear h0 h1 h
      go_enter Try.func18, Try.ntmps18
      go_wp2_with (first | (go_at_call 55; (with_reducible refine (HB.out _).mono ?_); rintro e w1 ⟨rfl, rfl⟩) | (go_at_call 59; (with_reducible refine HI.out.mono ?_); rintro e w1 ⟨rfl, rfl⟩) | (go_at_call 60; (with_reducible refine HS.out.mono ?_); rintro e w1 ⟨rfl, hbw⟩; have HBW := Lib.hid hbw; clear hbw))
      go_ret2
      exact ⟨rfl, HBW.out⟩
/-- k is from 0 to n. -/
def upB (k n : Int) : Bool := decide (0 ≤ k) && decide (k ≤ n)
/-- Many gives the number, or ErrArg. -/
theorem manyP_any (n k : Int) (w : World) : Calls Try.prog 26 #[.int .i64 n, .int .i64 k] w fun e w' =>
    e = (if in40 n && upB k n then .returned (.tuple #[.int .i64 ((chs n.toNat k.toNat : Nat) : Int), .int .i64 0]) else badI) ∧ Below w.heap.size w w' := by
  have HB := Lib.hid (fun w => isBetween_any n 0 40 w)
  rcases h0 : in40 n with _ | _
  · simp only [Bool.false_and, Bool.false_eq_true, if_false]
    rw [show (decide (0 ≤ n) && decide (n ≤ 40)) = false from h0] at HB
    clear h0
    go_enter Try.func26, Try.ntmps26
    go_wp2_with (go_at_call 55; (with_reducible refine (HB.out _).mono ?_); rintro e w1 ⟨rfl, rfl⟩)
    go_ret2
    exact ⟨rfl, Below.refl _ _⟩
  · rw [Bool.true_and]
    rw [show (decide (0 ≤ n) && decide (n ≤ 40)) = true from h0] at HB
    obtain ⟨N, rfl, hN⟩ := in40_nat h0
    have HC := Lib.hid (fun w => isBetween_any k 0 (N : Int) w)
    rcases h1 : upB k (N : Int) with _ | _
    · simp only [Bool.false_eq_true, if_false]
      rw [show (decide (0 ≤ k) && decide (k ≤ (N : Int))) = false from h1] at HC
      clear h0 h1
      go_enter Try.func26, Try.ntmps26
      go_wp2_with (go_at_call 55; (first | (with_reducible refine (HB.out _).mono ?_) | (with_reducible refine (HC.out _).mono ?_)); rintro e w1 ⟨rfl, rfl⟩)
      go_ret2
      exact ⟨rfl, Below.refl _ _⟩
    · simp only [if_true]
      rw [show (decide (0 ≤ k) && decide (k ≤ (N : Int))) = true from h1] at HC
      obtain ⟨K, rfl, hK⟩ : ∃ K : Nat, k = (K : Int) ∧ K ≤ N := by
        rw [upB, Bool.and_eq_true, decide_eq_true_iff, decide_eq_true_iff] at h1
        exact ⟨k.toNat, by omega, by omega⟩
      rw [Int.toNat_natCast, Int.toNat_natCast]
      have HT := Lib.hid (setsOfSize_any w)
      have HL := Lib.hid (fun V hV => look_any N K w.heap.size V hN (by omega) hV)
      clear h0 h1
      go_enter Try.func26, Try.ntmps26
      go_wp2_with (first | (go_at_call 55; (first | (with_reducible refine (HB.out _).mono ?_) | (with_reducible refine (HC.out _).mono ?_)); rintro e w1 ⟨rfl, rfl⟩) | (go_at_call 61; (with_reducible refine HT.out.mono ?_); rintro e w1 ⟨rfl, ht, hbw⟩; have HTB := Lib.hid ht; have HBW := Lib.hid hbw; clear ht hbw) | (go_at_call 79; (with_reducible refine (HL.out _ HTB.out).mono ?_); rintro e w2 ⟨rfl, rfl⟩))
      go_ret2
      exact ⟨rfl, HBW.out⟩
/-- Choice gives the set at the position, or ErrArg. -/
theorem choiceP_any (n k a : Int) (w : World) : Calls Try.prog 24 #[.int .i64 n, .int .i64 k, .int .i64 a] w fun e w' =>
    (if (in40 n && upB k n) && posB a ((chs n.toNat k.toNat : Nat) : Int) then ∃ v, e = .returned (.tuple #[v, .int .i64 0]) ∧ Ow w' w.heap.size 3 v (pL chs n.toNat k.toNat a.toNat) else e = badL) ∧ Below w.heap.size w w' := by
  have HM := Lib.hid (manyP_any n k w)
  rcases h0 : in40 n && upB k n with _ | _
  · simp only [Bool.false_and, Bool.false_eq_true, if_false]
    simp only [h0, Bool.false_eq_true, if_false] at HM
    unfold badI at HM
    clear h0
    go_enter Try.func24, Try.ntmps24
    go_wp2_with (go_at_call 26; (with_reducible refine HM.out.mono ?_); rintro e w1 ⟨rfl, hbw⟩; have HBW := Lib.hid hbw; clear hbw)
    go_ret2
    exact ⟨rfl, HBW.out⟩
  · rw [Bool.true_and]
    simp only [h0, if_true] at HM
    rw [Bool.and_eq_true] at h0
    obtain ⟨N, rfl, hN⟩ := in40_nat h0.1
    obtain ⟨K, rfl, hK⟩ : ∃ K : Nat, k = (K : Int) ∧ K ≤ N := by
      have h1 := h0.2
      rw [upB, Bool.and_eq_true, decide_eq_true_iff, decide_eq_true_iff] at h1
      exact ⟨k.toNat, by omega, by omega⟩
    rw [Int.toNat_natCast, Int.toNat_natCast] at HM ⊢
    have HP := Lib.hid (fun w => isPosition_any a ((chs N K : Nat) : Int) w)
    clear h0
    rcases h1 : posB a ((chs N K : Nat) : Int) with _ | _
    · simp only [Bool.false_eq_true, if_false]
      rw [show (decide (0 ≤ a) && decide (a < ((chs N K : Nat) : Int))) = false from h1] at HP
      clear h1
      generalize chs N K = q at *
      go_enter Try.func24, Try.ntmps24
      go_wp2_with (first | (go_at_call 26; (with_reducible refine HM.out.mono ?_); rintro e w1 ⟨rfl, hbw⟩; have HBW := Lib.hid hbw; clear hbw) | (go_at_call 56; (with_reducible refine (HP.out _).mono ?_); rintro e w1 ⟨rfl, rfl⟩))
      go_ret2
      exact ⟨rfl, HBW.out⟩
    · simp only [if_true]
      rw [show (decide (0 ≤ a) && decide (a < ((chs N K : Nat) : Int))) = true from h1] at HP
      obtain ⟨b, rfl, hb⟩ := posB_nat h1
      rw [Int.toNat_natCast]
      have HT := Lib.hid (fun w => setsOfSize_any w)
      have HS := Lib.hid (fun w tb (hT : Tab w tb) => setInC_any N K b tb w ⟨hb, by omega, hN⟩ hT)
      clear h1 hb
      generalize chs N K = q at HM HP
      go_enter Try.func24, Try.ntmps24
      go_wp2_with (first | (go_at_call 26; (with_reducible refine HM.out.mono ?_); rintro e w1 ⟨rfl, hbw⟩; have HBW := Lib.hid hbw; clear hbw) | (go_at_call 56; (with_reducible refine (HP.out _).mono ?_); rintro e w1' ⟨rfl, rfl⟩) | (go_at_call 61; (with_reducible refine (HT.out _).mono ?_); rintro e w2 ⟨rfl, ht, hbw⟩; have HTB := Lib.hid ht; have HBX := Lib.hid (HBW.out.trans (hbw.mono HBW.out.size)); clear ht hbw) | (go_at_call 58; (with_reducible refine (HS.out _ _ HTB.out).mono ?_); rintro e w3 ⟨⟨v, rfl, hv⟩, hbw⟩; have HV := Lib.hid (hv.base HBX.out.size); have HBY := Lib.hid (HBX.out.trans (hbw.mono HBX.out.size)); clear hv hbw))
      go_ret2
      exact ⟨⟨v, rfl, HV.out⟩, HBY.out⟩
/-- ChoiceAt gives the position, or ErrArg. -/
theorem choiceAtP_any (n : Int) (zs : List Int) (A : Option Addr) (m c : Nat) (w : World) (h : Sl w A m c zs) : Calls Try.prog 25 #[.int .i64 n, .slice A m c] w fun e w' =>
    e = (if in40 n && setB n zs then .returned (.tuple #[.int .i64 ((plF chs zs m : Nat) : Int), .int .i64 0]) else badI) ∧ Below w.heap.size w w' := by
  rcases h0 : in40 n with _ | _
  · simp only [Bool.false_and, Bool.false_eq_true, if_false]
    have HB := Lib.hid (fun w => isBetween_any n 0 40 w)
    rw [show (decide (0 ≤ n) && decide (n ≤ 40)) = false from h0] at HB
    clear h0 h
    go_enter Try.func25, Try.ntmps25
    go_wp2_with (go_at_call 55; (with_reducible refine (HB.out _).mono ?_); rintro e w1 ⟨rfl, rfl⟩)
    go_ret2
    exact ⟨rfl, Below.refl _ _⟩
  · obtain ⟨k, rfl, hk⟩ := in40_nat h0
    rw [Bool.true_and]
    have HB := Lib.hid (fun w => isBetween_any (k : Int) 0 40 w)
    rw [show (decide (0 ≤ (k : Int)) && decide ((k : Int) ≤ 40)) = true from h0] at HB
    have HI := Lib.hid (isSet_any zs k A m c w h hk)
    rcases h1 : setB (k : Int) zs with _ | _
    · simp only [Bool.false_eq_true, if_false]
      rw [h1] at HI
      clear h0 h1 h
      go_enter Try.func25, Try.ntmps25
      go_wp2_with (first | (go_at_call 55; (with_reducible refine (HB.out _).mono ?_); rintro e w1 ⟨rfl, rfl⟩) | (go_at_call 59; (with_reducible refine HI.out.mono ?_); rintro e w1 ⟨rfl, rfl⟩))
      go_ret2
      exact ⟨rfl, Below.refl _ _⟩
    · simp only [if_true]
      rw [h1] at HI
      have HT := Lib.hid (setsOfSize_any w)
      have HS := Lib.hid (fun V tb (hV : Below w.heap.size w V) (hT : Tab V tb) => placeC_any zs A m c tb V (h.below hV (Nat.le_refl _)) (plOkC h1 hk) hT)
      clear h0 h1 h
      go_enter Try.func25, Try.ntmps25
      go_wp2_with (first | (go_at_call 55; (with_reducible refine (HB.out _).mono ?_); rintro e w1 ⟨rfl, rfl⟩) | (go_at_call 59; (with_reducible refine HI.out.mono ?_); rintro e w1 ⟨rfl, rfl⟩) | (go_at_call 61; (with_reducible refine HT.out.mono ?_); rintro e w2 ⟨rfl, ht, hbw⟩; have HTB := Lib.hid ht; have HBW := Lib.hid hbw; clear ht hbw) | (go_at_call 60; (with_reducible refine (HS.out _ _ HBW.out HTB.out).mono ?_); rintro e w1 ⟨rfl, hbw⟩; have HBX := Lib.hid (HBW.out.trans (hbw.mono HBW.out.size)); clear hbw))
      go_ret2
      exact ⟨rfl, HBX.out⟩
end Go.Proofs.Ytfeohcknopdamaa
