import Derived.Test.YtkemcmeagnggeaaT17
import Derived.Test.YtkemcmeagnggeaaT01
import Derived.Test.YtkemcmeagnggeaaT03
import Derived.Test.YtkemcmeagnggeaaT06
/- Layer 3: the walk of ThreadItems. -/
namespace Go.Proofs.Ytkemcmeagnggeaa
open Go.RowKit
set_option linter.unusedVariables false

def cut61 (s : ByteArray) : ByteArray := s.extract 0 (min s.size 61)
theorem cut61_size (s : ByteArray) : (cut61 s).size ≤ 61 := by unfold cut61; simp; omega
theorem short_max (s : ByteArray) (w : World) (hs : s.size ≤ 9223372036854775807) :
    Calls Try.prog 17 #[.string s] w fun e w' => e = .returned (.string (cut61 s)) ∧ w = w' := by
  unfold cut61
  go_enter Try.func17, Try.ntmps17
  by_cases h : s.size ≤ 61
  · have HE : Hid (s = s.extract 0 (min s.size 61)) := by
      rw [Hid, Nat.min_eq_left h]; simp
    go_wp2
    go_ret
    exact ⟨by rw [← HE.out]; rfl, rfl⟩
  · have HE : Hid (min s.size 61 = 61) := by rw [Hid]; omega
    go_wp2
    go_ret
    exact ⟨by rw [HE.out]; rfl, rfl⟩
set_option maxHeartbeats 1600000 in
theorem items_walk (a0 : ByteArray) (a1 : Int) (w0 : a0.size ≤ maxLen) (w : World) :
    Calls Try.prog 4 #[.string a0, .int .i64 a1] w fun e w' => e = .returned (.bool true) ∧ Below w.heap.size w w' := by
  have HSH : Hid (∀ W, Calls Try.prog 17 #[.string a0] W fun e w' => e = .returned (.string (cut61 a0)) ∧ W = w') := fun W => short_max a0 W (by unfold maxLen at w0; omega)
  have hx := cut61_size a0
  generalize cut61 a0 = x at HSH hx
  have HWD : Hid (∀ b W, wordB (bs x) = b → Calls Try.prog 20 #[.string x] W fun e w' => e = .returned (.bool b) ∧ W = w') := fun b W hb => by subst hb; exact word_any x W (by omega)
  cases hw : wordB (bs x) with
  | false =>
    have HC := Lib.hid (fun W => countP_bad x W (by omega) hw)
    have HIT := Lib.hid (fun W => itemP_bad x a1 W (by omega) hw)
    have HW1 := Lib.hid (fun W => HWD.out false W hw)
    clear hw HWD
    go_enter Try.func4, Try.ntmps4
    go_wp2_with (first | (go_at_call 17; refine (HSH.out _).mono ?_; rintro e w1 ⟨rfl, rfl⟩) | (go_at_call 25; refine (HC.out _).mono ?_; rintro e w2 ⟨rfl, hd2⟩) | (go_at_call 26; refine (HIT.out _).mono ?_; rintro e w3 ⟨rfl, hd3⟩) | (go_at_call 20; refine (HW1.out _).mono ?_; rintro e w4 ⟨rfl, rfl⟩) | (go_at_call 21; refine (awake_here _).mono ?_; rintro e w5 ⟨rfl, hb5⟩))
    go_ret
    exact ⟨rfl, ((hd2.below _).trans (hd3.below _)).trans (hb5.mono (by rw [Dr.size hd3, Dr.size hd2]; exact Nat.le_refl _))⟩
  | true =>
    have hx60 := word_size hw
    have HC := Lib.hid (fun W => countP_any x W hw)
    have HW1 := Lib.hid (fun W => HWD.out true W hw)
    have HT := Lib.hid (fun W => counts_tab x W hx60)
    have hpos := cntF_nonneg (bs x) 0
    by_cases hk : a1 < 0 ∨ cntF (bs x) 0 ≤ a1
    · have HIT := Lib.hid (fun W => itemP_none x a1 W hw hk)
      have g0 : (decide (a1 < 0) || decide (a1 ≥ cntF (bs x) 0)) = true := by
        rcases hk with h | h
        · simp [h]
        · have : a1 ≥ cntF (bs x) 0 := h
          simp [this]
      clear hw HWD
      by_cases hk1 : a1 < 0
      · clear hk
        go_enter Try.func4, Try.ntmps4
        go_wp2_with (first | (go_at_call 17; refine (HSH.out _).mono ?_; rintro e w1 ⟨rfl, rfl⟩) | (go_at_call 25; refine (HC.out _).mono ?_; rintro e w2 ⟨rfl, hb2⟩) | (go_at_call 26; refine (HIT.out _).mono ?_; rintro e w3 ⟨rfl, hb3⟩) | (go_at_call 20; refine (HW1.out _).mono ?_; rintro e w4 ⟨rfl, rfl⟩) | (go_at_call 27; refine (HT.out _).mono ?_; rintro e w5 ⟨g, cap, rfl, hg, hc, hb5⟩; have hc0 := hc 0 (Nat.zero_le _); clear hc) | (go_at_call 21; refine (awake_here _).mono ?_; rintro e w6 ⟨rfl, hb6⟩))
        go_ret
        have k2 : Kp w w2 := hb2
        exact ⟨rfl, ((k2.call hb3).call hb5).call hb6⟩
      · have hk2 : cntF (bs x) 0 ≤ a1 := by omega
        clear hk
        go_enter Try.func4, Try.ntmps4
        go_wp2_with (first | (go_at_call 17; refine (HSH.out _).mono ?_; rintro e w1 ⟨rfl, rfl⟩) | (go_at_call 25; refine (HC.out _).mono ?_; rintro e w2 ⟨rfl, hb2⟩) | (go_at_call 26; refine (HIT.out _).mono ?_; rintro e w3 ⟨rfl, hb3⟩) | (go_at_call 20; refine (HW1.out _).mono ?_; rintro e w4 ⟨rfl, rfl⟩) | (go_at_call 27; refine (HT.out _).mono ?_; rintro e w5 ⟨g, cap, rfl, hg, hc, hb5⟩; have hc0 := hc 0 (Nat.zero_le _); clear hc) | (go_at_call 21; refine (awake_here _).mono ?_; rintro e w6 ⟨rfl, hb6⟩))
        go_ret
        have k2 : Kp w w2 := hb2
        exact ⟨rfl, ((k2.call hb3).call hb5).call hb6⟩
    · obtain ⟨k0, rfl⟩ : ∃ k0 : Nat, a1 = (k0 : Int) := ⟨a1.toNat, by omega⟩
      have hk3 : (k0 : Int) < cntF (bs x) 0 := by omega
      have HIT := Lib.hid (fun W => itemP_any x k0 W hw hk3)
      have HIR := Lib.hid (fun W => item_any x k0 W hx60 hk3)
      have hk4 : ¬ ((k0 : Int) < 0) := by omega
      clear hw HWD hk
      go_enter Try.func4, Try.ntmps4
      go_wp2_with (first | (go_at_call 17; refine (HSH.out _).mono ?_; rintro e w1 ⟨rfl, rfl⟩) | (go_at_call 25; refine (HC.out _).mono ?_; rintro e w2 ⟨rfl, hb2⟩) | (go_at_call 26; refine (HIT.out _).mono ?_; rintro e w3 ⟨o, rfl, ho, hb3⟩; have HO := Lib.hid ho; clear ho) | (go_at_call 20; refine (HW1.out _).mono ?_; rintro e w4 ⟨rfl, rfl⟩) | (go_at_call 27; refine (HT.out _).mono ?_; rintro e w5 ⟨g, cap, rfl, hg, hc, hb5⟩; have hc0 := hc 0 (Nat.zero_le _); clear hc) | (go_at_call 28; refine (HIR.out _).mono ?_; rintro e w7 ⟨o2, rfl, ho2, hb7⟩; obtain rfl : o = o2 := bs_inj (Option.some.inj (HO.out.symm.trans ho2))) | (go_at_call 21; refine (awake_here _).mono ?_; rintro e w6 ⟨rfl, hb6⟩))
      go_ret
      have k2 : Kp w w2 := hb2
      exact ⟨rfl, (((k2.call hb3).call hb5).call hb7).call hb6⟩
end Go.Proofs.Ytkemcmeagnggeaa
/- Layer 3: the walk of ThreadIndexes. -/
namespace Go.Proofs.Ytkemcmeagnggeaa
open Go.RowKit
set_option linter.unusedVariables false

theorem nodup_one {α : Type} {l : List α} (h : l.Nodup) {i j : Nat} {x : α} (hi : l[i]? = some x) (hj : l[j]? = some x) : i = j := by
  obtain ⟨hi1, hi2⟩ := List.getElem?_eq_some_iff.1 hi
  obtain ⟨hj1, hj2⟩ := List.getElem?_eq_some_iff.1 hj
  have hp := List.pairwise_iff_getElem.1 h
  rcases Nat.lt_trichotomy i j with k | k | k
  · exact absurd (hi2.trans hj2.symm) (hp i j hi1 hj1 k)
  · exact k
  · exact absurd (hj2.trans hi2.symm) (hp j i hj1 hi1 k)
set_option maxHeartbeats 1600000 in
theorem indexes_walk (a0 a1 : ByteArray) (w0 : a0.size ≤ maxLen) (w1 : a1.size ≤ maxLen) (w : World) :
    Calls Try.prog 5 #[.string a0, .string a1] w fun e w' => e = .returned (.bool true) ∧ Below w.heap.size w w' := by
  have HS0 : Hid (∀ W, Calls Try.prog 17 #[.string a0] W fun e w' => e = .returned (.string (cut61 a0)) ∧ W = w') := fun W => short_max a0 W (by unfold maxLen at w0; omega)
  have HS1 : Hid (∀ W, Calls Try.prog 17 #[.string a1] W fun e w' => e = .returned (.string (cut61 a1)) ∧ W = w') := fun W => short_max a1 W (by unfold maxLen at w1; omega)
  have hx := cut61_size a0
  have hu := cut61_size a1
  generalize cut61 a0 = x at HS0 hx
  generalize cut61 a1 = u at HS1 hu
  have HWX : Hid (∀ b W, wordB (bs x) = b → Calls Try.prog 20 #[.string x] W fun e w' => e = .returned (.bool b) ∧ W = w') := fun b W hb => by subst hb; exact word_any x W (by omega)
  have HWU : Hid (∀ b W, wordB (bs u) = b → Calls Try.prog 20 #[.string u] W fun e w' => e = .returned (.bool b) ∧ W = w') := fun b W hb => by subst hb; exact word_any u W (by omega)
  have HIN := Lib.hid (fun W => within_any u x W (by omega) (by omega))
  cases hwx : wordB (bs x) with
  | false =>
    have HI := Lib.hid (fun W => indexP_bad x u W (by omega) (by omega) (.inl hwx))
    have HW1 := Lib.hid (fun W => HWX.out false W hwx)
    clear hwx HWX HWU
    go_enter Try.func5, Try.ntmps5
    go_wp2_with (first | (go_at_call 17; (with_reducible refine (HS0.out _).mono ?_); rintro e w1 ⟨rfl, rfl⟩) | (go_at_call 17; (with_reducible refine (HS1.out _).mono ?_); rintro e w2 ⟨rfl, rfl⟩) | (go_at_call 29; refine (HI.out _).mono ?_; rintro e w3 ⟨rfl, hd3⟩) | (go_at_call 20; (with_reducible refine (HW1.out _).mono ?_); rintro e w4 ⟨rfl, rfl⟩) | (go_at_call 21; refine (awake_here _).mono ?_; rintro e w5 ⟨rfl, hb5⟩))
    go_ret
    have k3 : Kp w w3 := hd3.below _
    exact ⟨rfl, k3.call hb5⟩
  | true =>
    have HW1 := Lib.hid (fun W => HWX.out true W hwx)
    cases hwu : wordB (bs u) with
    | false =>
      have HI := Lib.hid (fun W => indexP_bad x u W (by omega) (by omega) (.inr hwu))
      have HW2 := Lib.hid (fun W => HWU.out false W hwu)
      clear hwx hwu HWX HWU
      go_enter Try.func5, Try.ntmps5
      go_wp2_with (first | (go_at_call 17; (with_reducible refine (HS0.out _).mono ?_); rintro e w1 ⟨rfl, rfl⟩) | (go_at_call 17; (with_reducible refine (HS1.out _).mono ?_); rintro e w2 ⟨rfl, rfl⟩) | (go_at_call 29; refine (HI.out _).mono ?_; rintro e w3 ⟨rfl, hd3⟩) | (go_at_call 20; (with_reducible refine (HW1.out _).mono ?_); rintro e w4 ⟨rfl, rfl⟩) | (go_at_call 20; (with_reducible refine (HW2.out _).mono ?_); rintro e w4 ⟨rfl, rfl⟩) | (go_at_call 21; refine (awake_here _).mono ?_; rintro e w5 ⟨rfl, hb5⟩))
      go_ret
      have k3 : Kp w w3 := hd3.below _
      exact ⟨rfl, k3.call hb5⟩
    | true =>
      have HW2 := Lib.hid (fun W => HWU.out true W hwu)
      have HI := Lib.hid (fun W => indexP_any x u W hwx hwu)
      cases hin : withinF (bs u) (bs x) with
      | none =>
        have HI2 : Hid (∀ W, Calls Try.prog 29 #[.string x, .string u] W fun e w' => e = .returned (.tuple #[.int .i64 0, .int .i64 6]) ∧ Below W.heap.size W w') := fun W => (HI.out W).mono fun e w' ⟨h, hb⟩ => by
          rcases h with ⟨_, h⟩ | ⟨k, h, _⟩
          · exact ⟨h, hb⟩
          · rw [hin] at h; cases h
        rw [hin] at HIN
        clear hwx hwu HWX HWU HI hin
        go_enter Try.func5, Try.ntmps5
        go_wp2_with (first | (go_at_call 17; (with_reducible refine (HS0.out _).mono ?_); rintro e w1 ⟨rfl, rfl⟩) | (go_at_call 17; (with_reducible refine (HS1.out _).mono ?_); rintro e w2 ⟨rfl, rfl⟩) | (go_at_call 29; refine (HI2.out _).mono ?_; rintro e w3 ⟨rfl, hb3⟩) | (go_at_call 20; (with_reducible refine (HW1.out _).mono ?_); rintro e w4 ⟨rfl, rfl⟩) | (go_at_call 20; (with_reducible refine (HW2.out _).mono ?_); rintro e w4 ⟨rfl, rfl⟩) | (go_at_call 23; refine (HIN.out _).mono ?_; rintro e w6 ⟨v6, rfl, ho6, hb6⟩; clear ho6) | (go_at_call 21; refine (awake_here _).mono ?_; rintro e w5 ⟨rfl, hb5⟩))
        go_ret
        have k3 : Kp w w3 := hb3
        exact ⟨rfl, (k3.call hb6).call hb5⟩
      | some l =>
        have hsm : (withinF (bs u) (bs x)).isSome = true := by rw [hin]; rfl
        obtain ⟨k, hk⟩ : ∃ k, k = k := ⟨0, rfl⟩
        have HI2 : Hid (∀ W, Calls Try.prog 29 #[.string x, .string u] W fun e w' => (∃ k : Nat, e = .returned (.tuple #[.int .i64 k, .int .i64 0]) ∧ (subsF (bs x) 0)[k]? = some (bs u)) ∧ Below W.heap.size W w') := fun W => (HI.out W).mono fun e w' ⟨h, hb⟩ => by
          rcases h with ⟨h, _⟩ | ⟨k, _, h, h2⟩
          · rw [hin] at h; cases h
          · exact ⟨⟨k, h, h2⟩, hb⟩
        have HR := Lib.hid (fun W => index_any x u W hwx hwu hsm)
        have HND := Lib.hid (subsF_nodup (bs x) 0)
        rw [hin] at HIN
        clear hwx hwu HWX HWU HI hin hsm hk
        go_enter Try.func5, Try.ntmps5
        go_wp2_with (first | (go_at_call 17; (with_reducible refine (HS0.out _).mono ?_); rintro e w1 ⟨rfl, rfl⟩) | (go_at_call 17; (with_reducible refine (HS1.out _).mono ?_); rintro e w2 ⟨rfl, rfl⟩) | (go_at_call 29; refine (HI2.out _).mono ?_; rintro e w3 ⟨⟨k3, rfl, hk3⟩, hb3⟩; have HK := Lib.hid hk3; clear hk3) | (go_at_call 20; (with_reducible refine (HW1.out _).mono ?_); rintro e w4 ⟨rfl, rfl⟩) | (go_at_call 20; (with_reducible refine (HW2.out _).mono ?_); rintro e w4 ⟨rfl, rfl⟩) | (go_at_call 23; refine (HIN.out _).mono ?_; rintro e w6 ⟨v6, rfl, ho6, hb6⟩; clear ho6) | (go_at_call 30; refine (HR.out _).mono ?_; rintro e w7 ⟨k7, rfl, hk7, hb7⟩; obtain rfl : k3 = k7 := nodup_one HND.out HK.out hk7; clear hk7) | (go_at_call 21; refine (awake_here _).mono ?_; rintro e w5 ⟨rfl, hb5⟩))
        go_ret
        have k3 : Kp w w3 := hb3
        exact ⟨rfl, ((k3.call hb6).call hb7).call hb5⟩
end Go.Proofs.Ytkemcmeagnggeaa
