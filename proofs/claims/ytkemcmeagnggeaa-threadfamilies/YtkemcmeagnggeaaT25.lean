import Derived.Test.YtkemcmeagnggeaaT23
import Derived.Test.YtkemcmeagnggeaaT21
import Derived.Test.YtkemcmeagnggeaaT24
import Derived.Test.YtkemcmeagnggeaaT18
/- Layer 3: the walk of ThreadDiffers. -/
namespace Go.Proofs.Ytkemcmeagnggeaa
open Go.RowKit
set_option linter.unusedVariables false

theorem parted_some (x y o : ByteArray) (k most : Nat) (hr : IsFirst k (DifP (bs x) (bs y)) (some (bs o))) (w : World) (hx : x.size ≤ 60) (hy : y.size ≤ 300) (hk : k ≤ 4) (hm : x.size < most) (hm2 : most ≤ 1000) :
    Calls Try.prog 38 #[.string x, .string y, .int .i64 k, .int .i64 most] w fun e w' => e = .returned (.tuple #[.string o, .bool true]) ∧ Below w.heap.size w w' := by
  refine (parted_any x y k most w hx hy hk hm hm2).mono ?_
  rintro e w' ⟨⟨z, rfl, h⟩ | ⟨_, h⟩, hb⟩
  · have : z = o := bs_inj (Option.some.inj (IsFirst.uniq h hr))
    subst this
    exact ⟨rfl, hb⟩
  · cases IsFirst.uniq h hr
theorem parted_none (x y : ByteArray) (k most : Nat) (hr : IsFirst k (DifP (bs x) (bs y)) none) (w : World) (hx : x.size ≤ 60) (hy : y.size ≤ 300) (hk : k ≤ 4) (hm : x.size < most) (hm2 : most ≤ 1000) :
    Calls Try.prog 38 #[.string x, .string y, .int .i64 k, .int .i64 most] w fun e w' => e = .returned (.tuple #[.string ByteArray.empty, .bool false]) ∧ Below w.heap.size w w' := by
  refine (parted_any x y k most w hx hy hk hm hm2).mono ?_
  rintro e w' ⟨⟨z, _, h⟩ | ⟨rfl, _⟩, hb⟩
  · cases IsFirst.uniq h hr
  · exact ⟨rfl, hb⟩
set_option maxRecDepth 100000 in
set_option maxHeartbeats 3200000 in
theorem differs_walk (a0 a1 : ByteArray) (a2 : Int) (w0 : a0.size ≤ maxLen) (w1 : a1.size ≤ maxLen) (w : World) :
    Calls Try.prog 7 #[.string a0, .string a1, .int .i64 a2] w fun e w' => e = .returned (.bool true) ∧ Below w.heap.size w w' := by
  have HS0 : Hid (∀ W, Calls Try.prog 17 #[.string a0] W fun e w' => e = .returned (.string (cut61 a0)) ∧ W = w') := fun W => short_max a0 W (by unfold maxLen at w0; omega)
  have HS1 : Hid (∀ W, Calls Try.prog 17 #[.string a1] W fun e w' => e = .returned (.string (cut61 a1)) ∧ W = w') := fun W => short_max a1 W (by unfold maxLen at w1; omega)
  have hu := cut61_size a0
  have hx := cut61_size a1
  generalize cut61 a0 = u at HS0 hu
  generalize cut61 a1 = x at HS1 hx
  have HWU : Hid (∀ b W, wordB (bs u) = b → Calls Try.prog 20 #[.string u] W fun e w' => e = .returned (.bool b) ∧ W = w') := fun b W hb => by subst hb; exact word_any u W (by omega)
  have HWX : Hid (∀ b W, wordB (bs x) = b → Calls Try.prog 20 #[.string x] W fun e w' => e = .returned (.bool b) ∧ W = w') := fun b W hb => by subst hb; exact word_any x W (by omega)
  have HAW := Lib.hid (fun W => awake_here W)
  by_cases hbad : wordB (bs u) = false ∨ wordB (bs x) = false
  · have HD := Lib.hid (fun W => differP_bad u x W (by omega) (by omega) hbad)
    have HSA := Lib.hid (fun W => sameP_bad u x a2 W (by omega) (by omega) (hbad.imp id .inl))
    by_cases hwu : wordB (bs u) = false
    · have HW1 := Lib.hid (fun W => HWU.out false W hwu)
      clear hbad hwu HWU HWX
      go_enter Try.func7, Try.ntmps7
      go_wp2_with (first | (go_at_call 17; (with_reducible refine (HS0.out _).mono ?_); rintro e w1 ⟨rfl, rfl⟩) | (go_at_call 17; (with_reducible refine (HS1.out _).mono ?_); rintro e w2 ⟨rfl, rfl⟩) | (go_at_call 36; refine (HD.out _).mono ?_; rintro e w3 ⟨rfl, hd3⟩) | (go_at_call 37; refine (HSA.out _).mono ?_; rintro e w4 ⟨rfl, hd4⟩) | (go_at_call 20; (with_reducible refine (HW1.out _).mono ?_); rintro e w5 ⟨rfl, rfl⟩) | (go_at_call 21; refine (HAW.out _).mono ?_; rintro e w6 ⟨rfl, hb6⟩))
      go_ret
      have k3 : Kp w w3 := hd3.below _
      exact ⟨rfl, (k3.call (hd4.below _)).call hb6⟩
    · have hwx : wordB (bs x) = false := hbad.resolve_left hwu
      have HW1 := Lib.hid (fun W => HWU.out true W (by simpa using hwu))
      have HW2 := Lib.hid (fun W => HWX.out false W hwx)
      clear hbad hwu hwx HWU HWX
      go_enter Try.func7, Try.ntmps7
      go_wp2_with (first | (go_at_call 17; (with_reducible refine (HS0.out _).mono ?_); rintro e w1 ⟨rfl, rfl⟩) | (go_at_call 17; (with_reducible refine (HS1.out _).mono ?_); rintro e w2 ⟨rfl, rfl⟩) | (go_at_call 36; refine (HD.out _).mono ?_; rintro e w3 ⟨rfl, hd3⟩) | (go_at_call 37; refine (HSA.out _).mono ?_; rintro e w4 ⟨rfl, hd4⟩) | (go_at_call 20; (with_reducible refine (HW1.out _).mono ?_); rintro e w5 ⟨rfl, rfl⟩) | (go_at_call 20; (with_reducible refine (HW2.out _).mono ?_); rintro e w5 ⟨rfl, rfl⟩) | (go_at_call 21; refine (HAW.out _).mono ?_; rintro e w6 ⟨rfl, hb6⟩))
      go_ret
      have k3 : Kp w w3 := hd3.below _
      exact ⟨rfl, (k3.call (hd4.below _)).call hb6⟩
  · have hwu : wordB (bs u) = true := by cases e : wordB (bs u) <;> simp_all
    have hwx : wordB (bs x) = true := by cases e : wordB (bs x) <;> simp_all
    have hu60 := word_size hwu
    have hx60 := word_size hwx
    have HW1 := Lib.hid (fun W => HWU.out true W hwu)
    have HW2 := Lib.hid (fun W => HWX.out true W hwx)
    have HD := Lib.hid (fun W => differP_any u x W hwu hwx)
    clear hbad HWU HWX
    go_enter Try.func7, Try.ntmps7
    go_wp2_with (first | (go_at_call 17; (with_reducible refine (HS0.out _).mono ?_); rintro e w1 ⟨rfl, rfl⟩) | (go_at_call 17; (with_reducible refine (HS1.out _).mono ?_); rintro e w2 ⟨rfl, rfl⟩) | (go_at_call 36; fail))
    refine (HD.out _).mono ?_
    clear HD HS0 HS1
    rintro e w3 ⟨⟨o, rfl, hr⟩ | ⟨rfl, hr⟩, hb3⟩
    · have k3 : Kp w w3 := hb3
      have HP : Hid (∀ W, Calls Try.prog 38 #[.string u, .string x, .int .i64 4, .int .i64 61] W fun e w' => e = .returned (.tuple #[.string o, .bool true]) ∧ Below W.heap.size W w') := fun W => parted_some u x o 4 61 hr W hu60 (by omega) (by omega) (by omega) (by omega)
      by_cases hn : a2 < 0
      · have HSA := Lib.hid (fun W => sameP_bad u x a2 W (by omega) (by omega) (.inr (.inr hn)))
        clear hr hwu hwx hb3
        go_wp2_with (first | (go_at_call 37; refine (HSA.out _).mono ?_; rintro e w4 ⟨rfl, hd4⟩) | (go_at_call 20; (with_reducible refine (HW1.out _).mono ?_); rintro e w5 ⟨rfl, rfl⟩) | (go_at_call 20; (with_reducible refine (HW2.out _).mono ?_); rintro e w5 ⟨rfl, rfl⟩) | (go_at_call 38; (with_reducible refine (HP.out _).mono ?_); rintro e w7 ⟨rfl, hb7⟩) | (go_at_call 21; refine (HAW.out _).mono ?_; rintro e w6 ⟨rfl, hb6⟩))
        go_ret
        exact ⟨rfl, ((k3.call (hd4.below _)).call hb7).call hb6⟩
      · by_cases hlt : a2 < (o.size : Int)
        · have HSA : Hid (∀ W, Calls Try.prog 37 #[.string u, .string x, .int .i64 a2] W fun e w' => e = .returned (.tuple #[.bool true, .int .i64 0]) ∧ Below W.heap.size W w') := fun W => by
            have := same_known u x a2 hr hwu hwx (by omega) W
            rwa [show farB (some (bs o)) a2 = true from decide_eq_true (by rw [bs_len]; exact hlt)] at this
          clear hr hwu hwx hb3
          go_wp2_with (first | (go_at_call 37; refine (HSA.out _).mono ?_; rintro e w4 ⟨rfl, hb4⟩) | (go_at_call 20; (with_reducible refine (HW1.out _).mono ?_); rintro e w5 ⟨rfl, rfl⟩) | (go_at_call 20; (with_reducible refine (HW2.out _).mono ?_); rintro e w5 ⟨rfl, rfl⟩) | (go_at_call 38; (with_reducible refine (HP.out _).mono ?_); rintro e w7 ⟨rfl, hb7⟩) | (go_at_call 21; refine (HAW.out _).mono ?_; rintro e w6 ⟨rfl, hb6⟩))
          go_ret
          exact ⟨rfl, ((k3.call hb4).call hb7).call hb6⟩
        · have HSA : Hid (∀ W, Calls Try.prog 37 #[.string u, .string x, .int .i64 a2] W fun e w' => e = .returned (.tuple #[.bool false, .int .i64 0]) ∧ Below W.heap.size W w') := fun W => by
            have := same_known u x a2 hr hwu hwx (by omega) W
            rwa [show farB (some (bs o)) a2 = false from decide_eq_false (by rw [bs_len]; exact hlt)] at this
          have g0 : decide (a2 < (o.size : Int)) = false := decide_eq_false hlt
          clear hr hwu hwx hb3
          go_wp2_with (first | (go_at_call 37; refine (HSA.out _).mono ?_; rintro e w4 ⟨rfl, hb4⟩) | (go_at_call 20; (with_reducible refine (HW1.out _).mono ?_); rintro e w5 ⟨rfl, rfl⟩) | (go_at_call 20; (with_reducible refine (HW2.out _).mono ?_); rintro e w5 ⟨rfl, rfl⟩) | (go_at_call 38; (with_reducible refine (HP.out _).mono ?_); rintro e w7 ⟨rfl, hb7⟩) | (go_at_call 21; refine (HAW.out _).mono ?_; rintro e w6 ⟨rfl, hb6⟩))
          go_ret
          exact ⟨rfl, ((k3.call hb4).call hb7).call hb6⟩
    · have k3 : Kp w w3 := hb3
      have HP : Hid (∀ W, Calls Try.prog 38 #[.string u, .string x, .int .i64 4, .int .i64 61] W fun e w' => e = .returned (.tuple #[.string ByteArray.empty, .bool false]) ∧ Below W.heap.size W w') := fun W => parted_none u x 4 61 hr W hu60 (by omega) (by omega) (by omega) (by omega)
      by_cases hn : a2 < 0
      · have HSA := Lib.hid (fun W => sameP_bad u x a2 W (by omega) (by omega) (.inr (.inr hn)))
        clear hr hwu hwx hb3
        go_wp2_with (first | (go_at_call 37; refine (HSA.out _).mono ?_; rintro e w4 ⟨rfl, hd4⟩) | (go_at_call 20; (with_reducible refine (HW1.out _).mono ?_); rintro e w5 ⟨rfl, rfl⟩) | (go_at_call 20; (with_reducible refine (HW2.out _).mono ?_); rintro e w5 ⟨rfl, rfl⟩) | (go_at_call 38; (with_reducible refine (HP.out _).mono ?_); rintro e w7 ⟨rfl, hb7⟩) | (go_at_call 21; refine (HAW.out _).mono ?_; rintro e w6 ⟨rfl, hb6⟩))
        go_ret
        exact ⟨rfl, ((k3.call (hd4.below _)).call hb7).call hb6⟩
      · have HSA : Hid (∀ W, Calls Try.prog 37 #[.string u, .string x, .int .i64 a2] W fun e w' => e = .returned (.tuple #[.bool true, .int .i64 0]) ∧ Below W.heap.size W w') := fun W => same_known u x a2 hr hwu hwx (by omega) W
        clear hr hwu hwx hb3
        go_wp2_with (first | (go_at_call 37; refine (HSA.out _).mono ?_; rintro e w4 ⟨rfl, hb4⟩) | (go_at_call 20; (with_reducible refine (HW1.out _).mono ?_); rintro e w5 ⟨rfl, rfl⟩) | (go_at_call 20; (with_reducible refine (HW2.out _).mono ?_); rintro e w5 ⟨rfl, rfl⟩) | (go_at_call 38; (with_reducible refine (HP.out _).mono ?_); rintro e w7 ⟨rfl, hb7⟩) | (go_at_call 21; refine (HAW.out _).mono ?_; rintro e w6 ⟨rfl, hb6⟩))
        go_ret
        exact ⟨rfl, ((k3.call hb4).call hb7).call hb6⟩
end Go.Proofs.Ytkemcmeagnggeaa
/- Layer 3: the walk of ThreadArches. -/
namespace Go.Proofs.Ytkemcmeagnggeaa
open Go.RowKit
set_option linter.unusedVariables false

theorem Sl.rdB {w w' : World} {A : Option Addr} {n c : Nat} {zs : List Int} (h : Sl w A n c zs) (hb : Below w.heap.size w w') : Rd w' A zs := (h.below hb (Nat.le_refl _)).rd
/-- Both functions of the program at a word of the first k letters. -/
theorem archesP_is (s : ByteArray) (k m : Nat) (w : World) (h : archOk s k = true) (hk1 : 1 ≤ k) (hl : isW k (bs s)) (hs : s.size ≤ 60) (hm : (archF (bs s) k).length = m) :
    Calls Try.prog 31 #[.string s, .int .i64 (k : Int)] w fun e w' => ∃ A c, e = .returned (.tuple #[.slice A m c, .int .i64 0]) ∧ Sl w' A m c (archF (bs s) k) ∧ Below w.heap.size w w' := by
  refine (archesP_any s k w h).mono ?_
  rintro e w' ⟨v, rfl, hv, hb⟩
  rw [archC_eq (by rw [bs_len]; exact hs) hk1 hl] at hv
  have : m ≤ 60 := by have := archF_len (bs s) k; rw [bs_len] at this; omega
  obtain ⟨A, c, rfl, hsl⟩ := hv.sl_len hm (by omega)
  exact ⟨A, c, rfl, hsl, hb⟩
theorem absentP_is (s : ByteArray) (k : Nat) (w : World) (h : archOk s k = true) (hk1 : 1 ≤ k) (hl : isW k (bs s)) (hs : s.size ≤ 60) :
    Calls Try.prog 32 #[.string s, .int .i64 (k : Int)] w fun e w' => ∃ o : ByteArray, e = .returned (.tuple #[.string o, .int .i64 0]) ∧ IsFirst k (fun y => subB y (bs s) = false) (some (bs o)) ∧ Below w.heap.size w w' := by
  refine (absentP_any s k w h).mono ?_
  rintro e w' ⟨⟨x, rfl, hx⟩ | ⟨_, hx⟩, hb⟩
  · exact ⟨x, rfl, hx, hb⟩
  · obtain ⟨x, e, _⟩ := first_absent (by rw [bs_len]; exact hs) hk1 hl hx
    cases e
theorem lettersB_isW {x : List Int} {k : Nat} (h : lettersB x k = true) : isW k x := fun b hb => by
  obtain ⟨i, hi, e⟩ := List.mem_iff_getElem.1 hb
  have := lettersB_iff.1 h i hi
  rw [List.getElem?_eq_getElem hi, Option.getD_some, e] at this
  omega
set_option maxRecDepth 100000 in
set_option maxHeartbeats 3200000 in
theorem arches_walk (a0 : ByteArray) (a1 : Int) (w0 : a0.size ≤ maxLen) (w : World) :
    Calls Try.prog 6 #[.string a0, .int .i64 a1] w fun e w' => e = .returned (.bool true) ∧ Below w.heap.size w w' := by
  have HS0 : Hid (∀ W, Calls Try.prog 17 #[.string a0] W fun e w' => e = .returned (.string (cut61 a0)) ∧ W = w') := fun W => short_max a0 W (by unfold maxLen at w0; omega)
  have hs := cut61_size a0
  generalize cut61 a0 = s at HS0 hs
  have HWU : Hid (∀ b W, wordB (bs s) = b → Calls Try.prog 20 #[.string s] W fun e w' => e = .returned (.bool b) ∧ W = w') := fun b W hb => by subst hb; exact word_any s W (by omega)
  have HLT : Hid (∀ b W, lettersB (bs s) a1 = b → Calls Try.prog 33 #[.string s, .int .i64 a1] W fun e w' => e = .returned (.bool b) ∧ W = w') := fun b W hb => by subst hb; exact letters_any s a1 W (by omega)
  have HAW := Lib.hid (fun W => awake_here W)
  by_cases hok : archOk s a1 = true
  · have hok' := hok
    unfold archOk at hok'
    rw [Bool.and_eq_true, Bool.and_eq_true] at hok'
    obtain ⟨⟨h1, h2⟩, h3⟩ := hok'
    obtain ⟨k, rfl, hk1, hk4⟩ := lettersK_iff.1 h2
    have hs60 := word_size h1
    have hl := lettersB_isW h3
    obtain ⟨m, hm⟩ : ∃ m, (archF (bs s) k).length = m := ⟨_, rfl⟩
    have hm60 : m ≤ 60 := by have := archF_len (bs s) k; rw [bs_len] at this; omega
    have HW1 := Lib.hid (fun W => HWU.out true W h1)
    have HL1 := Lib.hid (fun W => HLT.out true W h3)
    have HAR := Lib.hid (fun W => archesP_is s k m W hok hk1 hl hs60 hm)
    have HAB := Lib.hid (fun W => absentP_is s k W hok hk1 hl hs60)
    have HRR := Lib.hid (fun W => arches_len s k m W h1 hk1 hk4 hm hm60)
    have HRA := Lib.hid (fun o W ho => absentR_any s o k W h1 hk1 hk4 hl ho)
    have HM := Lib.hid hm
    clear hok h1 h2 h3 hl hm HWU HLT
    go_enter Try.func6, Try.ntmps6
    go_wp2_with (first | (go_at_call 17; (with_reducible refine (HS0.out _).mono ?_); rintro e w1 ⟨rfl, rfl⟩) | (go_at_call 31; refine (HAR.out _).mono ?_; rintro e w2 ⟨A2, c2, rfl, hs2, hb2⟩; have HS2 := Lib.hid hs2; clear hs2) | (go_at_call 32; refine (HAB.out _).mono ?_; rintro e w3 ⟨o, rfl, ho, hb3⟩; have HO := Lib.hid ho; have HS3 := Lib.hid (HS2.out.below hb3 (Nat.le_refl _)); clear ho HS2) | (go_at_call 20; (with_reducible refine (HW1.out _).mono ?_); rintro e w4 ⟨rfl, rfl⟩) | (go_at_call 33; (with_reducible refine (HL1.out _).mono ?_); rintro e w5 ⟨rfl, rfl⟩) | (go_at_call 34; refine (HRR.out _).mono ?_; rintro e w6 ⟨A6, c6, rfl, hs6, hb6⟩; have HI := Lib.hid (ints_same A2 A6 (archF (bs s) k) m c2 c6 w6 HM.out (by omega) (HS3.out.below hb6 (Nat.le_refl _)).rd hs6.rd); clear hs6) | (go_at_call 24; refine HI.out.mono ?_; rintro e w7 ⟨rfl, hd7⟩; clear HI) | (go_at_call 35; refine (HRA.out _ _ HO.out).mono ?_; rintro e w8 ⟨rfl, hb8⟩) | (go_at_call 21; refine (HAW.out _).mono ?_; rintro e w9 ⟨rfl, hb9⟩))
    go_ret
    have k2 : Kp w w2 := hb2
    exact ⟨rfl, ((((k2.call hb3).call hb6).call (hd7.below _)).call hb8).call hb9⟩
  · have hok : archOk s a1 = false := by simpa using hok
    have HAR := Lib.hid (fun W => archesP_bad s a1 W (by omega) hok)
    have HAB := Lib.hid (fun W => absentP_bad s a1 W (by omega) hok)
    cases h1 : wordB (bs s) with
    | false =>
      have HW1 := Lib.hid (fun W => HWU.out false W h1)
      clear hok h1 HWU HLT
      go_enter Try.func6, Try.ntmps6
      go_wp2_with (first | (go_at_call 17; (with_reducible refine (HS0.out _).mono ?_); rintro e w1 ⟨rfl, rfl⟩) | (go_at_call 31; refine (HAR.out _).mono ?_; rintro e w2 ⟨rfl, hd2⟩) | (go_at_call 32; refine (HAB.out _).mono ?_; rintro e w3 ⟨rfl, hd3⟩) | (go_at_call 20; (with_reducible refine (HW1.out _).mono ?_); rintro e w4 ⟨rfl, rfl⟩) | (go_at_call 21; refine (HAW.out _).mono ?_; rintro e w9 ⟨rfl, hb9⟩))
      go_ret
      have k2 : Kp w w2 := hd2.below _
      exact ⟨rfl, (k2.call (hd3.below _)).call hb9⟩
    | true =>
      have HW1 := Lib.hid (fun W => HWU.out true W h1)
      by_cases hlo : a1 < 1
      · clear hok h1 HWU HLT
        go_enter Try.func6, Try.ntmps6
        go_wp2_with (first | (go_at_call 17; (with_reducible refine (HS0.out _).mono ?_); rintro e w1 ⟨rfl, rfl⟩) | (go_at_call 31; refine (HAR.out _).mono ?_; rintro e w2 ⟨rfl, hd2⟩) | (go_at_call 32; refine (HAB.out _).mono ?_; rintro e w3 ⟨rfl, hd3⟩) | (go_at_call 20; (with_reducible refine (HW1.out _).mono ?_); rintro e w4 ⟨rfl, rfl⟩) | (go_at_call 21; refine (HAW.out _).mono ?_; rintro e w9 ⟨rfl, hb9⟩))
        go_ret
        have k2 : Kp w w2 := hd2.below _
        exact ⟨rfl, (k2.call (hd3.below _)).call hb9⟩
      · by_cases hhi : 4 < a1
        · clear hok h1 HWU HLT
          go_enter Try.func6, Try.ntmps6
          go_wp2_with (first | (go_at_call 17; (with_reducible refine (HS0.out _).mono ?_); rintro e w1 ⟨rfl, rfl⟩) | (go_at_call 31; refine (HAR.out _).mono ?_; rintro e w2 ⟨rfl, hd2⟩) | (go_at_call 32; refine (HAB.out _).mono ?_; rintro e w3 ⟨rfl, hd3⟩) | (go_at_call 20; (with_reducible refine (HW1.out _).mono ?_); rintro e w4 ⟨rfl, rfl⟩) | (go_at_call 21; refine (HAW.out _).mono ?_; rintro e w9 ⟨rfl, hb9⟩))
          go_ret
          have k2 : Kp w w2 := hd2.below _
          exact ⟨rfl, (k2.call (hd3.below _)).call hb9⟩
        · have h3 : lettersB (bs s) a1 = false := by
            unfold archOk at hok
            rw [h1, show lettersK a1 = true from by unfold lettersK; rw [decide_eq_true (by omega), decide_eq_true (by omega)]; rfl] at hok
            simpa using hok
          have HL1 := Lib.hid (fun W => HLT.out false W h3)
          clear hok h1 h3 HWU HLT
          go_enter Try.func6, Try.ntmps6
          go_wp2_with (first | (go_at_call 17; (with_reducible refine (HS0.out _).mono ?_); rintro e w1 ⟨rfl, rfl⟩) | (go_at_call 31; refine (HAR.out _).mono ?_; rintro e w2 ⟨rfl, hd2⟩) | (go_at_call 32; refine (HAB.out _).mono ?_; rintro e w3 ⟨rfl, hd3⟩) | (go_at_call 20; (with_reducible refine (HW1.out _).mono ?_); rintro e w4 ⟨rfl, rfl⟩) | (go_at_call 33; (with_reducible refine (HL1.out _).mono ?_); rintro e w5 ⟨rfl, rfl⟩) | (go_at_call 21; refine (HAW.out _).mono ?_; rintro e w9 ⟨rfl, hb9⟩))
          go_ret
          have k2 : Kp w w2 := hd2.below _
          exact ⟨rfl, (k2.call (hd3.below _)).call hb9⟩
end Go.Proofs.Ytkemcmeagnggeaa
/- Layer 3: the walk of ThreadUniversal. -/
namespace Go.Proofs.Ytkemcmeagnggeaa
open Go.RowKit
set_option linter.unusedVariables false

theorem without_word {o x : ByteArray} {k i : Nat} (hk1 : 1 ≤ k) (hx : isW k (bs x)) (hxs : x.size ≤ 60) (ho : isW k (bs o)) (hi : i < o.size) (hl : o.size = (archF (bs x) k).length + 1) : isW k (bs (o.extract 0 i ++ o.extract (i + 1) o.size)) ∧ subB (bs (o.extract 0 i ++ o.extract (i + 1) o.size)) (bs x) = true := by
  rw [bs_without o i hi]
  have hw : isW k ((bs o).take i ++ (bs o).drop (i + 1)) := fun b hb => by
    rcases List.mem_append.1 hb with hb | hb
    · exact ho b (List.mem_of_mem_take hb)
    · exact ho b (List.mem_of_mem_drop hb)
  refine ⟨hw, short_sub (by rw [bs_len]; exact hxs) hk1 hx hw ?_⟩
  rw [List.length_append, List.length_take, List.length_drop, bs_len]
  omega
set_option maxRecDepth 100000 in
set_option maxHeartbeats 3200000 in
theorem universal_walk (a0 : ByteArray) (a1 : Int) (w0 : a0.size ≤ maxLen) (w : World) :
    Calls Try.prog 13 #[.string a0, .int .i64 a1] w fun e w' => e = .returned (.bool true) ∧ Below w.heap.size w w' := by
  have HMO := Lib.hid (fun W => mod_max a1 4 W (by omega) (by omega))
  have HAW := Lib.hid (fun W => awake_here W)
  go_enter Try.func13, Try.ntmps13
  go_wp2_with (go_at_call 47; fail)
  refine (HMO.out _).mono ?_
  rintro e w1 ⟨⟨r, rfl, hr4⟩, rfl⟩
  have hc : ((r + 1 : Nat) : Int) = 1 + (r : Int) := by omega
  have HTM : Hid (∀ W, Calls Try.prog 46 #[.string a0, .int .i64 30, .int .i64 (1 + (r : Int))] W fun e w' => e = .returned (.string (tmB a0 30 (r + 1))) ∧ Below W.heap.size W w') := fun W => by
    have := tame_max a0 30 (r + 1) W (by unfold maxLen at w0; omega) (by omega) (by omega) (by omega)
    rw [hc] at this
    exact this
  have hx := tmB_isW a0 30 (r + 1) (by omega) (by omega)
  have hx30 := tmB_size a0 30 (r + 1)
  generalize tmB a0 30 (r + 1) = x at HTM hx hx30
  have hx4 : isW 4 (bs x) := isW_mono hx (by omega)
  have hwx : wordB (bs x) = true := isW_word hx4 (by rw [bs_len]; omega)
  obtain ⟨m, hm⟩ : ∃ m, (archF (bs x) (r + 1)).length = m := ⟨_, rfl⟩
  have hm30 : m ≤ 30 := by have := archF_len (bs x) (r + 1); rw [bs_len] at this; omega
  have hok := archOk_of hx (by omega) (by omega) (by omega)
  have HAR : Hid (∀ W, Calls Try.prog 31 #[.string x, .int .i64 (1 + (r : Int))] W fun e w' => ∃ A c, e = .returned (.tuple #[.slice A m c, .int .i64 0]) ∧ Sl w' A m c (archF (bs x) (r + 1)) ∧ Below W.heap.size W w') := fun W => by
    have := archesP_is x (r + 1) m W hok (by omega) hx (by omega) hm
    rw [hc] at this
    exact this
  have HAB : Hid (∀ W, Calls Try.prog 32 #[.string x, .int .i64 (1 + (r : Int))] W fun e w' => ∃ o : ByteArray, e = .returned (.tuple #[.string o, .int .i64 0]) ∧ (isW (r + 1) (bs o) ∧ subB (bs o) (bs x) = false ∧ o.size = m + 1) ∧ Below W.heap.size W w') := fun W => by
    have := absentP_is x (r + 1) W hok (by omega) hx (by omega)
    rw [hc] at this
    refine this.mono ?_
    rintro e w' ⟨o, rfl, ho, hb⟩
    exact ⟨o, rfl, ⟨ho.1, ho.2.1, by rw [absent_known o x (r + 1) (by omega) (by omega) (by omega) hx ho, hm]⟩, hb⟩
  have HW1 : Hid (∀ (o : ByteArray) W, isW (r + 1) (bs o) → subB (bs o) (bs x) = false → o.size = m + 1 → Calls Try.prog 18 #[.string o, .string x] W fun e w' => ∃ v, e = .returned (.tuple #[v, .int .i64 6]) ∧ Below W.heap.size W w') := fun o W h1 h2 h3 => within_known o x false h2 (isW_word (isW_mono h1 (by omega)) (by rw [bs_len]; omega)) hwx W
  have HW2 : Hid (∀ (o : ByteArray) (i : Nat) W, isW (r + 1) (bs o) → o.size = m + 1 → i < o.size → Calls Try.prog 18 #[.string (o.extract 0 i ++ o.extract (i + 1) o.size), .string x] W fun e w' => ∃ v, e = .returned (.tuple #[v, .int .i64 0]) ∧ Below W.heap.size W w') := fun o i W h1 h3 hi => by
    have h4 := without_word (by omega) hx (by omega) h1 hi (by rw [h3, hm])
    refine within_known _ x true h4.2 (isW_word (isW_mono h4.1 (by omega)) ?_) hwx W
    rw [bs_len, ByteArray.size_append, ByteArray.size_extract, ByteArray.size_extract]
    omega
  have hxx : isW (r + 1) (bs (x ++ x)) := by
    rw [bs_append]
    intro b hb
    rcases List.mem_append.1 hb with hb | hb <;> exact hx b hb
  have HA2 : Hid (0 < m → (archF (bs x) (r + 1))[m - 1]?.getD 0 = (x.size : Int) - 1 → ∀ W, Calls Try.prog 31 #[.string (x ++ x), .int .i64 (1 + (r : Int))] W fun e w' => ∃ A c, e = .returned (.tuple #[.slice A (2 * m) c, .int .i64 0]) ∧ Sl w' A (2 * m) c (archF (bs x) (r + 1) ++ (archF (bs x) (r + 1)).map (· + (x.size : Int))) ∧ Below W.heap.size W w') := fun h0 h1 W => by
    have e := arch_twice (w := bs x) (k := r + 1) (by omega) (by rw [hm, bs_len]; exact h1)
    rw [← bs_append, bs_len] at e
    have hsz : (x ++ x).size ≤ 60 := by rw [ByteArray.size_append]; omega
    have := archesP_is (x ++ x) (r + 1) (2 * m) W (archOk_of hxx (by omega) (by omega) hsz) (by omega) hxx hsz (by rw [e, List.length_append, List.length_map, hm]; omega)
    rw [hc, e] at this
    exact this
  have HM := Lib.hid hm
  clear hx hx4 hwx hok hxx hm hc
  go_wp2_with (first | (go_at_call 46; refine (HTM.out _).mono ?_; rintro e w2 ⟨rfl, hb2⟩) | (go_at_call 31; refine (HAR.out _).mono ?_; rintro e w3 ⟨A3, c3, rfl, hs3, hb3⟩; have HS3 := Lib.hid hs3; clear hs3) | (go_at_call 32; refine (HAB.out _).mono ?_; rintro e w4 ⟨o, rfl, ⟨ho1, ho2, ho3⟩, hb4⟩; have HO1 := Lib.hid ho1; have HO2 := Lib.hid ho2; clear ho1 ho2) | (go_at_call 18; refine (HW1.out _ _ HO1.out HO2.out ho3).mono ?_; rintro e w5 ⟨v5, rfl, hb5⟩))
  have k5 : Kp w w5 := ((Kp.call (hb2 : Kp w w2) hb3).call hb4).call hb5
  have HS5 := Lib.hid ((HS3.out.below hb4 (Nat.le_refl _)).below hb5 (Nat.le_refl _))
  have hos : o.size ≤ 31 := by rw [ho3]; omega
  have HO3 := Lib.hid ho3
  clear ho3
  clear HS3 hb2 hb3 hb4 hb5 HTM HAR HAB HW1 HMO HO2
  go_loopw [11] (fun i w' => ∃ j : Nat, j ≤ o.size ∧ i = .int .i64 (j : Int) ∧ Below w5.heap.size w5 w') (fun i _ => o.size - (intOf i).toNat)
  case atStart => exact ⟨0, by omega, by go_num, Below.refl _ _⟩
  case round =>
    obtain ⟨j, hj, rfl, hD⟩ := hrel
    obtain ⟨wo, rfl⟩ : ∃ wo : World, wo = wr := ⟨_, rfl⟩
    by_cases hlt : j < o.size
    · have HWJ := Lib.hid (fun W => HW2.out o j W HO1.out HO3.out hlt)
      have hzz : (o.extract 0 j).size + (o.extract (j + 1) o.size).size ≤ 9223372036854775807 := by rw [ByteArray.size_extract, ByteArray.size_extract]; omega
      have hadd := fun V => run_string_add_sum (P := Try.prog) (w := V) (o.extract 0 j) (o.extract (j + 1) o.size) hzz
      clear hzz
      go_upto_region 11 with (fail)
      have hw1 : IntKind.i64.wrap ((j : Int) + 1) = (j : Int) + 1 := IntWalk.i64_in _ (by omega)
      have ht1 : ((j : Int) + 1).toNat = j + 1 := by omega
      have ht2 : (0 : Int) ≤ (j : Int) + 1 := by omega
      have ht3 : (j : Int) + 1 ≤ (o.size : Int) := by omega
      go_region_law (first | (go_simp; go_at_call 18; refine (HWJ.out _).mono ?_; rintro e w7 ⟨v7, rfl, hb7⟩))
      all_goals
        have HD7 := Lib.hid (hD.drew.trans (hb7.mono hD.size))
        clear hadd
        go_wp2
        exact ⟨⟨j + 1, by omega, by go_num, HD7.out⟩, by simp [intOf] <;> omega⟩
    · have HSO := Lib.hid (HS5.out.below hD (Nat.le_refl _))
      obtain rfl : j = o.size := by omega
      clear HW2 hj
      by_cases hm0 : m = 0
      · subst hm0
        go_wp2_with (go_at_call 21; refine (HAW.out _).mono ?_; rintro e w8 ⟨rfl, hb8⟩)
        go_ret
        exact ⟨rfl, (k5.call hD).call hb8⟩
      · obtain ⟨b3, off3, rfl, hcells⟩ := HSO.out.cells (by omega)
        have HC := Lib.hid hcells
        have cl := hcells (m - 1) (by omega)
        rw [show off3 + (m - 1) = off3 + (m - 1) from rfl] at cl
        clear hcells
        obtain ⟨z, hz⟩ : ∃ z, z = (archF (bs x) (r + 1))[m - 1]?.getD 0 := ⟨_, rfl⟩
        rw [← hz] at cl HA2
        clear hz
        obtain ⟨n, rfl⟩ : ∃ n, m = n + 1 := ⟨m - 1, by omega⟩
        rw [Nat.add_sub_cancel] at cl
        by_cases hze : z = (x.size : Int) - 1
        · have HAD := Lib.hid (HA2.out (by omega) hze)
          have hzx : x.size + x.size ≤ 9223372036854775807 := by omega
          have hadd2 := fun V => run_string_add_sum (P := Try.prog) (w := V) x x hzx
          subst hze
          clear HA2
          go_wp2_with (go_at_call 31; refine (HAD.out _).mono ?_; rintro e w9 ⟨A9, c9, rfl, hs9, hb9⟩; have HS9 := Lib.hid hs9; clear hs9)
          have HSP := Lib.hid (HSO.out.below hb9 (Nat.le_refl _))
          have hc9 := HS9.out.cells (by omega)
          obtain ⟨b9, off9, rfl, hc9⟩ := hc9
          have HC9 := Lib.hid hc9
          have HC3 := Lib.hid (fun (k : Nat) (hk : k < n + 1) => (World.cell?_of_block (a := ⟨b3, off3 + k, none⟩) (hb9.block b3 (lt_of_cell (HC.out k hk)))).trans (HC.out k hk))
          have k9 := (k5.call hD).call hb9
          clear hc9 hadd2 hb9 cl hD HC
          go_loopw [16] (fun i w' => ∃ j : Nat, j ≤ n + 1 ∧ i = .int .i64 (j : Int) ∧ Dr w9 w') (fun i _ => n + 1 - (intOf i).toNat)
          case atStart => exact ⟨0, by omega, by go_num, Dr.refl _⟩
          case round =>
            obtain ⟨j, hj, rfl, hW⟩ := hrel
            by_cases hjn : j < n + 1
            · have ht := twice_at (l := archF (bs x) (r + 1)) (n := (x.size : Int)) (i := j) (by rw [HM.out]; exact hjn)
              rw [HM.out] at ht
              have d0 := (hW.cell _).trans (HC3.out j hjn)
              have d1 := (hW.cell _).trans (HC9.out j (by omega))
              have d2 := (hW.cell _).trans (HC9.out (n + 1 + j) (by omega))
              rw [ht.1] at d1
              rw [ht.2] at d2
              clear ht
              obtain ⟨y, hy⟩ : ∃ y, y = (archF (bs x) (r + 1))[j]?.getD 0 := ⟨_, rfl⟩
              have hyr : 0 ≤ y ∧ y ≤ 30 := by
                have := archF_rng (w := bs x) (k := r + 1) (i := j) (by rw [HM.out]; exact hjn)
                rw [bs_len, ← hy] at this
                omega
              rw [← hy] at d0 d1 d2
              clear hy
              go_upto_region 22 with (fail)
              have hw1 : IntKind.i64.wrap ((n : Int) + 1 + (j : Int)) = (n : Int) + 1 + (j : Int) := IntWalk.i64_in _ (by omega)
              have hw2 : IntKind.i64.wrap (y + (x.size : Int)) = y + (x.size : Int) := IntWalk.i64_in _ (by omega)
              have ht2 : ((n : Int) + 1 + (j : Int)).toNat = n + 1 + j := by omega
              go_quiet (fail)
              clear hw1 hw2 ht2
              go_wp2
              exact ⟨⟨j + 1, by omega, by go_num, hW.more _⟩, by simp [intOf] <;> omega⟩
            · obtain rfl : j = n + 1 := by omega
              go_wp2_with (go_at_call 21; refine (HAW.out _).mono ?_; rintro e w8 ⟨rfl, hb8⟩)
              go_ret
              exact ⟨rfl, (k9.call (hW.below _)).call hb8⟩
        · have gz : (z != (x.size : Int) - 1) = true := by simpa using hze
          clear HA2
          go_wp2_with (go_at_call 21; refine (HAW.out _).mono ?_; rintro e w8 ⟨rfl, hb8⟩)
          go_ret
          exact ⟨rfl, (k5.call hD).call hb8⟩
end Go.Proofs.Ytkemcmeagnggeaa
