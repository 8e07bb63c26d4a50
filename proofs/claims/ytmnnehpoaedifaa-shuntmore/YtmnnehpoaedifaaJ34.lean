import Derived.Test.YtmnnehpoaedifaaJ10
import Derived.Test.YtmnnehpoaedifaaJ03
import Derived.Test.YtmnnehpoaedifaaJ16
import Derived.Test.YtmnnehpoaedifaaJ21
import Derived.Test.YtmnnehpoaedifaaJ19
import Derived.Test.YtmnnehpoaedifaaJ28
import Derived.Test.YtmnnehpoaedifaaJ20
/- The law ShuntOnce, from what the program's functions promise. -/
namespace Go.Proofs.Ytmnnehpoaedifaa
open Go.RowKit
set_option linter.unusedVariables false

theorem sl_nil (w : World) : Sl w none 0 0 [] := ⟨rfl, Nat.le_refl _, by omega, fun _ => ⟨rfl, rfl⟩, fun k hk => absurd hk (by simp), fun _ _ h _ => (by cases h)⟩
theorem plan_none {o : List Int} (h0 : 0 < o.length) : planB o [] = false := by
  unfold planB
  rw [decide_eq_false (by simp; omega)]; rfl
theorem lanes_len {o l : List Int} {k : Int} (h : lanesB o k l = true) : l.length = o.length := by
  unfold lanesB at h
  simp only [Bool.and_eq_true, decide_eq_true_eq] at h
  exact h.1
theorem sides_len {o l : List Int} (h : sidesB o l = true) : l.length = o.length := by
  unfold sidesB at h
  simp only [Bool.and_eq_true, decide_eq_true_eq] at h
  exact h.1.1
/-- Plans and blocks of one stack exclude each other, and so on. -/
theorem once_stack {o b : List Int} (ho : ordB o 60 = true) (h0 : 0 < o.length) (h : ascB (passOf o) = true) : checkStackOf o ⟨#[]⟩ b = 10 := by
  unfold checkStackOf
  rw [if_neg (by rw [ho]; simp), if_neg]
  rintro (⟨h1, _⟩ | ⟨_, _, h1⟩)
  · rw [plan_none h0] at h1; cases h1
  · obtain ⟨x, y, z, hb⟩ := bad_of_sblock h1
    exact (oneStack_iff (ordB_iff.1 ho).1.diff).1 h x y z hb
theorem once_lanes {o b : List Int} {k : Int} (ho : ordB o 60 = true) (k1 : 1 ≤ k) (k2 : k ≤ 60) (h0 : 0 < o.length) (h : leastOf o ≤ k) : checkQueuesOf o k [] b = 10 := by
  unfold checkQueuesOf
  rw [if_pos ⟨ho, k1, k2⟩, if_neg]
  rintro (⟨h1, _⟩ | ⟨_, _, h1⟩)
  · have := lanes_len h1; simp at this; omega
  · have := least_of_qblock h1; omega
theorem once_queues {o a : List Int} {k : Int} (ho : ordB o 60 = true) (k1 : 1 ≤ k) (k2 : k ≤ 60) (h : k < leastOf o) : checkQueuesOf o k a [] = 10 := by
  unfold checkQueuesOf
  rw [if_pos ⟨ho, k1, k2⟩, if_neg]
  rintro (⟨h1, _⟩ | ⟨_, _, h1⟩)
  · have := least_of_lanes k1 h1; omega
  · have := qblock_len h1; simp at this; omega
theorem once_sides {o b : List Int} (ho : ordB o 60 = true) (h0 : 0 < o.length) (h : twoB o = true) : checkStacksOf o [] b = 10 := by
  unfold checkStacksOf
  rw [if_neg (by rw [ho]; simp), if_neg]
  rintro (⟨h1, _⟩ | ⟨_, _, h1⟩)
  · have := sides_len h1; simp at this; omega
  · obtain ⟨f, hf⟩ := twoB_iff.1 h
    exact no_proper_of_tblock h1 hf
theorem once_rings {o a : List Int} (ho : ordB o 60 = true) (h : twoB o = false) : checkStacksOf o a [] = 10 := by
  unfold checkStacksOf
  rw [if_neg (by rw [ho]; simp), if_neg]
  rintro (⟨h1, _⟩ | ⟨_, _, h1⟩)
  · rw [twoB_iff.2 ⟨_, proper_of_sides h1⟩] at h; cases h
  · have := tblock_len h1; simp at this

theorem mod_is (x : Int) (n : Int) (w : World) (hn : 1 ≤ n) (hn' : n ≤ 1000000) (r : Nat) (hr : wrap64 ((IntKind.u64.wrap x).tmod n) = r) :
    Calls Try.prog 49 #[.int .i64 x, .int .i64 n] w fun e w' => e = .returned (.int .i64 r) ∧ w = w' := by
  have H := Lib.hid hr; clear hr
  go_enter Try.func49, Try.ntmps49
  go_wp2
  go_ret
  exact ⟨iend H.out, rfl⟩
theorem once_none (hA : AwakeOk) (hP : StackOk) (hCP : CheckStackOk) (hQ : QueuesOk) (hCQ : CheckQueuesOk) (hS : StacksOk) (hCS : CheckStacksOk) (A A1 A2 : Option Addr) (n c n1 c1 n2 c2 : Nat) (zs za zb : List Int) (k : Int) (w : World) (hs : Sl w A n c zs) (hs1 : Sl w A1 n1 c1 za) (hs2 : Sl w A2 n2 c2 zb) (hz : min n 30 = 0) :
    Calls Try.prog 11 #[.slice A n c, .int .i64 k, .agg #[.slice A1 n1 c1, .slice A2 n2 c2]] w fun e w' => e = .returned (.bool true) ∧ Below w.heap.size w w' := by
  have hlen := tameOf_len zs 0
  obtain ⟨w0, hw0⟩ : ∃ w0, w0 = w.alloc (.cells #[.slice A1 n1 c1, .slice A2 n2 c2] 42) := ⟨_, rfl⟩
  have HW0 : Hid (Below w.heap.size w w0) := by rw [hw0]; exact (Below.refl _ _).alloc (Nat.le_refl _) _
  have hs' := hs.alloc (.cells #[.slice A1 n1 c1, .slice A2 n2 c2] 42)
  rw [← hw0] at hs'
  have HA := Lib.hid hA
  have HT : Hid (Calls Try.prog 48 #[.slice A n c, .int .i64 (30 : Nat)] w0 fun e w' => ∃ B d, e = .returned (.slice B 0 d) ∧ Kp w0 w') := by
    refine (tame_any A n c zs 30 w0 hs' (by omega)).mono ?_
    rintro e w1 ⟨v, rfl, hv, hb⟩
    rw [hz] at hv
    obtain ⟨B, d, rfl, _⟩ := hv.sl_len hlen (by omega)
    exact ⟨B, d, rfl, hb⟩
  clear hA hP hCP hQ hCQ hS hCS hs hs1 hs2 hs' hz hlen
  go_enter Try.func11, Try.ntmps11
  go_wp2_with fail
  rw [← hw0]
  have HW := Lib.hid hw0; clear hw0
  go_wp2_with (first | (go_at_call 48; refine HT.out.mono ?_; rintro e w1 ⟨B, d, rfl, k1⟩) | (go_at_call 22; refine (HA.out _).mono ?_; rintro e w2 ⟨rfl, hb2⟩))
  go_ret
  exact ⟨rfl, HW0.out.trans ((k1.call hb2).mono HW0.out.size)⟩
set_option maxHeartbeats 3200000 in
theorem once_000 (hA : AwakeOk) (hP : StackOk) (hCP : CheckStackOk) (hQ : QueuesOk) (hCQ : CheckQueuesOk) (hS : StacksOk) (hCS : CheckStacksOk) (A A1 A2 : Option Addr) (n c n1 c1 n2 c2 : Nat) (zs za zb : List Int) (k : Int) (w : World) (hs : Sl w A n c zs) (hs1 : Sl w A1 n1 c1 za) (hs2 : Sl w A2 n2 c2 zb)
    (N : Nat) (o : List Int) (hN : min n 30 = N) (hoe : tameOf zs N = o) (h0 : 0 < N) (r : Nat) (hmod : ∀ W, Calls Try.prog 49 #[.int .i64 k, .int .i64 6] W fun e w' => e = .returned (.int .i64 r) ∧ W = w') (hr : r < 6)
    (hp : ascB (passOf o) = false) (hq : 1 + (r : Int) < leastOf o) (h2 : twoB o = false) :
    Calls Try.prog 11 #[.slice A n c, .int .i64 k, .agg #[.slice A1 n1 c1, .slice A2 n2 c2]] w fun e w' => e = .returned (.bool true) ∧ Below w.heap.size w w' := by
  have hol : o.length = N := by rw [← hoe, tameOf_len]
  have hord : Ord o := by rw [← hoe]; exact ord_tame zs N
  have hob : ordB o 60 = true := ordB_iff.2 ⟨hord, by omega⟩
  obtain ⟨q, b, hqm, hbe, hblen, hq61⟩ := list_has hs2
  obtain ⟨u0, a, hum, hae, halen, hu61⟩ := list_has hs1
  obtain ⟨w0, hw0⟩ : ∃ w0, w0 = w.alloc (.cells #[.slice A1 n1 c1, .slice A2 n2 c2] 42) := ⟨_, rfl⟩
  have HW0 : Hid (Below w.heap.size w w0) := by rw [hw0]; exact (Below.refl _ _).alloc (Nat.le_refl _) _
  have HCL : Hid (∀ W, Kp w0 W → W.cell? ⟨w.heap.size, 0, none⟩ = some (.slice A1 n1 c1) ∧ W.cell? ⟨w.heap.size, 1, none⟩ = some (.slice A2 n2 c2)) := fun W h => by
    have hlt : w.heap.size < w0.heap.size := by rw [hw0]; simp
    exact ⟨(Below.cell h hlt).trans (by rw [hw0]; simp), (Below.cell h hlt).trans (by rw [hw0]; simp)⟩
  have hs' := hs.alloc (.cells #[.slice A1 n1 c1, .slice A2 n2 c2] 42)
  have hs1' := hs1.alloc (.cells #[.slice A1 n1 c1, .slice A2 n2 c2] 42)
  have hs2' := hs2.alloc (.cells #[.slice A1 n1 c1, .slice A2 n2 c2] 42)
  rw [← hw0] at hs' hs1' hs2'
  have HA : Hid (∀ W, Kp w0 W → Calls Try.prog 22 #[] W fun e w' => e = .returned (.bool true) ∧ Kp w0 w') := fun W h => (hA W).mono fun _ _ ⟨he, hb⟩ => ⟨he, h.call hb⟩
  have HT : Hid (Calls Try.prog 48 #[.slice A n c, .int .i64 (30 : Nat)] w0 fun e w' => ∃ B d, e = .returned (.slice B N d) ∧ Sl w' B N d o ∧ Kp w0 w') := by
    refine (tame_any A n c zs 30 w0 hs' (by omega)).mono ?_
    rintro e w1 ⟨v, rfl, hv, hb⟩
    rw [hN, hoe] at hv
    obtain ⟨B, d, rfl, hsl⟩ := hv.sl_len hol (by omega)
    exact ⟨B, d, rfl, hsl, hb⟩
  have HL1 : Hid (∀ W, Kp w0 W → Calls Try.prog 18 #[.slice A1 n1 c1] W fun e w' => ∃ (B : Option Addr) (d : Nat), e = .returned (.slice B u0 d) ∧ Sl w' B u0 d a ∧ Below W.heap.size W w') := fun W h => list_sl A1 n1 c1 za W (hs1'.below h (Nat.le_refl _)) u0 a hum hae
  have HL2 : Hid (∀ W, Kp w0 W → Calls Try.prog 18 #[.slice A2 n2 c2] W fun e w' => ∃ (B : Option Addr) (d : Nat), e = .returned (.slice B q d) ∧ Sl w' B q d b ∧ Below W.heap.size W w') := fun W h => list_sl A2 n2 c2 zb W (hs2'.below h (Nat.le_refl _)) q b hqm hbe
  have HP : Hid (∀ B d W, Sl W B N d o → Calls Try.prog 19 #[.slice B N d] W fun e w' => ∃ (v : Value), e = .returned (.tuple #[.string ⟨#[]⟩, v, .int .i64 0]) ∧ Below W.heap.size W w') := fun B d W hsl => by
    refine (hP B N d o W hsl).mono ?_
    rintro e w' ⟨P, v, x, l, rfl, _, _, _, _, _, h, hb⟩
    obtain ⟨rfl, _, rfl⟩ := h hob hp
    exact ⟨v, rfl, hb⟩
  have HQ : Hid (∀ B d W, Sl W B N d o → Calls Try.prog 26 #[.slice B N d, .int .i64 (1 + (r : Int))] W fun e w' => ∃ (U : Option Addr) (u' : Nat) (v : Value), e = .returned (.tuple #[.slice U 0 u', v, .int .i64 0]) ∧ Below W.heap.size W w') := fun B d W hsl => by
    refine (hQ B N d o (1 + (r : Int)) W hsl).mono ?_
    rintro e w' ⟨u, v, x, l, t, rfl, hu, _, hl60, _, _, h1, h2, hb⟩
    obtain ⟨rfl, _, rfl⟩ := h2 hob (by omega) (by omega) hq
    obtain ⟨U, u', rfl, _⟩ := hu.sl_len (n := 0) rfl (by omega)
    exact ⟨U, u', v, rfl, hb⟩
  have HCQ : Hid (∀ B d B2 d2 W, Sl W B N d o → Sl W B2 u0 d2 a → Calls Try.prog 28 #[.slice B N d, .int .i64 (1 + (r : Int)), .slice B2 u0 d2, .slice none 0 0] W fun e w' => e = .returned (.int .i64 10) ∧ Below W.heap.size W w') := fun B d B2 d2 W h1 h2 => by
    have h := hCQ B B2 none N d u0 d2 0 0 o a [] (1 + (r : Int)) W h1 h2 (sl_nil W) (by omega) (by omega)
    rw [once_queues hob (by omega) (by omega) hq] at h
    exact h
  have HS : Hid (∀ B d W, Sl W B N d o → Calls Try.prog 32 #[.slice B N d] W fun e w' => ∃ (U : Option Addr) (u' : Nat) (v : Value), e = .returned (.tuple #[.slice U 0 u', v, .int .i64 0]) ∧ Below W.heap.size W w') := fun B d W hsl => by
    refine (hS B N d o W hsl).mono ?_
    rintro e w' ⟨u, v, x, l, t, rfl, hu, _, hl60, _, _, h1, h3, hb⟩
    obtain ⟨rfl, _, rfl⟩ := h3 hob h2
    obtain ⟨U, u', rfl, _⟩ := hu.sl_len (n := 0) rfl (by omega)
    exact ⟨U, u', v, rfl, hb⟩
  have HCS : Hid (∀ B d B2 d2 W, Sl W B N d o → Sl W B2 u0 d2 a → Calls Try.prog 34 #[.slice B N d, .slice B2 u0 d2, .slice none 0 0] W fun e w' => e = .returned (.int .i64 10) ∧ Below W.heap.size W w') := fun B d B2 d2 W h1 h3 => by
    have h := hCS B B2 none N d u0 d2 0 0 o a [] W h1 h3 (sl_nil W) (by omega) (by omega)
    rw [once_rings hob h2] at h
    exact h
  have HMOD := Lib.hid hmod
  have hN30 : N ≤ 30 := by omega
  have g0 : ((N : Int) == 0) = false := by simp; omega
  have gpos : 0 < N := h0
  clear hA hP hCP hQ hCQ hS hCS hs hs1 hs2 hs' hs1' hs2' hqm hbe hblen hum hae halen hN hoe hol hord hob hmod hp hq h2
  have HK0 : Hid (Kp w0 w0) := Below.refl _ _
  go_enter Try.func11, Try.ntmps11
  go_wp2_with fail
  rw [← hw0]
  have HW := Lib.hid hw0; clear hw0
  go_wp2_with (go_at_call 48; refine HT.out.mono ?_; rintro e w1 ⟨B, d, rfl, hsl1, k1⟩)
  go_wp2_with (go_at_call 49; refine (HMOD.out _).mono ?_; rintro e w2 ⟨rfl, rfl⟩)
  go_wp2_with (go_at_call 19; refine (HP.out B d _ hsl1).mono ?_; rintro e w2 ⟨v1, rfl, hb2⟩)
  have hsl2 := hsl1.below hb2 (Nat.le_refl _)
  have k2 := k1.call hb2
  clear hsl1 k1 hb2
  go_wp2_with (go_at_call 26; refine (HQ.out B d _ hsl2).mono ?_; rintro e w3 ⟨U, u', v2, rfl, hb3⟩)
  have hsl3 := hsl2.below hb3 (Nat.le_refl _)
  have k3 := k2.call hb3
  clear hsl2 k2 hb3
  go_wp2_with (go_at_call 32; refine (HS.out B d _ hsl3).mono ?_; rintro e w4 ⟨V, v', v3, rfl, hb4⟩; obtain ⟨f0, f1⟩ := HCL.out _ (k3.call hb4))
  have hsl4 := hsl3.below hb4 (Nat.le_refl _)
  have k4 := k3.call hb4
  clear hsl3 k3 hb4
  go_wp2_with (go_at_call 18; refine (HL2.out _ k4).mono ?_; clear HL2 f0 f1; rintro e w5 ⟨B2, d2, rfl, hsb5, hb5⟩; obtain ⟨f0, f1⟩ := HCL.out _ (k4.call hb5))
  have hsl5 := hsl4.below hb5 (Nat.le_refl _)
  have k5 := k4.call hb5
  clear hsl4 k4 hb5
  go_wp2_with (go_at_call 18; refine (HL1.out _ k5).mono ?_; clear HL1 f0 f1; rintro e w6 ⟨B1, d1, rfl, hsa6, hb6⟩)
  have hsl6 := hsl5.below hb6 (Nat.le_refl _)
  have k6 := k5.call hb6
  clear hsl5 k5 hb6
  go_wp2_with (go_at_call 28; refine (HCQ.out B d _ _ _ hsl6 hsa6).mono ?_; rintro e w7 ⟨rfl, hb7⟩)
  have hsl7 := hsl6.below hb7 (Nat.le_refl _)
  have hsa7 := hsa6.below hb7 (Nat.le_refl _)
  have k7 := k6.call hb7
  clear hsl6 hsa6 k6 hb7
  go_wp2_with (go_at_call 34; refine (HCS.out B d _ _ _ hsl7 hsa7).mono ?_; rintro e w8 ⟨rfl, hb8⟩)
  have hsl8 := hsl7.below hb8 (Nat.le_refl _)
  have hsa8 := hsa7.below hb8 (Nat.le_refl _)
  have k8 := k7.call hb8
  clear hsl7 hsa7 k7 hb8
  go_wp2_with (go_at_call 22; refine (HA.out _ k8).mono ?_; rintro e w9 ⟨rfl, k9⟩)
  go_ret
  exact ⟨rfl, HW0.out.trans (k9.mono HW0.out.size)⟩
set_option maxHeartbeats 3200000 in
theorem once_001 (hA : AwakeOk) (hP : StackOk) (hCP : CheckStackOk) (hQ : QueuesOk) (hCQ : CheckQueuesOk) (hS : StacksOk) (hCS : CheckStacksOk) (A A1 A2 : Option Addr) (n c n1 c1 n2 c2 : Nat) (zs za zb : List Int) (k : Int) (w : World) (hs : Sl w A n c zs) (hs1 : Sl w A1 n1 c1 za) (hs2 : Sl w A2 n2 c2 zb)
    (N : Nat) (o : List Int) (hN : min n 30 = N) (hoe : tameOf zs N = o) (h0 : 0 < N) (r : Nat) (hmod : ∀ W, Calls Try.prog 49 #[.int .i64 k, .int .i64 6] W fun e w' => e = .returned (.int .i64 r) ∧ W = w') (hr : r < 6)
    (hp : ascB (passOf o) = false) (hq : 1 + (r : Int) < leastOf o) (h2 : twoB o = true) :
    Calls Try.prog 11 #[.slice A n c, .int .i64 k, .agg #[.slice A1 n1 c1, .slice A2 n2 c2]] w fun e w' => e = .returned (.bool true) ∧ Below w.heap.size w w' := by
  have hol : o.length = N := by rw [← hoe, tameOf_len]
  have hord : Ord o := by rw [← hoe]; exact ord_tame zs N
  have hob : ordB o 60 = true := ordB_iff.2 ⟨hord, by omega⟩
  obtain ⟨q, b, hqm, hbe, hblen, hq61⟩ := list_has hs2
  obtain ⟨u0, a, hum, hae, halen, hu61⟩ := list_has hs1
  obtain ⟨w0, hw0⟩ : ∃ w0, w0 = w.alloc (.cells #[.slice A1 n1 c1, .slice A2 n2 c2] 42) := ⟨_, rfl⟩
  have HW0 : Hid (Below w.heap.size w w0) := by rw [hw0]; exact (Below.refl _ _).alloc (Nat.le_refl _) _
  have HCL : Hid (∀ W, Kp w0 W → W.cell? ⟨w.heap.size, 0, none⟩ = some (.slice A1 n1 c1) ∧ W.cell? ⟨w.heap.size, 1, none⟩ = some (.slice A2 n2 c2)) := fun W h => by
    have hlt : w.heap.size < w0.heap.size := by rw [hw0]; simp
    exact ⟨(Below.cell h hlt).trans (by rw [hw0]; simp), (Below.cell h hlt).trans (by rw [hw0]; simp)⟩
  have hs' := hs.alloc (.cells #[.slice A1 n1 c1, .slice A2 n2 c2] 42)
  have hs1' := hs1.alloc (.cells #[.slice A1 n1 c1, .slice A2 n2 c2] 42)
  have hs2' := hs2.alloc (.cells #[.slice A1 n1 c1, .slice A2 n2 c2] 42)
  rw [← hw0] at hs' hs1' hs2'
  have HA : Hid (∀ W, Kp w0 W → Calls Try.prog 22 #[] W fun e w' => e = .returned (.bool true) ∧ Kp w0 w') := fun W h => (hA W).mono fun _ _ ⟨he, hb⟩ => ⟨he, h.call hb⟩
  have HT : Hid (Calls Try.prog 48 #[.slice A n c, .int .i64 (30 : Nat)] w0 fun e w' => ∃ B d, e = .returned (.slice B N d) ∧ Sl w' B N d o ∧ Kp w0 w') := by
    refine (tame_any A n c zs 30 w0 hs' (by omega)).mono ?_
    rintro e w1 ⟨v, rfl, hv, hb⟩
    rw [hN, hoe] at hv
    obtain ⟨B, d, rfl, hsl⟩ := hv.sl_len hol (by omega)
    exact ⟨B, d, rfl, hsl, hb⟩
  have HL1 : Hid (∀ W, Kp w0 W → Calls Try.prog 18 #[.slice A1 n1 c1] W fun e w' => ∃ (B : Option Addr) (d : Nat), e = .returned (.slice B u0 d) ∧ Sl w' B u0 d a ∧ Below W.heap.size W w') := fun W h => list_sl A1 n1 c1 za W (hs1'.below h (Nat.le_refl _)) u0 a hum hae
  have HL2 : Hid (∀ W, Kp w0 W → Calls Try.prog 18 #[.slice A2 n2 c2] W fun e w' => ∃ (B : Option Addr) (d : Nat), e = .returned (.slice B q d) ∧ Sl w' B q d b ∧ Below W.heap.size W w') := fun W h => list_sl A2 n2 c2 zb W (hs2'.below h (Nat.le_refl _)) q b hqm hbe
  have HP : Hid (∀ B d W, Sl W B N d o → Calls Try.prog 19 #[.slice B N d] W fun e w' => ∃ (v : Value), e = .returned (.tuple #[.string ⟨#[]⟩, v, .int .i64 0]) ∧ Below W.heap.size W w') := fun B d W hsl => by
    refine (hP B N d o W hsl).mono ?_
    rintro e w' ⟨P, v, x, l, rfl, _, _, _, _, _, h, hb⟩
    obtain ⟨rfl, _, rfl⟩ := h hob hp
    exact ⟨v, rfl, hb⟩
  have HQ : Hid (∀ B d W, Sl W B N d o → Calls Try.prog 26 #[.slice B N d, .int .i64 (1 + (r : Int))] W fun e w' => ∃ (U : Option Addr) (u' : Nat) (v : Value), e = .returned (.tuple #[.slice U 0 u', v, .int .i64 0]) ∧ Below W.heap.size W w') := fun B d W hsl => by
    refine (hQ B N d o (1 + (r : Int)) W hsl).mono ?_
    rintro e w' ⟨u, v, x, l, t, rfl, hu, _, hl60, _, _, h1, h2, hb⟩
    obtain ⟨rfl, _, rfl⟩ := h2 hob (by omega) (by omega) hq
    obtain ⟨U, u', rfl, _⟩ := hu.sl_len (n := 0) rfl (by omega)
    exact ⟨U, u', v, rfl, hb⟩
  have HCQ : Hid (∀ B d B2 d2 W, Sl W B N d o → Sl W B2 u0 d2 a → Calls Try.prog 28 #[.slice B N d, .int .i64 (1 + (r : Int)), .slice B2 u0 d2, .slice none 0 0] W fun e w' => e = .returned (.int .i64 10) ∧ Below W.heap.size W w') := fun B d B2 d2 W h1 h2 => by
    have h := hCQ B B2 none N d u0 d2 0 0 o a [] (1 + (r : Int)) W h1 h2 (sl_nil W) (by omega) (by omega)
    rw [once_queues hob (by omega) (by omega) hq] at h
    exact h
  have HS : Hid (∀ B d W, Sl W B N d o → Calls Try.prog 32 #[.slice B N d] W fun e w' => ∃ (U : Option Addr) (u' : Nat) (v : Value), e = .returned (.tuple #[.slice U N u', v, .int .i64 0]) ∧ Below W.heap.size W w') := fun B d W hsl => by
    refine (hS B N d o W hsl).mono ?_
    rintro e w' ⟨u, v, x, l, t, rfl, hu, _, hl60, _, _, h1, h3, hb⟩
    obtain ⟨h4, _, rfl⟩ := h1 hob h2
    obtain ⟨U, u', rfl, _⟩ := hu.sl_len ((sides_len h4).trans hol) (by omega)
    exact ⟨U, u', v, rfl, hb⟩
  have HCS : Hid (∀ B d B2 d2 W, Sl W B N d o → Sl W B2 q d2 b → Calls Try.prog 34 #[.slice B N d, .slice none 0 0, .slice B2 q d2] W fun e w' => e = .returned (.int .i64 10) ∧ Below W.heap.size W w') := fun B d B2 d2 W h1 h3 => by
    have h := hCS B none B2 N d 0 0 q d2 o [] b W h1 (sl_nil W) h3 (by omega) (by omega)
    rw [once_sides hob (by omega) h2] at h
    exact h
  have HMOD := Lib.hid hmod
  have hN30 : N ≤ 30 := by omega
  have g0 : ((N : Int) == 0) = false := by simp; omega
  have gpos : 0 < N := h0
  clear hA hP hCP hQ hCQ hS hCS hs hs1 hs2 hs' hs1' hs2' hqm hbe hblen hum hae halen hN hoe hol hord hob hmod hp hq h2
  have HK0 : Hid (Kp w0 w0) := Below.refl _ _
  go_enter Try.func11, Try.ntmps11
  go_wp2_with fail
  rw [← hw0]
  have HW := Lib.hid hw0; clear hw0
  go_wp2_with (go_at_call 48; refine HT.out.mono ?_; rintro e w1 ⟨B, d, rfl, hsl1, k1⟩)
  go_wp2_with (go_at_call 49; refine (HMOD.out _).mono ?_; rintro e w2 ⟨rfl, rfl⟩)
  go_wp2_with (go_at_call 19; refine (HP.out B d _ hsl1).mono ?_; rintro e w2 ⟨v1, rfl, hb2⟩)
  have hsl2 := hsl1.below hb2 (Nat.le_refl _)
  have k2 := k1.call hb2
  clear hsl1 k1 hb2
  go_wp2_with (go_at_call 26; refine (HQ.out B d _ hsl2).mono ?_; rintro e w3 ⟨U, u', v2, rfl, hb3⟩)
  have hsl3 := hsl2.below hb3 (Nat.le_refl _)
  have k3 := k2.call hb3
  clear hsl2 k2 hb3
  go_wp2_with (go_at_call 32; refine (HS.out B d _ hsl3).mono ?_; rintro e w4 ⟨V, v', v3, rfl, hb4⟩; obtain ⟨f0, f1⟩ := HCL.out _ (k3.call hb4))
  have hsl4 := hsl3.below hb4 (Nat.le_refl _)
  have k4 := k3.call hb4
  clear hsl3 k3 hb4
  go_wp2_with (go_at_call 18; refine (HL2.out _ k4).mono ?_; clear HL2 f0 f1; rintro e w5 ⟨B2, d2, rfl, hsb5, hb5⟩; obtain ⟨f0, f1⟩ := HCL.out _ (k4.call hb5))
  have hsl5 := hsl4.below hb5 (Nat.le_refl _)
  have k5 := k4.call hb5
  clear hsl4 k4 hb5
  go_wp2_with (go_at_call 34; refine (HCS.out B d _ _ _ hsl5 hsb5).mono ?_; clear f0 f1; rintro e w6 ⟨rfl, hb6⟩; obtain ⟨f0, f1⟩ := HCL.out _ (k5.call hb6))
  have hsl6 := hsl5.below hb6 (Nat.le_refl _)
  have hsb6 := hsb5.below hb6 (Nat.le_refl _)
  have k6 := k5.call hb6
  clear hsl5 hsb5 k5 hb6
  go_wp2_with (go_at_call 18; refine (HL1.out _ k6).mono ?_; clear HL1 f0 f1; rintro e w7 ⟨B1, d1, rfl, hsa7, hb7⟩)
  have hsl7 := hsl6.below hb7 (Nat.le_refl _)
  have k7 := k6.call hb7
  clear hsl6 k6 hb7
  go_wp2_with (go_at_call 28; refine (HCQ.out B d _ _ _ hsl7 hsa7).mono ?_; rintro e w8 ⟨rfl, hb8⟩)
  have hsl8 := hsl7.below hb8 (Nat.le_refl _)
  have hsa8 := hsa7.below hb8 (Nat.le_refl _)
  have k8 := k7.call hb8
  clear hsl7 hsa7 k7 hb8
  go_wp2_with (go_at_call 22; refine (HA.out _ k8).mono ?_; rintro e w9 ⟨rfl, k9⟩)
  go_ret
  exact ⟨rfl, HW0.out.trans (k9.mono HW0.out.size)⟩
set_option maxHeartbeats 3200000 in
theorem once_010 (hA : AwakeOk) (hP : StackOk) (hCP : CheckStackOk) (hQ : QueuesOk) (hCQ : CheckQueuesOk) (hS : StacksOk) (hCS : CheckStacksOk) (A A1 A2 : Option Addr) (n c n1 c1 n2 c2 : Nat) (zs za zb : List Int) (k : Int) (w : World) (hs : Sl w A n c zs) (hs1 : Sl w A1 n1 c1 za) (hs2 : Sl w A2 n2 c2 zb)
    (N : Nat) (o : List Int) (hN : min n 30 = N) (hoe : tameOf zs N = o) (h0 : 0 < N) (r : Nat) (hmod : ∀ W, Calls Try.prog 49 #[.int .i64 k, .int .i64 6] W fun e w' => e = .returned (.int .i64 r) ∧ W = w') (hr : r < 6)
    (hp : ascB (passOf o) = false) (hq : leastOf o ≤ 1 + (r : Int)) (h2 : twoB o = false) :
    Calls Try.prog 11 #[.slice A n c, .int .i64 k, .agg #[.slice A1 n1 c1, .slice A2 n2 c2]] w fun e w' => e = .returned (.bool true) ∧ Below w.heap.size w w' := by
  have hol : o.length = N := by rw [← hoe, tameOf_len]
  have hord : Ord o := by rw [← hoe]; exact ord_tame zs N
  have hob : ordB o 60 = true := ordB_iff.2 ⟨hord, by omega⟩
  obtain ⟨q, b, hqm, hbe, hblen, hq61⟩ := list_has hs2
  obtain ⟨u0, a, hum, hae, halen, hu61⟩ := list_has hs1
  obtain ⟨w0, hw0⟩ : ∃ w0, w0 = w.alloc (.cells #[.slice A1 n1 c1, .slice A2 n2 c2] 42) := ⟨_, rfl⟩
  have HW0 : Hid (Below w.heap.size w w0) := by rw [hw0]; exact (Below.refl _ _).alloc (Nat.le_refl _) _
  have HCL : Hid (∀ W, Kp w0 W → W.cell? ⟨w.heap.size, 0, none⟩ = some (.slice A1 n1 c1) ∧ W.cell? ⟨w.heap.size, 1, none⟩ = some (.slice A2 n2 c2)) := fun W h => by
    have hlt : w.heap.size < w0.heap.size := by rw [hw0]; simp
    exact ⟨(Below.cell h hlt).trans (by rw [hw0]; simp), (Below.cell h hlt).trans (by rw [hw0]; simp)⟩
  have hs' := hs.alloc (.cells #[.slice A1 n1 c1, .slice A2 n2 c2] 42)
  have hs1' := hs1.alloc (.cells #[.slice A1 n1 c1, .slice A2 n2 c2] 42)
  have hs2' := hs2.alloc (.cells #[.slice A1 n1 c1, .slice A2 n2 c2] 42)
  rw [← hw0] at hs' hs1' hs2'
  have HA : Hid (∀ W, Kp w0 W → Calls Try.prog 22 #[] W fun e w' => e = .returned (.bool true) ∧ Kp w0 w') := fun W h => (hA W).mono fun _ _ ⟨he, hb⟩ => ⟨he, h.call hb⟩
  have HT : Hid (Calls Try.prog 48 #[.slice A n c, .int .i64 (30 : Nat)] w0 fun e w' => ∃ B d, e = .returned (.slice B N d) ∧ Sl w' B N d o ∧ Kp w0 w') := by
    refine (tame_any A n c zs 30 w0 hs' (by omega)).mono ?_
    rintro e w1 ⟨v, rfl, hv, hb⟩
    rw [hN, hoe] at hv
    obtain ⟨B, d, rfl, hsl⟩ := hv.sl_len hol (by omega)
    exact ⟨B, d, rfl, hsl, hb⟩
  have HL1 : Hid (∀ W, Kp w0 W → Calls Try.prog 18 #[.slice A1 n1 c1] W fun e w' => ∃ (B : Option Addr) (d : Nat), e = .returned (.slice B u0 d) ∧ Sl w' B u0 d a ∧ Below W.heap.size W w') := fun W h => list_sl A1 n1 c1 za W (hs1'.below h (Nat.le_refl _)) u0 a hum hae
  have HL2 : Hid (∀ W, Kp w0 W → Calls Try.prog 18 #[.slice A2 n2 c2] W fun e w' => ∃ (B : Option Addr) (d : Nat), e = .returned (.slice B q d) ∧ Sl w' B q d b ∧ Below W.heap.size W w') := fun W h => list_sl A2 n2 c2 zb W (hs2'.below h (Nat.le_refl _)) q b hqm hbe
  have HP : Hid (∀ B d W, Sl W B N d o → Calls Try.prog 19 #[.slice B N d] W fun e w' => ∃ (v : Value), e = .returned (.tuple #[.string ⟨#[]⟩, v, .int .i64 0]) ∧ Below W.heap.size W w') := fun B d W hsl => by
    refine (hP B N d o W hsl).mono ?_
    rintro e w' ⟨P, v, x, l, rfl, _, _, _, _, _, h, hb⟩
    obtain ⟨rfl, _, rfl⟩ := h hob hp
    exact ⟨v, rfl, hb⟩
  have HQ : Hid (∀ B d W, Sl W B N d o → Calls Try.prog 26 #[.slice B N d, .int .i64 (1 + (r : Int))] W fun e w' => ∃ (U : Option Addr) (u' : Nat) (v : Value), e = .returned (.tuple #[.slice U N u', v, .int .i64 0]) ∧ Below W.heap.size W w') := fun B d W hsl => by
    refine (hQ B N d o (1 + (r : Int)) W hsl).mono ?_
    rintro e w' ⟨u, v, x, l, t, rfl, hu, _, hl60, _, _, h1, h2, hb⟩
    obtain ⟨h3, _, rfl⟩ := h1 hob (by omega) (by omega) hq
    obtain ⟨U, u', rfl, _⟩ := hu.sl_len ((lanes_len h3).trans hol) (by omega)
    exact ⟨U, u', v, rfl, hb⟩
  have HCQ : Hid (∀ B d B2 d2 W, Sl W B N d o → Sl W B2 q d2 b → Calls Try.prog 28 #[.slice B N d, .int .i64 (1 + (r : Int)), .slice none 0 0, .slice B2 q d2] W fun e w' => e = .returned (.int .i64 10) ∧ Below W.heap.size W w') := fun B d B2 d2 W h1 h2 => by
    have h := hCQ B none B2 N d 0 0 q d2 o [] b (1 + (r : Int)) W h1 (sl_nil W) h2 (by omega) (by omega)
    rw [once_lanes hob (by omega) (by omega) (by omega) hq] at h
    exact h
  have HS : Hid (∀ B d W, Sl W B N d o → Calls Try.prog 32 #[.slice B N d] W fun e w' => ∃ (U : Option Addr) (u' : Nat) (v : Value), e = .returned (.tuple #[.slice U 0 u', v, .int .i64 0]) ∧ Below W.heap.size W w') := fun B d W hsl => by
    refine (hS B N d o W hsl).mono ?_
    rintro e w' ⟨u, v, x, l, t, rfl, hu, _, hl60, _, _, h1, h3, hb⟩
    obtain ⟨rfl, _, rfl⟩ := h3 hob h2
    obtain ⟨U, u', rfl, _⟩ := hu.sl_len (n := 0) rfl (by omega)
    exact ⟨U, u', v, rfl, hb⟩
  have HCS : Hid (∀ B d B2 d2 W, Sl W B N d o → Sl W B2 u0 d2 a → Calls Try.prog 34 #[.slice B N d, .slice B2 u0 d2, .slice none 0 0] W fun e w' => e = .returned (.int .i64 10) ∧ Below W.heap.size W w') := fun B d B2 d2 W h1 h3 => by
    have h := hCS B B2 none N d u0 d2 0 0 o a [] W h1 h3 (sl_nil W) (by omega) (by omega)
    rw [once_rings hob h2] at h
    exact h
  have HMOD := Lib.hid hmod
  have hN30 : N ≤ 30 := by omega
  have g0 : ((N : Int) == 0) = false := by simp; omega
  have gpos : 0 < N := h0
  clear hA hP hCP hQ hCQ hS hCS hs hs1 hs2 hs' hs1' hs2' hqm hbe hblen hum hae halen hN hoe hol hord hob hmod hp hq h2
  have HK0 : Hid (Kp w0 w0) := Below.refl _ _
  go_enter Try.func11, Try.ntmps11
  go_wp2_with fail
  rw [← hw0]
  have HW := Lib.hid hw0; clear hw0
  go_wp2_with (go_at_call 48; refine HT.out.mono ?_; rintro e w1 ⟨B, d, rfl, hsl1, k1⟩)
  go_wp2_with (go_at_call 49; refine (HMOD.out _).mono ?_; rintro e w2 ⟨rfl, rfl⟩)
  go_wp2_with (go_at_call 19; refine (HP.out B d _ hsl1).mono ?_; rintro e w2 ⟨v1, rfl, hb2⟩)
  have hsl2 := hsl1.below hb2 (Nat.le_refl _)
  have k2 := k1.call hb2
  clear hsl1 k1 hb2
  go_wp2_with (go_at_call 26; refine (HQ.out B d _ hsl2).mono ?_; rintro e w3 ⟨U, u', v2, rfl, hb3⟩)
  have hsl3 := hsl2.below hb3 (Nat.le_refl _)
  have k3 := k2.call hb3
  clear hsl2 k2 hb3
  go_wp2_with (go_at_call 32; refine (HS.out B d _ hsl3).mono ?_; rintro e w4 ⟨V, v', v3, rfl, hb4⟩; obtain ⟨f0, f1⟩ := HCL.out _ (k3.call hb4))
  have hsl4 := hsl3.below hb4 (Nat.le_refl _)
  have k4 := k3.call hb4
  clear hsl3 k3 hb4
  go_wp2_with (go_at_call 18; refine (HL2.out _ k4).mono ?_; clear HL2 f0 f1; rintro e w5 ⟨B2, d2, rfl, hsb5, hb5⟩; obtain ⟨f0, f1⟩ := HCL.out _ (k4.call hb5))
  have hsl5 := hsl4.below hb5 (Nat.le_refl _)
  have k5 := k4.call hb5
  clear hsl4 k4 hb5
  go_wp2_with (go_at_call 28; refine (HCQ.out B d _ _ _ hsl5 hsb5).mono ?_; clear f0 f1; rintro e w6 ⟨rfl, hb6⟩; obtain ⟨f0, f1⟩ := HCL.out _ (k5.call hb6))
  have hsl6 := hsl5.below hb6 (Nat.le_refl _)
  have hsb6 := hsb5.below hb6 (Nat.le_refl _)
  have k6 := k5.call hb6
  clear hsl5 hsb5 k5 hb6
  go_wp2_with (go_at_call 18; refine (HL1.out _ k6).mono ?_; clear HL1 f0 f1; rintro e w7 ⟨B1, d1, rfl, hsa7, hb7⟩)
  have hsl7 := hsl6.below hb7 (Nat.le_refl _)
  have k7 := k6.call hb7
  clear hsl6 k6 hb7
  go_wp2_with (go_at_call 34; refine (HCS.out B d _ _ _ hsl7 hsa7).mono ?_; rintro e w8 ⟨rfl, hb8⟩)
  have hsl8 := hsl7.below hb8 (Nat.le_refl _)
  have hsa8 := hsa7.below hb8 (Nat.le_refl _)
  have k8 := k7.call hb8
  clear hsl7 hsa7 k7 hb8
  go_wp2_with (go_at_call 22; refine (HA.out _ k8).mono ?_; rintro e w9 ⟨rfl, k9⟩)
  go_ret
  exact ⟨rfl, HW0.out.trans (k9.mono HW0.out.size)⟩
set_option maxHeartbeats 3200000 in
theorem once_011 (hA : AwakeOk) (hP : StackOk) (hCP : CheckStackOk) (hQ : QueuesOk) (hCQ : CheckQueuesOk) (hS : StacksOk) (hCS : CheckStacksOk) (A A1 A2 : Option Addr) (n c n1 c1 n2 c2 : Nat) (zs za zb : List Int) (k : Int) (w : World) (hs : Sl w A n c zs) (hs1 : Sl w A1 n1 c1 za) (hs2 : Sl w A2 n2 c2 zb)
    (N : Nat) (o : List Int) (hN : min n 30 = N) (hoe : tameOf zs N = o) (h0 : 0 < N) (r : Nat) (hmod : ∀ W, Calls Try.prog 49 #[.int .i64 k, .int .i64 6] W fun e w' => e = .returned (.int .i64 r) ∧ W = w') (hr : r < 6)
    (hp : ascB (passOf o) = false) (hq : leastOf o ≤ 1 + (r : Int)) (h2 : twoB o = true) :
    Calls Try.prog 11 #[.slice A n c, .int .i64 k, .agg #[.slice A1 n1 c1, .slice A2 n2 c2]] w fun e w' => e = .returned (.bool true) ∧ Below w.heap.size w w' := by
  have hol : o.length = N := by rw [← hoe, tameOf_len]
  have hord : Ord o := by rw [← hoe]; exact ord_tame zs N
  have hob : ordB o 60 = true := ordB_iff.2 ⟨hord, by omega⟩
  obtain ⟨q, b, hqm, hbe, hblen, hq61⟩ := list_has hs2
  obtain ⟨u0, a, hum, hae, halen, hu61⟩ := list_has hs1
  obtain ⟨w0, hw0⟩ : ∃ w0, w0 = w.alloc (.cells #[.slice A1 n1 c1, .slice A2 n2 c2] 42) := ⟨_, rfl⟩
  have HW0 : Hid (Below w.heap.size w w0) := by rw [hw0]; exact (Below.refl _ _).alloc (Nat.le_refl _) _
  have HCL : Hid (∀ W, Kp w0 W → W.cell? ⟨w.heap.size, 0, none⟩ = some (.slice A1 n1 c1) ∧ W.cell? ⟨w.heap.size, 1, none⟩ = some (.slice A2 n2 c2)) := fun W h => by
    have hlt : w.heap.size < w0.heap.size := by rw [hw0]; simp
    exact ⟨(Below.cell h hlt).trans (by rw [hw0]; simp), (Below.cell h hlt).trans (by rw [hw0]; simp)⟩
  have hs' := hs.alloc (.cells #[.slice A1 n1 c1, .slice A2 n2 c2] 42)
  have hs1' := hs1.alloc (.cells #[.slice A1 n1 c1, .slice A2 n2 c2] 42)
  have hs2' := hs2.alloc (.cells #[.slice A1 n1 c1, .slice A2 n2 c2] 42)
  rw [← hw0] at hs' hs1' hs2'
  have HA : Hid (∀ W, Kp w0 W → Calls Try.prog 22 #[] W fun e w' => e = .returned (.bool true) ∧ Kp w0 w') := fun W h => (hA W).mono fun _ _ ⟨he, hb⟩ => ⟨he, h.call hb⟩
  have HT : Hid (Calls Try.prog 48 #[.slice A n c, .int .i64 (30 : Nat)] w0 fun e w' => ∃ B d, e = .returned (.slice B N d) ∧ Sl w' B N d o ∧ Kp w0 w') := by
    refine (tame_any A n c zs 30 w0 hs' (by omega)).mono ?_
    rintro e w1 ⟨v, rfl, hv, hb⟩
    rw [hN, hoe] at hv
    obtain ⟨B, d, rfl, hsl⟩ := hv.sl_len hol (by omega)
    exact ⟨B, d, rfl, hsl, hb⟩
  have HL1 : Hid (∀ W, Kp w0 W → Calls Try.prog 18 #[.slice A1 n1 c1] W fun e w' => ∃ (B : Option Addr) (d : Nat), e = .returned (.slice B u0 d) ∧ Sl w' B u0 d a ∧ Below W.heap.size W w') := fun W h => list_sl A1 n1 c1 za W (hs1'.below h (Nat.le_refl _)) u0 a hum hae
  have HL2 : Hid (∀ W, Kp w0 W → Calls Try.prog 18 #[.slice A2 n2 c2] W fun e w' => ∃ (B : Option Addr) (d : Nat), e = .returned (.slice B q d) ∧ Sl w' B q d b ∧ Below W.heap.size W w') := fun W h => list_sl A2 n2 c2 zb W (hs2'.below h (Nat.le_refl _)) q b hqm hbe
  have HP : Hid (∀ B d W, Sl W B N d o → Calls Try.prog 19 #[.slice B N d] W fun e w' => ∃ (v : Value), e = .returned (.tuple #[.string ⟨#[]⟩, v, .int .i64 0]) ∧ Below W.heap.size W w') := fun B d W hsl => by
    refine (hP B N d o W hsl).mono ?_
    rintro e w' ⟨P, v, x, l, rfl, _, _, _, _, _, h, hb⟩
    obtain ⟨rfl, _, rfl⟩ := h hob hp
    exact ⟨v, rfl, hb⟩
  have HQ : Hid (∀ B d W, Sl W B N d o → Calls Try.prog 26 #[.slice B N d, .int .i64 (1 + (r : Int))] W fun e w' => ∃ (U : Option Addr) (u' : Nat) (v : Value), e = .returned (.tuple #[.slice U N u', v, .int .i64 0]) ∧ Below W.heap.size W w') := fun B d W hsl => by
    refine (hQ B N d o (1 + (r : Int)) W hsl).mono ?_
    rintro e w' ⟨u, v, x, l, t, rfl, hu, _, hl60, _, _, h1, h2, hb⟩
    obtain ⟨h3, _, rfl⟩ := h1 hob (by omega) (by omega) hq
    obtain ⟨U, u', rfl, _⟩ := hu.sl_len ((lanes_len h3).trans hol) (by omega)
    exact ⟨U, u', v, rfl, hb⟩
  have HCQ : Hid (∀ B d B2 d2 W, Sl W B N d o → Sl W B2 q d2 b → Calls Try.prog 28 #[.slice B N d, .int .i64 (1 + (r : Int)), .slice none 0 0, .slice B2 q d2] W fun e w' => e = .returned (.int .i64 10) ∧ Below W.heap.size W w') := fun B d B2 d2 W h1 h2 => by
    have h := hCQ B none B2 N d 0 0 q d2 o [] b (1 + (r : Int)) W h1 (sl_nil W) h2 (by omega) (by omega)
    rw [once_lanes hob (by omega) (by omega) (by omega) hq] at h
    exact h
  have HS : Hid (∀ B d W, Sl W B N d o → Calls Try.prog 32 #[.slice B N d] W fun e w' => ∃ (U : Option Addr) (u' : Nat) (v : Value), e = .returned (.tuple #[.slice U N u', v, .int .i64 0]) ∧ Below W.heap.size W w') := fun B d W hsl => by
    refine (hS B N d o W hsl).mono ?_
    rintro e w' ⟨u, v, x, l, t, rfl, hu, _, hl60, _, _, h1, h3, hb⟩
    obtain ⟨h4, _, rfl⟩ := h1 hob h2
    obtain ⟨U, u', rfl, _⟩ := hu.sl_len ((sides_len h4).trans hol) (by omega)
    exact ⟨U, u', v, rfl, hb⟩
  have HCS : Hid (∀ B d B2 d2 W, Sl W B N d o → Sl W B2 q d2 b → Calls Try.prog 34 #[.slice B N d, .slice none 0 0, .slice B2 q d2] W fun e w' => e = .returned (.int .i64 10) ∧ Below W.heap.size W w') := fun B d B2 d2 W h1 h3 => by
    have h := hCS B none B2 N d 0 0 q d2 o [] b W h1 (sl_nil W) h3 (by omega) (by omega)
    rw [once_sides hob (by omega) h2] at h
    exact h
  have HMOD := Lib.hid hmod
  have hN30 : N ≤ 30 := by omega
  have g0 : ((N : Int) == 0) = false := by simp; omega
  have gpos : 0 < N := h0
  clear hA hP hCP hQ hCQ hS hCS hs hs1 hs2 hs' hs1' hs2' hqm hbe hblen hum hae halen hN hoe hol hord hob hmod hp hq h2
  have HK0 : Hid (Kp w0 w0) := Below.refl _ _
  go_enter Try.func11, Try.ntmps11
  go_wp2_with fail
  rw [← hw0]
  have HW := Lib.hid hw0; clear hw0
  go_wp2_with (go_at_call 48; refine HT.out.mono ?_; rintro e w1 ⟨B, d, rfl, hsl1, k1⟩)
  go_wp2_with (go_at_call 49; refine (HMOD.out _).mono ?_; rintro e w2 ⟨rfl, rfl⟩)
  go_wp2_with (go_at_call 19; refine (HP.out B d _ hsl1).mono ?_; rintro e w2 ⟨v1, rfl, hb2⟩)
  have hsl2 := hsl1.below hb2 (Nat.le_refl _)
  have k2 := k1.call hb2
  clear hsl1 k1 hb2
  go_wp2_with (go_at_call 26; refine (HQ.out B d _ hsl2).mono ?_; rintro e w3 ⟨U, u', v2, rfl, hb3⟩)
  have hsl3 := hsl2.below hb3 (Nat.le_refl _)
  have k3 := k2.call hb3
  clear hsl2 k2 hb3
  go_wp2_with (go_at_call 32; refine (HS.out B d _ hsl3).mono ?_; rintro e w4 ⟨V, v', v3, rfl, hb4⟩; obtain ⟨f0, f1⟩ := HCL.out _ (k3.call hb4))
  have hsl4 := hsl3.below hb4 (Nat.le_refl _)
  have k4 := k3.call hb4
  clear hsl3 k3 hb4
  go_wp2_with (go_at_call 18; refine (HL2.out _ k4).mono ?_; clear HL2 f0 f1; rintro e w5 ⟨B2, d2, rfl, hsb5, hb5⟩; obtain ⟨f0, f1⟩ := HCL.out _ (k4.call hb5))
  have hsl5 := hsl4.below hb5 (Nat.le_refl _)
  have k5 := k4.call hb5
  clear hsl4 k4 hb5
  go_wp2_with (go_at_call 28; refine (HCQ.out B d _ _ _ hsl5 hsb5).mono ?_; clear f0 f1; rintro e w6 ⟨rfl, hb6⟩; obtain ⟨f0, f1⟩ := HCL.out _ (k5.call hb6))
  have hsl6 := hsl5.below hb6 (Nat.le_refl _)
  have hsb6 := hsb5.below hb6 (Nat.le_refl _)
  have k6 := k5.call hb6
  clear hsl5 hsb5 k5 hb6
  go_wp2_with (go_at_call 34; refine (HCS.out B d _ _ _ hsl6 hsb6).mono ?_; clear f0 f1; rintro e w7 ⟨rfl, hb7⟩; obtain ⟨f0, f1⟩ := HCL.out _ (k6.call hb7))
  have hsl7 := hsl6.below hb7 (Nat.le_refl _)
  have hsb7 := hsb6.below hb7 (Nat.le_refl _)
  have k7 := k6.call hb7
  clear hsl6 hsb6 k6 hb7
  go_wp2_with (go_at_call 18; refine (HL1.out _ k7).mono ?_; clear HL1 f0 f1; rintro e w8 ⟨B1, d1, rfl, hsa8, hb8⟩)
  have hsl8 := hsl7.below hb8 (Nat.le_refl _)
  have k8 := k7.call hb8
  clear hsl7 k7 hb8
  go_wp2_with (go_at_call 22; refine (HA.out _ k8).mono ?_; rintro e w9 ⟨rfl, k9⟩)
  go_ret
  exact ⟨rfl, HW0.out.trans (k9.mono HW0.out.size)⟩
set_option maxHeartbeats 3200000 in
theorem once_100 (hA : AwakeOk) (hP : StackOk) (hCP : CheckStackOk) (hQ : QueuesOk) (hCQ : CheckQueuesOk) (hS : StacksOk) (hCS : CheckStacksOk) (A A1 A2 : Option Addr) (n c n1 c1 n2 c2 : Nat) (zs za zb : List Int) (k : Int) (w : World) (hs : Sl w A n c zs) (hs1 : Sl w A1 n1 c1 za) (hs2 : Sl w A2 n2 c2 zb)
    (N : Nat) (o : List Int) (hN : min n 30 = N) (hoe : tameOf zs N = o) (h0 : 0 < N) (r : Nat) (hmod : ∀ W, Calls Try.prog 49 #[.int .i64 k, .int .i64 6] W fun e w' => e = .returned (.int .i64 r) ∧ W = w') (hr : r < 6)
    (hp : ascB (passOf o) = true) (hq : 1 + (r : Int) < leastOf o) (h2 : twoB o = false) :
    Calls Try.prog 11 #[.slice A n c, .int .i64 k, .agg #[.slice A1 n1 c1, .slice A2 n2 c2]] w fun e w' => e = .returned (.bool true) ∧ Below w.heap.size w w' := by
  have hol : o.length = N := by rw [← hoe, tameOf_len]
  have hord : Ord o := by rw [← hoe]; exact ord_tame zs N
  have hob : ordB o 60 = true := ordB_iff.2 ⟨hord, by omega⟩
  obtain ⟨q, b, hqm, hbe, hblen, hq61⟩ := list_has hs2
  obtain ⟨u0, a, hum, hae, halen, hu61⟩ := list_has hs1
  obtain ⟨w0, hw0⟩ : ∃ w0, w0 = w.alloc (.cells #[.slice A1 n1 c1, .slice A2 n2 c2] 42) := ⟨_, rfl⟩
  have HW0 : Hid (Below w.heap.size w w0) := by rw [hw0]; exact (Below.refl _ _).alloc (Nat.le_refl _) _
  have HCL : Hid (∀ W, Kp w0 W → W.cell? ⟨w.heap.size, 0, none⟩ = some (.slice A1 n1 c1) ∧ W.cell? ⟨w.heap.size, 1, none⟩ = some (.slice A2 n2 c2)) := fun W h => by
    have hlt : w.heap.size < w0.heap.size := by rw [hw0]; simp
    exact ⟨(Below.cell h hlt).trans (by rw [hw0]; simp), (Below.cell h hlt).trans (by rw [hw0]; simp)⟩
  have hs' := hs.alloc (.cells #[.slice A1 n1 c1, .slice A2 n2 c2] 42)
  have hs1' := hs1.alloc (.cells #[.slice A1 n1 c1, .slice A2 n2 c2] 42)
  have hs2' := hs2.alloc (.cells #[.slice A1 n1 c1, .slice A2 n2 c2] 42)
  rw [← hw0] at hs' hs1' hs2'
  have HA : Hid (∀ W, Kp w0 W → Calls Try.prog 22 #[] W fun e w' => e = .returned (.bool true) ∧ Kp w0 w') := fun W h => (hA W).mono fun _ _ ⟨he, hb⟩ => ⟨he, h.call hb⟩
  have HT : Hid (Calls Try.prog 48 #[.slice A n c, .int .i64 (30 : Nat)] w0 fun e w' => ∃ B d, e = .returned (.slice B N d) ∧ Sl w' B N d o ∧ Kp w0 w') := by
    refine (tame_any A n c zs 30 w0 hs' (by omega)).mono ?_
    rintro e w1 ⟨v, rfl, hv, hb⟩
    rw [hN, hoe] at hv
    obtain ⟨B, d, rfl, hsl⟩ := hv.sl_len hol (by omega)
    exact ⟨B, d, rfl, hsl, hb⟩
  have HL1 : Hid (∀ W, Kp w0 W → Calls Try.prog 18 #[.slice A1 n1 c1] W fun e w' => ∃ (B : Option Addr) (d : Nat), e = .returned (.slice B u0 d) ∧ Sl w' B u0 d a ∧ Below W.heap.size W w') := fun W h => list_sl A1 n1 c1 za W (hs1'.below h (Nat.le_refl _)) u0 a hum hae
  have HL2 : Hid (∀ W, Kp w0 W → Calls Try.prog 18 #[.slice A2 n2 c2] W fun e w' => ∃ (B : Option Addr) (d : Nat), e = .returned (.slice B q d) ∧ Sl w' B q d b ∧ Below W.heap.size W w') := fun W h => list_sl A2 n2 c2 zb W (hs2'.below h (Nat.le_refl _)) q b hqm hbe
  have HP : Hid (∀ B d W, Sl W B N d o → Calls Try.prog 19 #[.slice B N d] W fun e w' => ∃ (P : ByteArray) (v : Value), e = .returned (.tuple #[.string P, v, .int .i64 0]) ∧ P.toList.isEmpty = false ∧ Below W.heap.size W w') := fun B d W hsl => by
    refine (hP B N d o W hsl).mono ?_
    rintro e w' ⟨P, v, x, l, rfl, _, _, _, _, h, _, hb⟩
    obtain ⟨h1, _, rfl⟩ := h hob hp
    refine ⟨P, v, rfl, ?_, hb⟩
    cases hPe : P.toList.isEmpty with
    | false => rfl
    | true =>
      rw [size_empty hPe] at h1
      rw [plan_none (by omega)] at h1; cases h1
  have HCP : Hid (∀ B d B2 d2 W, Sl W B N d o → Sl W B2 q d2 b → Calls Try.prog 21 #[.slice B N d, .string ⟨#[]⟩, .slice B2 q d2] W fun e w' => e = .returned (.int .i64 10) ∧ Below W.heap.size W w') := fun B d B2 d2 W h1 h2 => by
    have h := hCP B B2 N d q d2 o b ⟨#[]⟩ W h1 h2 (by decide) (by omega)
    rw [once_stack hob (by omega) hp] at h
    exact h
  have HQ : Hid (∀ B d W, Sl W B N d o → Calls Try.prog 26 #[.slice B N d, .int .i64 (1 + (r : Int))] W fun e w' => ∃ (U : Option Addr) (u' : Nat) (v : Value), e = .returned (.tuple #[.slice U 0 u', v, .int .i64 0]) ∧ Below W.heap.size W w') := fun B d W hsl => by
    refine (hQ B N d o (1 + (r : Int)) W hsl).mono ?_
    rintro e w' ⟨u, v, x, l, t, rfl, hu, _, hl60, _, _, h1, h2, hb⟩
    obtain ⟨rfl, _, rfl⟩ := h2 hob (by omega) (by omega) hq
    obtain ⟨U, u', rfl, _⟩ := hu.sl_len (n := 0) rfl (by omega)
    exact ⟨U, u', v, rfl, hb⟩
  have HCQ : Hid (∀ B d B2 d2 W, Sl W B N d o → Sl W B2 u0 d2 a → Calls Try.prog 28 #[.slice B N d, .int .i64 (1 + (r : Int)), .slice B2 u0 d2, .slice none 0 0] W fun e w' => e = .returned (.int .i64 10) ∧ Below W.heap.size W w') := fun B d B2 d2 W h1 h2 => by
    have h := hCQ B B2 none N d u0 d2 0 0 o a [] (1 + (r : Int)) W h1 h2 (sl_nil W) (by omega) (by omega)
    rw [once_queues hob (by omega) (by omega) hq] at h
    exact h
  have HS : Hid (∀ B d W, Sl W B N d o → Calls Try.prog 32 #[.slice B N d] W fun e w' => ∃ (U : Option Addr) (u' : Nat) (v : Value), e = .returned (.tuple #[.slice U 0 u', v, .int .i64 0]) ∧ Below W.heap.size W w') := fun B d W hsl => by
    refine (hS B N d o W hsl).mono ?_
    rintro e w' ⟨u, v, x, l, t, rfl, hu, _, hl60, _, _, h1, h3, hb⟩
    obtain ⟨rfl, _, rfl⟩ := h3 hob h2
    obtain ⟨U, u', rfl, _⟩ := hu.sl_len (n := 0) rfl (by omega)
    exact ⟨U, u', v, rfl, hb⟩
  have HCS : Hid (∀ B d B2 d2 W, Sl W B N d o → Sl W B2 u0 d2 a → Calls Try.prog 34 #[.slice B N d, .slice B2 u0 d2, .slice none 0 0] W fun e w' => e = .returned (.int .i64 10) ∧ Below W.heap.size W w') := fun B d B2 d2 W h1 h3 => by
    have h := hCS B B2 none N d u0 d2 0 0 o a [] W h1 h3 (sl_nil W) (by omega) (by omega)
    rw [once_rings hob h2] at h
    exact h
  have HMOD := Lib.hid hmod
  have hN30 : N ≤ 30 := by omega
  have g0 : ((N : Int) == 0) = false := by simp; omega
  have gpos : 0 < N := h0
  clear hA hP hCP hQ hCQ hS hCS hs hs1 hs2 hs' hs1' hs2' hqm hbe hblen hum hae halen hN hoe hol hord hob hmod hp hq h2
  have HK0 : Hid (Kp w0 w0) := Below.refl _ _
  go_enter Try.func11, Try.ntmps11
  go_wp2_with fail
  rw [← hw0]
  have HW := Lib.hid hw0; clear hw0
  go_wp2_with (go_at_call 48; refine HT.out.mono ?_; rintro e w1 ⟨B, d, rfl, hsl1, k1⟩)
  go_wp2_with (go_at_call 49; refine (HMOD.out _).mono ?_; rintro e w2 ⟨rfl, rfl⟩)
  go_wp2_with (go_at_call 19; refine (HP.out B d _ hsl1).mono ?_; rintro e w2 ⟨P, v1, rfl, hPe, hb2⟩)
  have hsl2 := hsl1.below hb2 (Nat.le_refl _)
  have k2 := k1.call hb2
  clear hsl1 k1 hb2
  go_wp2_with (go_at_call 26; refine (HQ.out B d _ hsl2).mono ?_; rintro e w3 ⟨U, u', v2, rfl, hb3⟩)
  have hsl3 := hsl2.below hb3 (Nat.le_refl _)
  have k3 := k2.call hb3
  clear hsl2 k2 hb3
  go_wp2_with (go_at_call 32; refine (HS.out B d _ hsl3).mono ?_; rintro e w4 ⟨V, v', v3, rfl, hb4⟩; obtain ⟨f0, f1⟩ := HCL.out _ (k3.call hb4))
  have hsl4 := hsl3.below hb4 (Nat.le_refl _)
  have k4 := k3.call hb4
  clear hsl3 k3 hb4
  go_wp2_with (go_at_call 18; refine (HL2.out _ k4).mono ?_; clear HL2 f0 f1; rintro e w5 ⟨B2, d2, rfl, hsb5, hb5⟩; obtain ⟨f0, f1⟩ := HCL.out _ (k4.call hb5))
  have hsl5 := hsl4.below hb5 (Nat.le_refl _)
  have k5 := k4.call hb5
  clear hsl4 k4 hb5
  go_wp2_with (go_at_call 21; refine (HCP.out B d _ _ _ hsl5 hsb5).mono ?_; clear f0 f1; rintro e w6 ⟨rfl, hb6⟩; obtain ⟨f0, f1⟩ := HCL.out _ (k5.call hb6))
  have hsl6 := hsl5.below hb6 (Nat.le_refl _)
  have hsb6 := hsb5.below hb6 (Nat.le_refl _)
  have k6 := k5.call hb6
  clear hsl5 hsb5 k5 hb6
  go_wp2_with (go_at_call 18; refine (HL1.out _ k6).mono ?_; clear HL1 f0 f1; rintro e w7 ⟨B1, d1, rfl, hsa7, hb7⟩)
  have hsl7 := hsl6.below hb7 (Nat.le_refl _)
  have k7 := k6.call hb7
  clear hsl6 k6 hb7
  go_wp2_with (go_at_call 28; refine (HCQ.out B d _ _ _ hsl7 hsa7).mono ?_; rintro e w8 ⟨rfl, hb8⟩)
  have hsl8 := hsl7.below hb8 (Nat.le_refl _)
  have hsa8 := hsa7.below hb8 (Nat.le_refl _)
  have k8 := k7.call hb8
  clear hsl7 hsa7 k7 hb8
  go_wp2_with (go_at_call 34; refine (HCS.out B d _ _ _ hsl8 hsa8).mono ?_; rintro e w9 ⟨rfl, hb9⟩)
  have hsl9 := hsl8.below hb9 (Nat.le_refl _)
  have hsa9 := hsa8.below hb9 (Nat.le_refl _)
  have k9 := k8.call hb9
  clear hsl8 hsa8 k8 hb9
  go_wp2_with (go_at_call 22; refine (HA.out _ k9).mono ?_; rintro e w10 ⟨rfl, k10⟩)
  go_ret
  exact ⟨rfl, HW0.out.trans (k10.mono HW0.out.size)⟩
set_option maxHeartbeats 3200000 in
theorem once_101 (hA : AwakeOk) (hP : StackOk) (hCP : CheckStackOk) (hQ : QueuesOk) (hCQ : CheckQueuesOk) (hS : StacksOk) (hCS : CheckStacksOk) (A A1 A2 : Option Addr) (n c n1 c1 n2 c2 : Nat) (zs za zb : List Int) (k : Int) (w : World) (hs : Sl w A n c zs) (hs1 : Sl w A1 n1 c1 za) (hs2 : Sl w A2 n2 c2 zb)
    (N : Nat) (o : List Int) (hN : min n 30 = N) (hoe : tameOf zs N = o) (h0 : 0 < N) (r : Nat) (hmod : ∀ W, Calls Try.prog 49 #[.int .i64 k, .int .i64 6] W fun e w' => e = .returned (.int .i64 r) ∧ W = w') (hr : r < 6)
    (hp : ascB (passOf o) = true) (hq : 1 + (r : Int) < leastOf o) (h2 : twoB o = true) :
    Calls Try.prog 11 #[.slice A n c, .int .i64 k, .agg #[.slice A1 n1 c1, .slice A2 n2 c2]] w fun e w' => e = .returned (.bool true) ∧ Below w.heap.size w w' := by
  have hol : o.length = N := by rw [← hoe, tameOf_len]
  have hord : Ord o := by rw [← hoe]; exact ord_tame zs N
  have hob : ordB o 60 = true := ordB_iff.2 ⟨hord, by omega⟩
  obtain ⟨q, b, hqm, hbe, hblen, hq61⟩ := list_has hs2
  obtain ⟨u0, a, hum, hae, halen, hu61⟩ := list_has hs1
  obtain ⟨w0, hw0⟩ : ∃ w0, w0 = w.alloc (.cells #[.slice A1 n1 c1, .slice A2 n2 c2] 42) := ⟨_, rfl⟩
  have HW0 : Hid (Below w.heap.size w w0) := by rw [hw0]; exact (Below.refl _ _).alloc (Nat.le_refl _) _
  have HCL : Hid (∀ W, Kp w0 W → W.cell? ⟨w.heap.size, 0, none⟩ = some (.slice A1 n1 c1) ∧ W.cell? ⟨w.heap.size, 1, none⟩ = some (.slice A2 n2 c2)) := fun W h => by
    have hlt : w.heap.size < w0.heap.size := by rw [hw0]; simp
    exact ⟨(Below.cell h hlt).trans (by rw [hw0]; simp), (Below.cell h hlt).trans (by rw [hw0]; simp)⟩
  have hs' := hs.alloc (.cells #[.slice A1 n1 c1, .slice A2 n2 c2] 42)
  have hs1' := hs1.alloc (.cells #[.slice A1 n1 c1, .slice A2 n2 c2] 42)
  have hs2' := hs2.alloc (.cells #[.slice A1 n1 c1, .slice A2 n2 c2] 42)
  rw [← hw0] at hs' hs1' hs2'
  have HA : Hid (∀ W, Kp w0 W → Calls Try.prog 22 #[] W fun e w' => e = .returned (.bool true) ∧ Kp w0 w') := fun W h => (hA W).mono fun _ _ ⟨he, hb⟩ => ⟨he, h.call hb⟩
  have HT : Hid (Calls Try.prog 48 #[.slice A n c, .int .i64 (30 : Nat)] w0 fun e w' => ∃ B d, e = .returned (.slice B N d) ∧ Sl w' B N d o ∧ Kp w0 w') := by
    refine (tame_any A n c zs 30 w0 hs' (by omega)).mono ?_
    rintro e w1 ⟨v, rfl, hv, hb⟩
    rw [hN, hoe] at hv
    obtain ⟨B, d, rfl, hsl⟩ := hv.sl_len hol (by omega)
    exact ⟨B, d, rfl, hsl, hb⟩
  have HL1 : Hid (∀ W, Kp w0 W → Calls Try.prog 18 #[.slice A1 n1 c1] W fun e w' => ∃ (B : Option Addr) (d : Nat), e = .returned (.slice B u0 d) ∧ Sl w' B u0 d a ∧ Below W.heap.size W w') := fun W h => list_sl A1 n1 c1 za W (hs1'.below h (Nat.le_refl _)) u0 a hum hae
  have HL2 : Hid (∀ W, Kp w0 W → Calls Try.prog 18 #[.slice A2 n2 c2] W fun e w' => ∃ (B : Option Addr) (d : Nat), e = .returned (.slice B q d) ∧ Sl w' B q d b ∧ Below W.heap.size W w') := fun W h => list_sl A2 n2 c2 zb W (hs2'.below h (Nat.le_refl _)) q b hqm hbe
  have HP : Hid (∀ B d W, Sl W B N d o → Calls Try.prog 19 #[.slice B N d] W fun e w' => ∃ (P : ByteArray) (v : Value), e = .returned (.tuple #[.string P, v, .int .i64 0]) ∧ P.toList.isEmpty = false ∧ Below W.heap.size W w') := fun B d W hsl => by
    refine (hP B N d o W hsl).mono ?_
    rintro e w' ⟨P, v, x, l, rfl, _, _, _, _, h, _, hb⟩
    obtain ⟨h1, _, rfl⟩ := h hob hp
    refine ⟨P, v, rfl, ?_, hb⟩
    cases hPe : P.toList.isEmpty with
    | false => rfl
    | true =>
      rw [size_empty hPe] at h1
      rw [plan_none (by omega)] at h1; cases h1
  have HCP : Hid (∀ B d B2 d2 W, Sl W B N d o → Sl W B2 q d2 b → Calls Try.prog 21 #[.slice B N d, .string ⟨#[]⟩, .slice B2 q d2] W fun e w' => e = .returned (.int .i64 10) ∧ Below W.heap.size W w') := fun B d B2 d2 W h1 h2 => by
    have h := hCP B B2 N d q d2 o b ⟨#[]⟩ W h1 h2 (by decide) (by omega)
    rw [once_stack hob (by omega) hp] at h
    exact h
  have HQ : Hid (∀ B d W, Sl W B N d o → Calls Try.prog 26 #[.slice B N d, .int .i64 (1 + (r : Int))] W fun e w' => ∃ (U : Option Addr) (u' : Nat) (v : Value), e = .returned (.tuple #[.slice U 0 u', v, .int .i64 0]) ∧ Below W.heap.size W w') := fun B d W hsl => by
    refine (hQ B N d o (1 + (r : Int)) W hsl).mono ?_
    rintro e w' ⟨u, v, x, l, t, rfl, hu, _, hl60, _, _, h1, h2, hb⟩
    obtain ⟨rfl, _, rfl⟩ := h2 hob (by omega) (by omega) hq
    obtain ⟨U, u', rfl, _⟩ := hu.sl_len (n := 0) rfl (by omega)
    exact ⟨U, u', v, rfl, hb⟩
  have HCQ : Hid (∀ B d B2 d2 W, Sl W B N d o → Sl W B2 u0 d2 a → Calls Try.prog 28 #[.slice B N d, .int .i64 (1 + (r : Int)), .slice B2 u0 d2, .slice none 0 0] W fun e w' => e = .returned (.int .i64 10) ∧ Below W.heap.size W w') := fun B d B2 d2 W h1 h2 => by
    have h := hCQ B B2 none N d u0 d2 0 0 o a [] (1 + (r : Int)) W h1 h2 (sl_nil W) (by omega) (by omega)
    rw [once_queues hob (by omega) (by omega) hq] at h
    exact h
  have HS : Hid (∀ B d W, Sl W B N d o → Calls Try.prog 32 #[.slice B N d] W fun e w' => ∃ (U : Option Addr) (u' : Nat) (v : Value), e = .returned (.tuple #[.slice U N u', v, .int .i64 0]) ∧ Below W.heap.size W w') := fun B d W hsl => by
    refine (hS B N d o W hsl).mono ?_
    rintro e w' ⟨u, v, x, l, t, rfl, hu, _, hl60, _, _, h1, h3, hb⟩
    obtain ⟨h4, _, rfl⟩ := h1 hob h2
    obtain ⟨U, u', rfl, _⟩ := hu.sl_len ((sides_len h4).trans hol) (by omega)
    exact ⟨U, u', v, rfl, hb⟩
  have HCS : Hid (∀ B d B2 d2 W, Sl W B N d o → Sl W B2 q d2 b → Calls Try.prog 34 #[.slice B N d, .slice none 0 0, .slice B2 q d2] W fun e w' => e = .returned (.int .i64 10) ∧ Below W.heap.size W w') := fun B d B2 d2 W h1 h3 => by
    have h := hCS B none B2 N d 0 0 q d2 o [] b W h1 (sl_nil W) h3 (by omega) (by omega)
    rw [once_sides hob (by omega) h2] at h
    exact h
  have HMOD := Lib.hid hmod
  have hN30 : N ≤ 30 := by omega
  have g0 : ((N : Int) == 0) = false := by simp; omega
  have gpos : 0 < N := h0
  clear hA hP hCP hQ hCQ hS hCS hs hs1 hs2 hs' hs1' hs2' hqm hbe hblen hum hae halen hN hoe hol hord hob hmod hp hq h2
  have HK0 : Hid (Kp w0 w0) := Below.refl _ _
  go_enter Try.func11, Try.ntmps11
  go_wp2_with fail
  rw [← hw0]
  have HW := Lib.hid hw0; clear hw0
  go_wp2_with (go_at_call 48; refine HT.out.mono ?_; rintro e w1 ⟨B, d, rfl, hsl1, k1⟩)
  go_wp2_with (go_at_call 49; refine (HMOD.out _).mono ?_; rintro e w2 ⟨rfl, rfl⟩)
  go_wp2_with (go_at_call 19; refine (HP.out B d _ hsl1).mono ?_; rintro e w2 ⟨P, v1, rfl, hPe, hb2⟩)
  have hsl2 := hsl1.below hb2 (Nat.le_refl _)
  have k2 := k1.call hb2
  clear hsl1 k1 hb2
  go_wp2_with (go_at_call 26; refine (HQ.out B d _ hsl2).mono ?_; rintro e w3 ⟨U, u', v2, rfl, hb3⟩)
  have hsl3 := hsl2.below hb3 (Nat.le_refl _)
  have k3 := k2.call hb3
  clear hsl2 k2 hb3
  go_wp2_with (go_at_call 32; refine (HS.out B d _ hsl3).mono ?_; rintro e w4 ⟨V, v', v3, rfl, hb4⟩; obtain ⟨f0, f1⟩ := HCL.out _ (k3.call hb4))
  have hsl4 := hsl3.below hb4 (Nat.le_refl _)
  have k4 := k3.call hb4
  clear hsl3 k3 hb4
  go_wp2_with (go_at_call 18; refine (HL2.out _ k4).mono ?_; clear HL2 f0 f1; rintro e w5 ⟨B2, d2, rfl, hsb5, hb5⟩; obtain ⟨f0, f1⟩ := HCL.out _ (k4.call hb5))
  have hsl5 := hsl4.below hb5 (Nat.le_refl _)
  have k5 := k4.call hb5
  clear hsl4 k4 hb5
  go_wp2_with (go_at_call 21; refine (HCP.out B d _ _ _ hsl5 hsb5).mono ?_; clear f0 f1; rintro e w6 ⟨rfl, hb6⟩; obtain ⟨f0, f1⟩ := HCL.out _ (k5.call hb6))
  have hsl6 := hsl5.below hb6 (Nat.le_refl _)
  have hsb6 := hsb5.below hb6 (Nat.le_refl _)
  have k6 := k5.call hb6
  clear hsl5 hsb5 k5 hb6
  go_wp2_with (go_at_call 34; refine (HCS.out B d _ _ _ hsl6 hsb6).mono ?_; clear f0 f1; rintro e w7 ⟨rfl, hb7⟩; obtain ⟨f0, f1⟩ := HCL.out _ (k6.call hb7))
  have hsl7 := hsl6.below hb7 (Nat.le_refl _)
  have hsb7 := hsb6.below hb7 (Nat.le_refl _)
  have k7 := k6.call hb7
  clear hsl6 hsb6 k6 hb7
  go_wp2_with (go_at_call 18; refine (HL1.out _ k7).mono ?_; clear HL1 f0 f1; rintro e w8 ⟨B1, d1, rfl, hsa8, hb8⟩)
  have hsl8 := hsl7.below hb8 (Nat.le_refl _)
  have k8 := k7.call hb8
  clear hsl7 k7 hb8
  go_wp2_with (go_at_call 28; refine (HCQ.out B d _ _ _ hsl8 hsa8).mono ?_; rintro e w9 ⟨rfl, hb9⟩)
  have hsl9 := hsl8.below hb9 (Nat.le_refl _)
  have hsa9 := hsa8.below hb9 (Nat.le_refl _)
  have k9 := k8.call hb9
  clear hsl8 hsa8 k8 hb9
  go_wp2_with (go_at_call 22; refine (HA.out _ k9).mono ?_; rintro e w10 ⟨rfl, k10⟩)
  go_ret
  exact ⟨rfl, HW0.out.trans (k10.mono HW0.out.size)⟩
set_option maxHeartbeats 3200000 in
theorem once_110 (hA : AwakeOk) (hP : StackOk) (hCP : CheckStackOk) (hQ : QueuesOk) (hCQ : CheckQueuesOk) (hS : StacksOk) (hCS : CheckStacksOk) (A A1 A2 : Option Addr) (n c n1 c1 n2 c2 : Nat) (zs za zb : List Int) (k : Int) (w : World) (hs : Sl w A n c zs) (hs1 : Sl w A1 n1 c1 za) (hs2 : Sl w A2 n2 c2 zb)
    (N : Nat) (o : List Int) (hN : min n 30 = N) (hoe : tameOf zs N = o) (h0 : 0 < N) (r : Nat) (hmod : ∀ W, Calls Try.prog 49 #[.int .i64 k, .int .i64 6] W fun e w' => e = .returned (.int .i64 r) ∧ W = w') (hr : r < 6)
    (hp : ascB (passOf o) = true) (hq : leastOf o ≤ 1 + (r : Int)) (h2 : twoB o = false) :
    Calls Try.prog 11 #[.slice A n c, .int .i64 k, .agg #[.slice A1 n1 c1, .slice A2 n2 c2]] w fun e w' => e = .returned (.bool true) ∧ Below w.heap.size w w' := by
  have hol : o.length = N := by rw [← hoe, tameOf_len]
  have hord : Ord o := by rw [← hoe]; exact ord_tame zs N
  have hob : ordB o 60 = true := ordB_iff.2 ⟨hord, by omega⟩
  obtain ⟨q, b, hqm, hbe, hblen, hq61⟩ := list_has hs2
  obtain ⟨u0, a, hum, hae, halen, hu61⟩ := list_has hs1
  obtain ⟨w0, hw0⟩ : ∃ w0, w0 = w.alloc (.cells #[.slice A1 n1 c1, .slice A2 n2 c2] 42) := ⟨_, rfl⟩
  have HW0 : Hid (Below w.heap.size w w0) := by rw [hw0]; exact (Below.refl _ _).alloc (Nat.le_refl _) _
  have HCL : Hid (∀ W, Kp w0 W → W.cell? ⟨w.heap.size, 0, none⟩ = some (.slice A1 n1 c1) ∧ W.cell? ⟨w.heap.size, 1, none⟩ = some (.slice A2 n2 c2)) := fun W h => by
    have hlt : w.heap.size < w0.heap.size := by rw [hw0]; simp
    exact ⟨(Below.cell h hlt).trans (by rw [hw0]; simp), (Below.cell h hlt).trans (by rw [hw0]; simp)⟩
  have hs' := hs.alloc (.cells #[.slice A1 n1 c1, .slice A2 n2 c2] 42)
  have hs1' := hs1.alloc (.cells #[.slice A1 n1 c1, .slice A2 n2 c2] 42)
  have hs2' := hs2.alloc (.cells #[.slice A1 n1 c1, .slice A2 n2 c2] 42)
  rw [← hw0] at hs' hs1' hs2'
  have HA : Hid (∀ W, Kp w0 W → Calls Try.prog 22 #[] W fun e w' => e = .returned (.bool true) ∧ Kp w0 w') := fun W h => (hA W).mono fun _ _ ⟨he, hb⟩ => ⟨he, h.call hb⟩
  have HT : Hid (Calls Try.prog 48 #[.slice A n c, .int .i64 (30 : Nat)] w0 fun e w' => ∃ B d, e = .returned (.slice B N d) ∧ Sl w' B N d o ∧ Kp w0 w') := by
    refine (tame_any A n c zs 30 w0 hs' (by omega)).mono ?_
    rintro e w1 ⟨v, rfl, hv, hb⟩
    rw [hN, hoe] at hv
    obtain ⟨B, d, rfl, hsl⟩ := hv.sl_len hol (by omega)
    exact ⟨B, d, rfl, hsl, hb⟩
  have HL1 : Hid (∀ W, Kp w0 W → Calls Try.prog 18 #[.slice A1 n1 c1] W fun e w' => ∃ (B : Option Addr) (d : Nat), e = .returned (.slice B u0 d) ∧ Sl w' B u0 d a ∧ Below W.heap.size W w') := fun W h => list_sl A1 n1 c1 za W (hs1'.below h (Nat.le_refl _)) u0 a hum hae
  have HL2 : Hid (∀ W, Kp w0 W → Calls Try.prog 18 #[.slice A2 n2 c2] W fun e w' => ∃ (B : Option Addr) (d : Nat), e = .returned (.slice B q d) ∧ Sl w' B q d b ∧ Below W.heap.size W w') := fun W h => list_sl A2 n2 c2 zb W (hs2'.below h (Nat.le_refl _)) q b hqm hbe
  have HP : Hid (∀ B d W, Sl W B N d o → Calls Try.prog 19 #[.slice B N d] W fun e w' => ∃ (P : ByteArray) (v : Value), e = .returned (.tuple #[.string P, v, .int .i64 0]) ∧ P.toList.isEmpty = false ∧ Below W.heap.size W w') := fun B d W hsl => by
    refine (hP B N d o W hsl).mono ?_
    rintro e w' ⟨P, v, x, l, rfl, _, _, _, _, h, _, hb⟩
    obtain ⟨h1, _, rfl⟩ := h hob hp
    refine ⟨P, v, rfl, ?_, hb⟩
    cases hPe : P.toList.isEmpty with
    | false => rfl
    | true =>
      rw [size_empty hPe] at h1
      rw [plan_none (by omega)] at h1; cases h1
  have HCP : Hid (∀ B d B2 d2 W, Sl W B N d o → Sl W B2 q d2 b → Calls Try.prog 21 #[.slice B N d, .string ⟨#[]⟩, .slice B2 q d2] W fun e w' => e = .returned (.int .i64 10) ∧ Below W.heap.size W w') := fun B d B2 d2 W h1 h2 => by
    have h := hCP B B2 N d q d2 o b ⟨#[]⟩ W h1 h2 (by decide) (by omega)
    rw [once_stack hob (by omega) hp] at h
    exact h
  have HQ : Hid (∀ B d W, Sl W B N d o → Calls Try.prog 26 #[.slice B N d, .int .i64 (1 + (r : Int))] W fun e w' => ∃ (U : Option Addr) (u' : Nat) (v : Value), e = .returned (.tuple #[.slice U N u', v, .int .i64 0]) ∧ Below W.heap.size W w') := fun B d W hsl => by
    refine (hQ B N d o (1 + (r : Int)) W hsl).mono ?_
    rintro e w' ⟨u, v, x, l, t, rfl, hu, _, hl60, _, _, h1, h2, hb⟩
    obtain ⟨h3, _, rfl⟩ := h1 hob (by omega) (by omega) hq
    obtain ⟨U, u', rfl, _⟩ := hu.sl_len ((lanes_len h3).trans hol) (by omega)
    exact ⟨U, u', v, rfl, hb⟩
  have HCQ : Hid (∀ B d B2 d2 W, Sl W B N d o → Sl W B2 q d2 b → Calls Try.prog 28 #[.slice B N d, .int .i64 (1 + (r : Int)), .slice none 0 0, .slice B2 q d2] W fun e w' => e = .returned (.int .i64 10) ∧ Below W.heap.size W w') := fun B d B2 d2 W h1 h2 => by
    have h := hCQ B none B2 N d 0 0 q d2 o [] b (1 + (r : Int)) W h1 (sl_nil W) h2 (by omega) (by omega)
    rw [once_lanes hob (by omega) (by omega) (by omega) hq] at h
    exact h
  have HS : Hid (∀ B d W, Sl W B N d o → Calls Try.prog 32 #[.slice B N d] W fun e w' => ∃ (U : Option Addr) (u' : Nat) (v : Value), e = .returned (.tuple #[.slice U 0 u', v, .int .i64 0]) ∧ Below W.heap.size W w') := fun B d W hsl => by
    refine (hS B N d o W hsl).mono ?_
    rintro e w' ⟨u, v, x, l, t, rfl, hu, _, hl60, _, _, h1, h3, hb⟩
    obtain ⟨rfl, _, rfl⟩ := h3 hob h2
    obtain ⟨U, u', rfl, _⟩ := hu.sl_len (n := 0) rfl (by omega)
    exact ⟨U, u', v, rfl, hb⟩
  have HCS : Hid (∀ B d B2 d2 W, Sl W B N d o → Sl W B2 u0 d2 a → Calls Try.prog 34 #[.slice B N d, .slice B2 u0 d2, .slice none 0 0] W fun e w' => e = .returned (.int .i64 10) ∧ Below W.heap.size W w') := fun B d B2 d2 W h1 h3 => by
    have h := hCS B B2 none N d u0 d2 0 0 o a [] W h1 h3 (sl_nil W) (by omega) (by omega)
    rw [once_rings hob h2] at h
    exact h
  have HMOD := Lib.hid hmod
  have hN30 : N ≤ 30 := by omega
  have g0 : ((N : Int) == 0) = false := by simp; omega
  have gpos : 0 < N := h0
  clear hA hP hCP hQ hCQ hS hCS hs hs1 hs2 hs' hs1' hs2' hqm hbe hblen hum hae halen hN hoe hol hord hob hmod hp hq h2
  have HK0 : Hid (Kp w0 w0) := Below.refl _ _
  go_enter Try.func11, Try.ntmps11
  go_wp2_with fail
  rw [← hw0]
  have HW := Lib.hid hw0; clear hw0
  go_wp2_with (go_at_call 48; refine HT.out.mono ?_; rintro e w1 ⟨B, d, rfl, hsl1, k1⟩)
  go_wp2_with (go_at_call 49; refine (HMOD.out _).mono ?_; rintro e w2 ⟨rfl, rfl⟩)
  go_wp2_with (go_at_call 19; refine (HP.out B d _ hsl1).mono ?_; rintro e w2 ⟨P, v1, rfl, hPe, hb2⟩)
  have hsl2 := hsl1.below hb2 (Nat.le_refl _)
  have k2 := k1.call hb2
  clear hsl1 k1 hb2
  go_wp2_with (go_at_call 26; refine (HQ.out B d _ hsl2).mono ?_; rintro e w3 ⟨U, u', v2, rfl, hb3⟩)
  have hsl3 := hsl2.below hb3 (Nat.le_refl _)
  have k3 := k2.call hb3
  clear hsl2 k2 hb3
  go_wp2_with (go_at_call 32; refine (HS.out B d _ hsl3).mono ?_; rintro e w4 ⟨V, v', v3, rfl, hb4⟩; obtain ⟨f0, f1⟩ := HCL.out _ (k3.call hb4))
  have hsl4 := hsl3.below hb4 (Nat.le_refl _)
  have k4 := k3.call hb4
  clear hsl3 k3 hb4
  go_wp2_with (go_at_call 18; refine (HL2.out _ k4).mono ?_; clear HL2 f0 f1; rintro e w5 ⟨B2, d2, rfl, hsb5, hb5⟩; obtain ⟨f0, f1⟩ := HCL.out _ (k4.call hb5))
  have hsl5 := hsl4.below hb5 (Nat.le_refl _)
  have k5 := k4.call hb5
  clear hsl4 k4 hb5
  go_wp2_with (go_at_call 21; refine (HCP.out B d _ _ _ hsl5 hsb5).mono ?_; clear f0 f1; rintro e w6 ⟨rfl, hb6⟩; obtain ⟨f0, f1⟩ := HCL.out _ (k5.call hb6))
  have hsl6 := hsl5.below hb6 (Nat.le_refl _)
  have hsb6 := hsb5.below hb6 (Nat.le_refl _)
  have k6 := k5.call hb6
  clear hsl5 hsb5 k5 hb6
  go_wp2_with (go_at_call 28; refine (HCQ.out B d _ _ _ hsl6 hsb6).mono ?_; clear f0 f1; rintro e w7 ⟨rfl, hb7⟩; obtain ⟨f0, f1⟩ := HCL.out _ (k6.call hb7))
  have hsl7 := hsl6.below hb7 (Nat.le_refl _)
  have hsb7 := hsb6.below hb7 (Nat.le_refl _)
  have k7 := k6.call hb7
  clear hsl6 hsb6 k6 hb7
  go_wp2_with (go_at_call 18; refine (HL1.out _ k7).mono ?_; clear HL1 f0 f1; rintro e w8 ⟨B1, d1, rfl, hsa8, hb8⟩)
  have hsl8 := hsl7.below hb8 (Nat.le_refl _)
  have k8 := k7.call hb8
  clear hsl7 k7 hb8
  go_wp2_with (go_at_call 34; refine (HCS.out B d _ _ _ hsl8 hsa8).mono ?_; rintro e w9 ⟨rfl, hb9⟩)
  have hsl9 := hsl8.below hb9 (Nat.le_refl _)
  have hsa9 := hsa8.below hb9 (Nat.le_refl _)
  have k9 := k8.call hb9
  clear hsl8 hsa8 k8 hb9
  go_wp2_with (go_at_call 22; refine (HA.out _ k9).mono ?_; rintro e w10 ⟨rfl, k10⟩)
  go_ret
  exact ⟨rfl, HW0.out.trans (k10.mono HW0.out.size)⟩
set_option maxHeartbeats 3200000 in
theorem once_111 (hA : AwakeOk) (hP : StackOk) (hCP : CheckStackOk) (hQ : QueuesOk) (hCQ : CheckQueuesOk) (hS : StacksOk) (hCS : CheckStacksOk) (A A1 A2 : Option Addr) (n c n1 c1 n2 c2 : Nat) (zs za zb : List Int) (k : Int) (w : World) (hs : Sl w A n c zs) (hs1 : Sl w A1 n1 c1 za) (hs2 : Sl w A2 n2 c2 zb)
    (N : Nat) (o : List Int) (hN : min n 30 = N) (hoe : tameOf zs N = o) (h0 : 0 < N) (r : Nat) (hmod : ∀ W, Calls Try.prog 49 #[.int .i64 k, .int .i64 6] W fun e w' => e = .returned (.int .i64 r) ∧ W = w') (hr : r < 6)
    (hp : ascB (passOf o) = true) (hq : leastOf o ≤ 1 + (r : Int)) (h2 : twoB o = true) :
    Calls Try.prog 11 #[.slice A n c, .int .i64 k, .agg #[.slice A1 n1 c1, .slice A2 n2 c2]] w fun e w' => e = .returned (.bool true) ∧ Below w.heap.size w w' := by
  have hol : o.length = N := by rw [← hoe, tameOf_len]
  have hord : Ord o := by rw [← hoe]; exact ord_tame zs N
  have hob : ordB o 60 = true := ordB_iff.2 ⟨hord, by omega⟩
  obtain ⟨q, b, hqm, hbe, hblen, hq61⟩ := list_has hs2
  obtain ⟨u0, a, hum, hae, halen, hu61⟩ := list_has hs1
  obtain ⟨w0, hw0⟩ : ∃ w0, w0 = w.alloc (.cells #[.slice A1 n1 c1, .slice A2 n2 c2] 42) := ⟨_, rfl⟩
  have HW0 : Hid (Below w.heap.size w w0) := by rw [hw0]; exact (Below.refl _ _).alloc (Nat.le_refl _) _
  have HCL : Hid (∀ W, Kp w0 W → W.cell? ⟨w.heap.size, 0, none⟩ = some (.slice A1 n1 c1) ∧ W.cell? ⟨w.heap.size, 1, none⟩ = some (.slice A2 n2 c2)) := fun W h => by
    have hlt : w.heap.size < w0.heap.size := by rw [hw0]; simp
    exact ⟨(Below.cell h hlt).trans (by rw [hw0]; simp), (Below.cell h hlt).trans (by rw [hw0]; simp)⟩
  have hs' := hs.alloc (.cells #[.slice A1 n1 c1, .slice A2 n2 c2] 42)
  have hs1' := hs1.alloc (.cells #[.slice A1 n1 c1, .slice A2 n2 c2] 42)
  have hs2' := hs2.alloc (.cells #[.slice A1 n1 c1, .slice A2 n2 c2] 42)
  rw [← hw0] at hs' hs1' hs2'
  have HA : Hid (∀ W, Kp w0 W → Calls Try.prog 22 #[] W fun e w' => e = .returned (.bool true) ∧ Kp w0 w') := fun W h => (hA W).mono fun _ _ ⟨he, hb⟩ => ⟨he, h.call hb⟩
  have HT : Hid (Calls Try.prog 48 #[.slice A n c, .int .i64 (30 : Nat)] w0 fun e w' => ∃ B d, e = .returned (.slice B N d) ∧ Sl w' B N d o ∧ Kp w0 w') := by
    refine (tame_any A n c zs 30 w0 hs' (by omega)).mono ?_
    rintro e w1 ⟨v, rfl, hv, hb⟩
    rw [hN, hoe] at hv
    obtain ⟨B, d, rfl, hsl⟩ := hv.sl_len hol (by omega)
    exact ⟨B, d, rfl, hsl, hb⟩
  have HL1 : Hid (∀ W, Kp w0 W → Calls Try.prog 18 #[.slice A1 n1 c1] W fun e w' => ∃ (B : Option Addr) (d : Nat), e = .returned (.slice B u0 d) ∧ Sl w' B u0 d a ∧ Below W.heap.size W w') := fun W h => list_sl A1 n1 c1 za W (hs1'.below h (Nat.le_refl _)) u0 a hum hae
  have HL2 : Hid (∀ W, Kp w0 W → Calls Try.prog 18 #[.slice A2 n2 c2] W fun e w' => ∃ (B : Option Addr) (d : Nat), e = .returned (.slice B q d) ∧ Sl w' B q d b ∧ Below W.heap.size W w') := fun W h => list_sl A2 n2 c2 zb W (hs2'.below h (Nat.le_refl _)) q b hqm hbe
  have HP : Hid (∀ B d W, Sl W B N d o → Calls Try.prog 19 #[.slice B N d] W fun e w' => ∃ (P : ByteArray) (v : Value), e = .returned (.tuple #[.string P, v, .int .i64 0]) ∧ P.toList.isEmpty = false ∧ Below W.heap.size W w') := fun B d W hsl => by
    refine (hP B N d o W hsl).mono ?_
    rintro e w' ⟨P, v, x, l, rfl, _, _, _, _, h, _, hb⟩
    obtain ⟨h1, _, rfl⟩ := h hob hp
    refine ⟨P, v, rfl, ?_, hb⟩
    cases hPe : P.toList.isEmpty with
    | false => rfl
    | true =>
      rw [size_empty hPe] at h1
      rw [plan_none (by omega)] at h1; cases h1
  have HCP : Hid (∀ B d B2 d2 W, Sl W B N d o → Sl W B2 q d2 b → Calls Try.prog 21 #[.slice B N d, .string ⟨#[]⟩, .slice B2 q d2] W fun e w' => e = .returned (.int .i64 10) ∧ Below W.heap.size W w') := fun B d B2 d2 W h1 h2 => by
    have h := hCP B B2 N d q d2 o b ⟨#[]⟩ W h1 h2 (by decide) (by omega)
    rw [once_stack hob (by omega) hp] at h
    exact h
  have HQ : Hid (∀ B d W, Sl W B N d o → Calls Try.prog 26 #[.slice B N d, .int .i64 (1 + (r : Int))] W fun e w' => ∃ (U : Option Addr) (u' : Nat) (v : Value), e = .returned (.tuple #[.slice U N u', v, .int .i64 0]) ∧ Below W.heap.size W w') := fun B d W hsl => by
    refine (hQ B N d o (1 + (r : Int)) W hsl).mono ?_
    rintro e w' ⟨u, v, x, l, t, rfl, hu, _, hl60, _, _, h1, h2, hb⟩
    obtain ⟨h3, _, rfl⟩ := h1 hob (by omega) (by omega) hq
    obtain ⟨U, u', rfl, _⟩ := hu.sl_len ((lanes_len h3).trans hol) (by omega)
    exact ⟨U, u', v, rfl, hb⟩
  have HCQ : Hid (∀ B d B2 d2 W, Sl W B N d o → Sl W B2 q d2 b → Calls Try.prog 28 #[.slice B N d, .int .i64 (1 + (r : Int)), .slice none 0 0, .slice B2 q d2] W fun e w' => e = .returned (.int .i64 10) ∧ Below W.heap.size W w') := fun B d B2 d2 W h1 h2 => by
    have h := hCQ B none B2 N d 0 0 q d2 o [] b (1 + (r : Int)) W h1 (sl_nil W) h2 (by omega) (by omega)
    rw [once_lanes hob (by omega) (by omega) (by omega) hq] at h
    exact h
  have HS : Hid (∀ B d W, Sl W B N d o → Calls Try.prog 32 #[.slice B N d] W fun e w' => ∃ (U : Option Addr) (u' : Nat) (v : Value), e = .returned (.tuple #[.slice U N u', v, .int .i64 0]) ∧ Below W.heap.size W w') := fun B d W hsl => by
    refine (hS B N d o W hsl).mono ?_
    rintro e w' ⟨u, v, x, l, t, rfl, hu, _, hl60, _, _, h1, h3, hb⟩
    obtain ⟨h4, _, rfl⟩ := h1 hob h2
    obtain ⟨U, u', rfl, _⟩ := hu.sl_len ((sides_len h4).trans hol) (by omega)
    exact ⟨U, u', v, rfl, hb⟩
  have HCS : Hid (∀ B d B2 d2 W, Sl W B N d o → Sl W B2 q d2 b → Calls Try.prog 34 #[.slice B N d, .slice none 0 0, .slice B2 q d2] W fun e w' => e = .returned (.int .i64 10) ∧ Below W.heap.size W w') := fun B d B2 d2 W h1 h3 => by
    have h := hCS B none B2 N d 0 0 q d2 o [] b W h1 (sl_nil W) h3 (by omega) (by omega)
    rw [once_sides hob (by omega) h2] at h
    exact h
  have HMOD := Lib.hid hmod
  have hN30 : N ≤ 30 := by omega
  have g0 : ((N : Int) == 0) = false := by simp; omega
  have gpos : 0 < N := h0
  clear hA hP hCP hQ hCQ hS hCS hs hs1 hs2 hs' hs1' hs2' hqm hbe hblen hum hae halen hN hoe hol hord hob hmod hp hq h2
  have HK0 : Hid (Kp w0 w0) := Below.refl _ _
  go_enter Try.func11, Try.ntmps11
  go_wp2_with fail
  rw [← hw0]
  have HW := Lib.hid hw0; clear hw0
  go_wp2_with (go_at_call 48; refine HT.out.mono ?_; rintro e w1 ⟨B, d, rfl, hsl1, k1⟩)
  go_wp2_with (go_at_call 49; refine (HMOD.out _).mono ?_; rintro e w2 ⟨rfl, rfl⟩)
  go_wp2_with (go_at_call 19; refine (HP.out B d _ hsl1).mono ?_; rintro e w2 ⟨P, v1, rfl, hPe, hb2⟩)
  have hsl2 := hsl1.below hb2 (Nat.le_refl _)
  have k2 := k1.call hb2
  clear hsl1 k1 hb2
  go_wp2_with (go_at_call 26; refine (HQ.out B d _ hsl2).mono ?_; rintro e w3 ⟨U, u', v2, rfl, hb3⟩)
  have hsl3 := hsl2.below hb3 (Nat.le_refl _)
  have k3 := k2.call hb3
  clear hsl2 k2 hb3
  go_wp2_with (go_at_call 32; refine (HS.out B d _ hsl3).mono ?_; rintro e w4 ⟨V, v', v3, rfl, hb4⟩; obtain ⟨f0, f1⟩ := HCL.out _ (k3.call hb4))
  have hsl4 := hsl3.below hb4 (Nat.le_refl _)
  have k4 := k3.call hb4
  clear hsl3 k3 hb4
  go_wp2_with (go_at_call 18; refine (HL2.out _ k4).mono ?_; clear HL2 f0 f1; rintro e w5 ⟨B2, d2, rfl, hsb5, hb5⟩; obtain ⟨f0, f1⟩ := HCL.out _ (k4.call hb5))
  have hsl5 := hsl4.below hb5 (Nat.le_refl _)
  have k5 := k4.call hb5
  clear hsl4 k4 hb5
  go_wp2_with (go_at_call 21; refine (HCP.out B d _ _ _ hsl5 hsb5).mono ?_; clear f0 f1; rintro e w6 ⟨rfl, hb6⟩; obtain ⟨f0, f1⟩ := HCL.out _ (k5.call hb6))
  have hsl6 := hsl5.below hb6 (Nat.le_refl _)
  have hsb6 := hsb5.below hb6 (Nat.le_refl _)
  have k6 := k5.call hb6
  clear hsl5 hsb5 k5 hb6
  go_wp2_with (go_at_call 28; refine (HCQ.out B d _ _ _ hsl6 hsb6).mono ?_; clear f0 f1; rintro e w7 ⟨rfl, hb7⟩; obtain ⟨f0, f1⟩ := HCL.out _ (k6.call hb7))
  have hsl7 := hsl6.below hb7 (Nat.le_refl _)
  have hsb7 := hsb6.below hb7 (Nat.le_refl _)
  have k7 := k6.call hb7
  clear hsl6 hsb6 k6 hb7
  go_wp2_with (go_at_call 34; refine (HCS.out B d _ _ _ hsl7 hsb7).mono ?_; clear f0 f1; rintro e w8 ⟨rfl, hb8⟩; obtain ⟨f0, f1⟩ := HCL.out _ (k7.call hb8))
  have hsl8 := hsl7.below hb8 (Nat.le_refl _)
  have hsb8 := hsb7.below hb8 (Nat.le_refl _)
  have k8 := k7.call hb8
  clear hsl7 hsb7 k7 hb8
  go_wp2_with (go_at_call 18; refine (HL1.out _ k8).mono ?_; clear HL1 f0 f1; rintro e w9 ⟨B1, d1, rfl, hsa9, hb9⟩)
  have hsl9 := hsl8.below hb9 (Nat.le_refl _)
  have k9 := k8.call hb9
  clear hsl8 k8 hb9
  go_wp2_with (go_at_call 22; refine (HA.out _ k9).mono ?_; rintro e w10 ⟨rfl, k10⟩)
  go_ret
  exact ⟨rfl, HW0.out.trans (k10.mono HW0.out.size)⟩
theorem once_law (hA : AwakeOk) (hP : StackOk) (hCP : CheckStackOk) (hQ : QueuesOk) (hCQ : CheckQueuesOk) (hS : StacksOk) (hCS : CheckStacksOk) (A A1 A2 : Option Addr) (n c n1 c1 n2 c2 : Nat) (zs za zb : List Int) (k : Int) (w : World) (hs : Sl w A n c zs) (hs1 : Sl w A1 n1 c1 za) (hs2 : Sl w A2 n2 c2 zb) :
    Calls Try.prog 11 #[.slice A n c, .int .i64 k, .agg #[.slice A1 n1 c1, .slice A2 n2 c2]] w fun e w' => e = .returned (.bool true) ∧ Below w.heap.size w w' := by
  obtain ⟨N, hN⟩ : ∃ N, min n 30 = N := ⟨_, rfl⟩
  rcases Nat.eq_zero_or_pos N with h0 | h0
  · exact once_none hA hP hCP hQ hCQ hS hCS A A1 A2 n c n1 c1 n2 c2 zs za zb k w hs hs1 hs2 (hN.trans h0)
  · obtain ⟨r, hr, hr6⟩ := mod_val k 6 (by omega) (by omega)
    have hmod : ∀ W, Calls Try.prog 49 #[.int .i64 k, .int .i64 6] W fun e w' => e = .returned (.int .i64 r) ∧ W = w' := fun W => mod_is k 6 W (by omega) (by omega) r hr
    have hr6' : r < 6 := by omega
    cases hp : ascB (passOf (tameOf zs N)) <;> cases h2 : twoB (tameOf zs N) <;> rcases Int.lt_or_le (1 + (r : Int)) (leastOf (tameOf zs N)) with hq | hq
    · exact once_000 hA hP hCP hQ hCQ hS hCS A A1 A2 n c n1 c1 n2 c2 zs za zb k w hs hs1 hs2 N _ hN rfl h0 r hmod hr6' hp hq h2
    · exact once_010 hA hP hCP hQ hCQ hS hCS A A1 A2 n c n1 c1 n2 c2 zs za zb k w hs hs1 hs2 N _ hN rfl h0 r hmod hr6' hp hq h2
    · exact once_001 hA hP hCP hQ hCQ hS hCS A A1 A2 n c n1 c1 n2 c2 zs za zb k w hs hs1 hs2 N _ hN rfl h0 r hmod hr6' hp hq h2
    · exact once_011 hA hP hCP hQ hCQ hS hCS A A1 A2 n c n1 c1 n2 c2 zs za zb k w hs hs1 hs2 N _ hN rfl h0 r hmod hr6' hp hq h2
    · exact once_100 hA hP hCP hQ hCQ hS hCS A A1 A2 n c n1 c1 n2 c2 zs za zb k w hs hs1 hs2 N _ hN rfl h0 r hmod hr6' hp hq h2
    · exact once_110 hA hP hCP hQ hCQ hS hCS A A1 A2 n c n1 c1 n2 c2 zs za zb k w hs hs1 hs2 N _ hN rfl h0 r hmod hr6' hp hq h2
    · exact once_101 hA hP hCP hQ hCQ hS hCS A A1 A2 n c n1 c1 n2 c2 zs za zb k w hs hs1 hs2 N _ hN rfl h0 r hmod hr6' hp hq h2
    · exact once_111 hA hP hCP hQ hCQ hS hCS A A1 A2 n c n1 c1 n2 c2 zs za zb k w hs hs1 hs2 N _ hN rfl h0 r hmod hr6' hp hq h2
end Go.Proofs.Ytmnnehpoaedifaa
