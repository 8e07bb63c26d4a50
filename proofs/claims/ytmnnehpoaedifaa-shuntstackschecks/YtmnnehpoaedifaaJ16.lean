import Derived.Test.YtmnnehpoaedifaaJ10
import Derived.Test.YtmnnehpoaedifaaJ00
import Derived.Test.YtmnnehpoaedifaaJ13
import Derived.Test.YtmnnehpoaedifaaJ14
import Derived.Test.YtmnnehpoaedifaaJ15
/- awake answers true, from what Stack, Least, Rank and Pass promise. -/
namespace Go.Proofs.Ytmnnehpoaedifaa
open Go.RowKit

theorem Ow.three (w : World) (B e : Nat) (a b c : Int) (hB : B ≤ w.heap.size) : Ow (w.alloc (.cells #[.int .i64 a, .int .i64 b, .int .i64 c] e)) B e (.slice (some ⟨w.heap.size, 0, none⟩) 3 3) [a, b, c] := by
  have h := World.ownsRow_lit (base := B) (e := e) (size := 1) w #[.int .i64 a, .int .i64 b, .int .i64 c] 3 hB (by unfold maxLen; omega) rfl
  simpa [Ow] using h
theorem Sl.three (w : World) (e : Nat) (a b c : Int) : Sl (w.alloc (.cells #[.int .i64 a, .int .i64 b, .int .i64 c] e)) (some ⟨w.heap.size, 0, none⟩) 3 3 [a, b, c] := by
  obtain ⟨A, d, h, hs⟩ := (Ow.three w 0 e a b c (by omega)).sl_len (n := 3) rfl (by omega)
  injection h with h1 h2 h3
  subst h1; subst h3
  exact hs
theorem Sl.alloc {w : World} {A : Option Addr} {n c : Nat} {zs : List Int} (h : Sl w A n c zs) (o : Obj) : Sl (w.alloc o) A n c zs :=
  h.below ((Below.refl w.heap.size w).alloc (Nat.le_refl _) o) (Nat.le_refl _)
theorem Kp.fresh (w : World) (o : Obj) : Kp w (w.alloc o) := (Below.refl _ _).alloc (Nat.le_refl _) _
theorem Kp.alloc {w u : World} (h : Kp w u) (o : Obj) : Kp w (u.alloc o) := Below.alloc h h.size o
theorem block231 {l : List Int} (h : sblockB [2, 3, 1] l = true) : l = [0, 1, 2] := by
  unfold sblockB at h
  simp only [Bool.and_eq_true, beq_iff_eq, decide_eq_true_eq] at h
  obtain ⟨⟨⟨h1, h2⟩, h3⟩, _⟩ := h
  match l, h1 with
  | [x, y, z], _ =>
    have a := atB_lo h2 (k := 0) (by simp)
    have c := atB_lo h2 (k := 2) (by simp)
    have p := (allB_iff.1 h3) 0 (by simp)
    have q := (allB_iff.1 h3) 1 (by simp)
    simp at a c p q
    obtain rfl : x = 0 := by omega
    obtain rfl : y = 1 := by omega
    obtain rfl : z = 2 := by omega
    rfl
def kindOf (ch : UInt8) : Fin 3 := if ch.toNat = 105 then 0 else if ch.toNat = 111 then 1 else 2
def stepK (o : List Int) (s : List Int × Nat × Nat) (k : Fin 3) : Option (List Int × Nat × Nat) :=
  if k = 0 ∧ s.2.1 < o.length then some (o[s.2.1]?.getD 0 :: s.1, s.2.1 + 1, s.2.2)
  else match s.1 with
    | t :: r => if k = 1 ∧ t = s.2.2 then some (r, s.2.1, s.2.2 + 1) else none
    | [] => none
theorem kind_zero (ch : UInt8) : kindOf ch = 0 ↔ ch.toNat = 105 := by
  unfold kindOf; split
  · simp [*]
  · split <;> simp [*]
theorem kind_one (ch : UInt8) : kindOf ch = 1 ↔ ch.toNat = 111 := by
  unfold kindOf; split
  · rename_i h; simp [h]
  · split <;> simp [*]
theorem step_kind (o : List Int) (s : List Int × Nat × Nat) (ch : UInt8) : planStep o s ch = stepK o s (kindOf ch) := by
  obtain ⟨l, a, b⟩ := s
  unfold planStep stepK
  cases l <;> simp only [kind_zero, kind_one]
theorem six : ∀ a b c d e f : Fin 3, (List.foldlM (stepK [2, 1, 3]) ([], 0, 1) [a, b, c, d, e, f]).isSome = true → a = 0 ∧ b = 0 ∧ c = 1 ∧ d = 1 ∧ e = 0 ∧ f = 1 := by decide +kernel
theorem fold_kind (o : List Int) (p : List UInt8) : ∀ s, List.foldlM (planStep o) s p = List.foldlM (stepK o) s (p.map kindOf) := by
  induction p with
  | nil => intro s; rfl
  | cons x p ih =>
    intro s
    rw [List.map_cons, List.foldlM_cons, List.foldlM_cons, step_kind]
    congr 1
    funext t
    exact ih t
theorem plan213 {p : ByteArray} (h : planB [2, 1, 3] p.data.toList = true) : p = ⟨#[105, 105, 111, 111, 105, 111]⟩ := by
  unfold planB at h
  simp only [Bool.and_eq_true, decide_eq_true_eq] at h
  obtain ⟨h1, h2⟩ := h
  unfold planTo at h2
  rw [List.take_length, fold_kind] at h2
  have key : p.data.toList = [105, 105, 111, 111, 105, 111] := by
    match hl : p.data.toList, h1 with
    | [a, b, c, d, e, f], _ =>
      rw [hl] at h2
      obtain ⟨a1, a2, a3, a4, a5, a6⟩ := six _ _ _ _ _ _ h2
      rw [kind_zero] at a1 a2 a5
      rw [kind_one] at a3 a4 a6
      rw [show a = 105 from UInt8.toNat_inj.1 a1, show b = 105 from UInt8.toNat_inj.1 a2, show c = 111 from UInt8.toNat_inj.1 a3, show d = 111 from UInt8.toNat_inj.1 a4, show e = 105 from UInt8.toNat_inj.1 a5, show f = 111 from UInt8.toNat_inj.1 a6]
  cases p with
  | mk d =>
    congr 1
    exact Array.toList_inj.1 key
set_option maxHeartbeats 800000 in
theorem awake_ok (hS : StackOk) (hM : LeastOk) (hR : RankFnOk) (hP : PassOk) : AwakeOk := by
  intro w
  have HS1 : ∀ (u : World) (A : Option Addr) (c : Nat), Sl u A 3 c [2, 1, 3] → Hid (Calls Try.prog 19 #[.slice A 3 c] u fun e w' => ∃ B d, e = .returned (.tuple #[.string ⟨#[105, 105, 111, 111, 105, 111]⟩, .slice B 0 d, .int .i64 0]) ∧ Below u.heap.size u w') := fun u A c h => by
    refine (hS A 3 c _ u h).mono ?_
    rintro e w' ⟨p, v, x, b, rfl, ho, _, _, _, h1, _, hb⟩
    obtain ⟨hp, rfl, rfl⟩ := h1 (by decide) (by decide)
    obtain rfl := plan213 hp
    obtain ⟨B, d, rfl, _⟩ := ho.sl_len (n := 0) rfl (by omega)
    exact ⟨B, d, rfl, hb⟩
  have HS2 : ∀ (u : World) (A : Option Addr) (c : Nat), Sl u A 3 c [2, 3, 1] → Hid (Calls Try.prog 19 #[.slice A 3 c] u fun e w' => ∃ B d, e = .returned (.tuple #[.string ⟨#[]⟩, .slice B 3 d, .int .i64 0]) ∧ Sl w' B 3 d [0, 1, 2] ∧ Below u.heap.size u w') := fun u A c h => by
    refine (hS A 3 c _ u h).mono ?_
    rintro e w' ⟨p, v, x, b, rfl, ho, _, _, _, _, h1, hb⟩
    obtain ⟨rfl, hp, rfl⟩ := h1 (by decide) (by decide)
    obtain rfl := block231 hp
    obtain ⟨B, d, rfl, hs⟩ := ho.sl_len (n := 3) rfl (by omega)
    exact ⟨B, d, rfl, hs, hb⟩
  have HM1 : ∀ (u : World) (A : Option Addr) (c : Nat), Sl u A 3 c [3, 2, 1] → Hid (Calls Try.prog 27 #[.slice A 3 c] u fun e w' => e = .returned (.tuple #[.int .i64 3, .int .i64 0]) ∧ Below u.heap.size u w') := fun u A c h => by
    refine (hM A 3 c _ u h).mono ?_
    rintro e w' ⟨m, x, rfl, _, h1, hb⟩
    obtain ⟨rfl, rfl⟩ := h1 (by decide)
    rw [show leastOf [3, 2, 1] = 3 from by decide]
    exact ⟨rfl, hb⟩
  have HR1 : ∀ (u : World) (A : Option Addr) (c : Nat), Sl u A 3 c [3, 2, 1] → Hid (Calls Try.prog 44 #[.slice A 3 c] u fun e w' => e = .returned (.tuple #[.int .i64 4, .int .i64 0]) ∧ Below u.heap.size u w') := fun u A c h => by
    refine (hR A 3 c _ u h).mono ?_
    rintro e w' ⟨m, x, rfl, _, _, h1, hb⟩
    obtain ⟨rfl, rfl⟩ := h1 (by decide) (by omega) (by decide)
    rw [show rankF 3 [3, 2, 1] 0 = 4 from by decide]
    exact ⟨rfl, hb⟩
  have HP1 : ∀ (u : World) (A : Option Addr) (c : Nat), Sl u A 3 c [2, 3, 1] → Hid (Calls Try.prog 45 #[.slice A 3 c] u fun e w' => ∃ B d, e = .returned (.tuple #[.slice B 3 d, .int .i64 0]) ∧ Sl w' B 3 d [2, 1, 3] ∧ Below u.heap.size u w') := fun u A c h => by
    refine (hP A 3 c _ u h).mono ?_
    rintro e w' ⟨v, x, l, rfl, ho, _, h1, hb⟩
    obtain ⟨rfl, rfl⟩ := h1 (by decide)
    rw [show passOf [2, 3, 1] = [2, 1, 3] from by decide] at ho
    obtain ⟨B, d, rfl, hs⟩ := ho.sl_len (n := 3) rfl (by omega)
    exact ⟨B, d, rfl, hs, hb⟩
  clear hS hM hR hP
  go_enter Try.func22, Try.ntmps22
  have H1 := HS1 _ _ _ (Sl.three w 3 2 1 3)
  clear HS1
  go_wp2_with (go_at_call 19; refine H1.out.mono ?_; clear H1; rintro e w1 ⟨B1, d1, rfl, hb1⟩)
  have H2 := HS2 _ _ _ (Sl.three w1 3 2 3 1)
  clear HS2
  go_wp2_with (go_at_call 19; refine H2.out.mono ?_; clear H2; rintro e w2 ⟨B2, d2, rfl, hc2, hb2⟩)
  go_wp2_with (go_at_call 27; refine (HM1 _ _ _ (Sl.three w2 3 3 2 1)).out.mono ?_; rintro e w3 ⟨rfl, hb3⟩)
  go_wp2_with (go_at_call 44; refine (HR1 _ _ _ (Sl.three w3 3 3 2 1)).out.mono ?_; rintro e w4 ⟨rfl, hb4⟩)
  go_wp2_with (go_at_call 45; refine (HP1 _ _ _ (Sl.three w4 3 2 3 1)).out.mono ?_; rintro e w5 ⟨B5, d5, rfl, hl5, hb5⟩)
  have hc3 := (hc2.alloc (.cells #[.int .i64 3, .int .i64 2, .int .i64 1] 3)).below hb3 (Nat.le_refl _)
  have hc4 := (hc3.alloc (.cells #[.int .i64 3, .int .i64 2, .int .i64 1] 3)).below hb4 (Nat.le_refl _)
  have hc5 := (hc4.alloc (.cells #[.int .i64 2, .int .i64 3, .int .i64 1] 3)).below hb5 (Nat.le_refl _)
  have HI := Lib.hid (ints_same B2 (some ⟨w5.heap.size, 0, none⟩) [0, 1, 2] 3 d2 3 _ rfl (by omega) (hc5.alloc (.cells #[.int .i64 0, .int .i64 1, .int .i64 2] 3)).rd (Sl.three w5 3 0 1 2).rd)
  go_wp2_with (go_at_call 42; refine HI.out.mono ?_; clear HI; rintro e w6 ⟨rfl, hd6⟩)
  have hb6 := hd6.below (w5.alloc (.cells #[.int .i64 0, .int .i64 1, .int .i64 2] 3)).heap.size
  have hl6 := (hl5.alloc (.cells #[.int .i64 0, .int .i64 1, .int .i64 2] 3)).below hb6 (Nat.le_refl _)
  have HJ := Lib.hid (ints_same B5 (some ⟨w6.heap.size, 0, none⟩) [2, 1, 3] 3 d5 3 _ rfl (by omega) (hl6.alloc (.cells #[.int .i64 2, .int .i64 1, .int .i64 3] 3)).rd (Sl.three w6 3 2 1 3).rd)
  go_wp2_with (go_at_call 42; refine HJ.out.mono ?_; clear HJ; rintro e w7 ⟨rfl, hd7⟩)
  go_ret
  have k1 : Kp w w1 := (Kp.fresh w _).call hb1
  have k2 := (k1.alloc _).call hb2
  have k3 := (k2.alloc _).call hb3
  have k4 := (k3.alloc _).call hb4
  have k5 := (k4.alloc _).call hb5
  have k6 := (k5.alloc _).call hb6
  exact ⟨rfl, (k6.alloc _).call (hd7.below _)⟩
end Go.Proofs.Ytmnnehpoaedifaa
/- Package shunt: awake answers true. -/
namespace Go.Proofs.Ytmnnehpoaedifaa
theorem awake_here : AwakeOk := awake_ok stack_ok least_ok rank_ok pass_ok
end Go.Proofs.Ytmnnehpoaedifaa
