import Derived.Test.YtfeohcknopdamaaT36
import Derived.Test.YtfeohcknopdamaaT25
/- Layer 10: Order, Turn, case by case; pairs that are compared. -/
namespace Go.Proofs.Ytfeohcknopdamaa
open Go.RowKit
set_option linter.unusedVariables false

theorem order_bad (n a : Int) (w : World) (h : (in18 n && posB a ((fac n.toNat : Nat) : Int)) = false) : Calls Try.prog 30 #[.int .i64 n, .int .i64 a] w fun e w' => e = .returned (.tuple #[.slice none 0 0, .int .i64 2]) ∧ Below w.heap.size w w' := by
  refine (orderP_any n a w).mono ?_
  rintro e w' hh
  rw [if_neg (by rw [h]; decide)] at hh
  exact hh
theorem order_ok (N a : Nat) (w : World) (hN : N ≤ 18) (ha : a < fac N) : Calls Try.prog 30 #[.int .i64 (N : Int), .int .i64 (a : Int)] w fun e w' => (∃ A' c', e = .returned (.tuple #[.slice A' N c', .int .i64 0]) ∧ Sl w' A' N c' (oN N a)) ∧ Below w.heap.size w w' := by
  refine (orderP_any N a w).mono ?_
  rintro e w' hh
  rw [Int.toNat_natCast, if_pos (by rw [in18, posB, decide_eq_true (by omega), decide_eq_true (by omega), decide_eq_true (by omega), decide_eq_true (by omega)]; rfl), Int.toNat_natCast] at hh
  obtain ⟨⟨v, rfl, hv⟩, hb⟩ := hh
  obtain ⟨A', c', rfl, hs⟩ := hv.sl_len (oN_len N a) (by omega)
  exact ⟨⟨A', c', rfl, hs⟩, hb⟩
theorem orderR_ok (N a : Nat) (w : World) (hN : N ≤ 18) (ha : a < fac N) : Calls Try.prog 34 #[.int .i64 (N : Int), .int .i64 (a : Int)] w fun e w' => (∃ A' c', e = .returned (.slice A' N c') ∧ Sl w' A' N c' (oN N a)) ∧ Below w.heap.size w w' := by
  refine (orderR_any N a w hN ha).mono ?_
  rintro e w' ⟨⟨v, rfl, hv⟩, hb⟩
  obtain ⟨A', c', rfl, hs⟩ := hv.sl_len (oN_len N a) (by omega)
  exact ⟨⟨A', c', rfl, hs⟩, hb⟩
theorem run_size3 (w : World) : (sizeOf 3).run Try.prog w = .ok 1 w := by kernel_rfl
theorem run_part0 (w : World) (p q : Int) : (part 3 #[.int .i64 p, .int .i64 q] 0).run Try.prog w = .ok (.int .i64 p) w := by kernel_rfl
theorem run_part1 (w : World) (p q : Int) : (part 3 #[.int .i64 p, .int .i64 q] 1).run Try.prog w = .ok (.int .i64 q) w := by kernel_rfl
theorem run_equalIn_pair (w : World) (d : Nat) (p q : Int) : (Op.equalIn (d + 2) 35 (.agg #[.int .i64 p, .int .i64 q]) (.agg #[.int .i64 p, .int .i64 q])).run Try.prog w = .ok true w := by
  rw [Op.equalIn]
  simp only [Sem.run_bind, run_underlying Try.underlying35, Result.andThen_ok, run_size3]
  simp [Std.Legacy.Range.forIn_eq_forIn_range', show List.range' 0 2 = [0, 1] from rfl, List.forIn_cons, run_part0, run_part1, run_equalIn_int w d 3 .i64 .i64 _ _ Try.underlying3, Result.andThen]
theorem run_eql_pair (w : World) (p q : Int) : (binOp .eql 35 (.agg #[.int .i64 p, .int .i64 q]) (.agg #[.int .i64 p, .int .i64 q])).run Try.prog w = .ok (.bool true) w := by
  simp only [binOp]
  simp [Op.equal, Op.maxDepth, run_equalIn_pair w 9998 p q]
theorem Bx2.c0 {w : World} {g : Nat} {x y : Int} (h : Bx2 w g x y) : w.cell? ⟨g, 0, none⟩ = some (.int .i64 x) := by rw [cell_of_row _ _ _ _ _ _ h]; rfl
theorem Bx2.c1 {w : World} {g : Nat} {x y : Int} (h : Bx2 w g x y) : w.cell? ⟨g, 1, none⟩ = some (.int .i64 y) := by rw [cell_of_row _ _ _ _ _ _ h]; rfl
theorem turn_bad (zs : List Int) (A : Option Addr) (n c : Nat) (w : World) (hs : Sl w A n c zs) (h : ordB zs = false) : Calls Try.prog 32 #[.slice A n c] w fun e w' => e = .returned (.tuple #[.agg #[.int .i64 0, .int .i64 0], .int .i64 2]) ∧ Below w.heap.size w w' := turnP_bad zs A n c w hs h
/-- Both Turns give the same pair. -/
def TurnsTo (n : Nat) (zs : List Int) (x y : Int) : Prop :=
  (∀ V A c, Sl V A n c zs → Calls Try.prog 32 #[.slice A n c] V fun e w' => e = .returned (.tuple #[.agg #[.int .i64 x, .int .i64 y], .int .i64 0]) ∧ Below V.heap.size V w') ∧
  (∀ V A c, Sl V A n c zs → Calls Try.prog 37 #[.slice A n c] V fun e w' => e = .returned (.agg #[.int .i64 x, .int .i64 y]) ∧ Below V.heap.size V w')
theorem turns_last {n : Nat} {zs : List Int} (ho : OrP n zs) (hn : n ≤ 18) (hr : rkO n zs + 1 = fac n) : TurnsTo n zs (-1) (-1) :=
  ⟨fun V A c hs => turnP_ok zs (-1) (-1) A n c V hs ho hn fun W hW => turn_last zs A n c W hW ho hn hr, fun V A c hs => turnR_last zs A n c V hs ho hn hr⟩
theorem turns_next {n t : Nat} {zs : List Int} (ho : OrP n zs) (hn : n ≤ 18) (hr : rkO n zs + 1 < fac n) (ht : Swp zs (oN n (rkO n zs + 1)) t) : TurnsTo n zs (t : Int) ((t : Int) + 1) :=
  ⟨fun V A c hs => turnP_ok zs (t : Int) ((t : Int) + 1) A n c V hs ho hn fun W hW => turn_next zs t A n c W hW ho hn hr ht, fun V A c hs => turnR_next zs t A n c V hs ho hn hr ht⟩
theorem turns_any {n : Nat} {zs : List Int} (ho : OrP n zs) (hn : n ≤ 18) : ∃ x y, TurnsTo n zs x y := by
  obtain ⟨h1, h2⟩ := oN_rkO n zs ho
  by_cases hr : rkO n zs + 1 = fac n
  · exact ⟨_, _, turns_last ho hn hr⟩
  · have hr2 : rkO n zs + 1 < fac n := by omega
    obtain ⟨t, ht⟩ := oN_step n (rkO n zs) hr2
    rw [h1] at ht
    exact ⟨_, _, turns_next ho hn hr2 ht⟩
end Go.Proofs.Ytfeohcknopdamaa
