import Derived.Test.YtmbdjjkgjnemiaaT05
import Derived.Test.YtmbdjjkgjnemiaaT11
/- Layer 6, mathematics: being a subtype is an order; equal trees. -/
namespace Go.Proofs.Ytmbdjjkgjnemiaa
open Go.RowKit
set_option linter.unusedVariables false

theorem judX_cases {x y : Nd} (h : judX x y = 0 ∨ judX x y = 2) : x.k = 0 ∨ y.k = 1 ∨ x.k = y.k := by
  unfold judX at h
  by_cases h0 : x.k = 0 ∨ y.k = 1
  · rcases h0 with h0 | h0
    · exact .inl h0
    · exact .inr (.inl h0)
  · rw [if_neg h0] at h
    by_cases h1 : x.k ≠ y.k
    · rw [if_pos h1] at h; omega
    · exact .inr (.inr (by omega))
theorem judX_val (x y : Nd) : (judX x y = 0 ∧ (x.k = 0 ∨ y.k = 1)) ∨ (judX x y = 1 ∧ x.k ≠ 0 ∧ y.k ≠ 1 ∧ x.k ≠ y.k) ∨ (judX x y = 2 ∧ x.k ≠ 0 ∧ y.k ≠ 1 ∧ x.k = y.k ∧ 4 ≤ x.k) ∨ (judX x y = 0 ∧ x.k ≠ 0 ∧ y.k ≠ 1 ∧ x.k = y.k ∧ x.k < 4) := by
  unfold judX
  by_cases h0 : x.k = 0 ∨ y.k = 1
  · rw [if_pos h0]; exact .inl ⟨rfl, h0⟩
  · rw [if_neg h0]
    by_cases h1 : x.k ≠ y.k
    · rw [if_pos h1]; exact .inr (.inl ⟨rfl, by omega, by omega, h1⟩)
    · rw [if_neg h1]
      by_cases h4 : 4 ≤ x.k
      · rw [if_pos h4]; exact .inr (.inr (.inl ⟨rfl, by omega, by omega, by omega, h4⟩))
      · rw [if_neg h4]; exact .inr (.inr (.inr ⟨rfl, by omega, by omega, by omega, by omega⟩))
/-- Stp, by kinds. -/
theorem stp_iff {N : List Nd} {R : Pt → Prop} {i j : Nat} : Stp N R (i, j) ↔ (nd N i).k = 0 ∨ (nd N j).k = 1 ∨ ((nd N i).k = (nd N j).k ∧ ((nd N i).k < 4 ∨ (R (pA N (i, j)) ∧ R (pB N (i, j))))) := by
  unfold Stp jud
  have hv := judX_val (nd N i) (nd N j)
  constructor
  · rintro (h | ⟨h, h2, h3⟩)
    · rcases hv with ⟨_, h1⟩ | ⟨e, _⟩ | ⟨e, _⟩ | ⟨_, _, _, h1, h2⟩
      · rcases h1 with h1 | h1
        · exact .inl h1
        · exact .inr (.inl h1)
      · have h : judX (nd N i) (nd N j) = 0 := h
        omega
      · have h : judX (nd N i) (nd N j) = 0 := h
        omega
      · exact .inr (.inr ⟨h1, .inl h2⟩)
    · rcases hv with ⟨e, _⟩ | ⟨e, _⟩ | ⟨_, _, _, h1, _⟩ | ⟨e, _⟩
      · have h : judX (nd N i) (nd N j) = 2 := h
        omega
      · have h : judX (nd N i) (nd N j) = 2 := h
        omega
      · exact .inr (.inr ⟨h1, .inr ⟨h2, h3⟩⟩)
      · have h : judX (nd N i) (nd N j) = 2 := h
        omega
  · intro h
    rcases hv with ⟨e, _⟩ | ⟨e, g0, g1, g2⟩ | ⟨e, g0, g1, g2, g4⟩ | ⟨e, _⟩
    · exact .inl e
    · rcases h with h | h | ⟨h, _⟩
      · exact absurd h g0
      · exact absurd h g1
      · exact absurd h g2
    · rcases h with h | h | ⟨_, h | h⟩
      · exact absurd h g0
      · exact absurd h g1
      · omega
      · exact .inr ⟨e, h⟩
    · exact .inl e
theorem pA_five {N : List Nd} {i j : Nat} (h : (nd N i).k = 5) : pA N (i, j) = ((nd N j).a, (nd N i).a) := if_pos h
theorem pA_four {N : List Nd} {i j : Nat} (h : (nd N i).k ≠ 5) : pA N (i, j) = ((nd N i).a, (nd N j).a) := if_neg h
theorem subT_refl (N : List Nd) (i : Nat) : SubT N (i, i) := ⟨fun p => p.1 = p.2, fun p hp => by
  obtain ⟨x, y⟩ := p
  have hp : x = y := hp
  subst hp
  refine stp_iff.2 (.inr (.inr ⟨rfl, .inr ⟨?_, rfl⟩⟩))
  by_cases h : (nd N x).k = 5
  · rw [pA_five h]
  · rw [pA_four h], rfl⟩
theorem subT_trans {N : List Nd} {i j k : Nat} (h : SubT N (i, j)) (h' : SubT N (j, k)) : SubT N (i, k) := ⟨fun p => ∃ m, SubT N (p.1, m) ∧ SubT N (m, p.2), fun p ⟨m, h1, h2⟩ => by
  obtain ⟨x, y⟩ := p
  have h1 : SubT N (x, m) := h1
  have h2 : SubT N (m, y) := h2
  have s1 := stp_iff.1 (subT_clo N _ h1)
  have s2 := stp_iff.1 (subT_clo N _ h2)
  refine stp_iff.2 ?_
  rcases s1 with e | e | ⟨e, r1⟩
  · exact .inl e
  · rcases s2 with f | f | ⟨f, _⟩
    · omega
    · exact .inr (.inl f)
    · exact .inr (.inl (by omega))
  · rcases s2 with f | f | ⟨f, r2⟩
    · exact .inl (by omega)
    · exact .inr (.inl f)
    · refine .inr (.inr ⟨e.trans f, ?_⟩)
      rcases r1 with r1 | ⟨a1, b1⟩
      · exact .inl r1
      · rcases r2 with r2 | ⟨a2, b2⟩
        · exact .inl (by omega)
        · right
          refine ⟨?_, ⟨_, b1, b2⟩⟩
          by_cases h5 : (nd N x).k = 5
          · rw [pA_five h5] at a1 ⊢
            rw [pA_five (by omega)] at a2
            exact ⟨_, a2, a1⟩
          · rw [pA_four h5] at a1 ⊢
            rw [pA_four (by omega)] at a2
            exact ⟨_, a1, a2⟩, ⟨j, h, h'⟩⟩
theorem subT_of_eq {N : List Nd} {i j : Nat} (h : EqT N (i, j)) : SubT N (i, j) := ⟨fun p => EqT N p, fun p hp => by
  obtain ⟨x, y⟩ := p
  have hp : EqT N (x, y) := hp
  obtain ⟨hk, h4⟩ := eqT_clo N _ hp
  refine stp_iff.2 (.inr (.inr ⟨hk, h4.imp id fun ⟨ha, hb⟩ => ⟨?_, hb⟩⟩))
  by_cases h5 : (nd N x).k = 5
  · rw [pA_five h5]; exact eqT_symm ha
  · rw [pA_four h5]; exact ha, h⟩
theorem eqT_of_sub {N : List Nd} {i j : Nat} (h : SubT N (i, j)) (h' : SubT N (j, i)) : EqT N (i, j) := ⟨fun p => SubT N p ∧ SubT N (p.2, p.1), fun p ⟨h1, h2⟩ => by
  obtain ⟨x, y⟩ := p
  have h1 : SubT N (x, y) := h1
  have h2 : SubT N (y, x) := h2
  have s1 := stp_iff.1 (subT_clo N _ h1)
  have s2 := stp_iff.1 (subT_clo N _ h2)
  have hk : (nd N x).k = (nd N y).k := by
    rcases s1 with e | e | ⟨e, _⟩
    · rcases s2 with f | f | ⟨f, _⟩ <;> omega
    · rcases s2 with f | f | ⟨f, _⟩ <;> omega
    · exact e
  refine ⟨hk, ?_⟩
  by_cases h4 : (nd N x).k < 4
  · exact .inl h4
  · right
    have r1 : SubT N (pA N (x, y)) ∧ SubT N (pB N (x, y)) := by
      rcases s1 with e | e | ⟨_, e | e⟩
      · omega
      · omega
      · omega
      · exact e
    have r2 : SubT N (pA N (y, x)) ∧ SubT N (pB N (y, x)) := by
      rcases s2 with e | e | ⟨_, e | e⟩
      · omega
      · omega
      · omega
      · exact e
    refine ⟨?_, r1.2, r2.2⟩
    by_cases h5 : (nd N x).k = 5
    · rw [pA_five h5] at r1
      rw [pA_five (by omega)] at r2
      exact ⟨r2.1, r1.1⟩
    · rw [pA_four h5] at r1
      rw [pA_four (by omega)] at r2
      exact ⟨r1.1, r2.1⟩, ⟨h, h'⟩⟩
theorem subT_none {N : List Nd} {i j : Nat} (h : (nd N i).k = 0) : SubT N (i, j) := subT_iff.2 (stp_iff.2 (.inl h))
theorem subT_all {N : List Nd} {i j : Nat} (h : (nd N j).k = 1) : SubT N (i, j) := subT_iff.2 (stp_iff.2 (.inr (.inl h)))
end Go.Proofs.Ytmbdjjkgjnemiaa
/- Layer 6: the law's package: sub; two more nodes. -/
namespace Go.Proofs.Ytmbdjjkgjnemiaa
open Go.RowKit
set_option linter.unusedVariables false

set_option maxHeartbeats 1600000 in
theorem lsub_is (N : List Nd) (A : Option Addr) (n c p q : Nat) (b : Bool) (w : World) (hN : Nl w A n c N) (hok : OkN N) (h24 : n ≤ 24) (hp : p < n) (hq : q < n) (hb : b = true ↔ SubT N (p, q)) :
    Calls Try.prog 38 #[.slice A n c, .int .i64 (p : Int), .int .i64 (q : Int)] w fun e w' => e = .returned (.tuple #[.bool b, .bool true]) ∧ Below w.heap.size w w' := by
  have hl := hN.len
  have HS : Hid (Calls Try.prog 16 #[.slice A n c, .int .i64 (p : Int), .int .i64 (q : Int)] w fun e w' => (∃ X m d t, e = .returned (.tuple #[.agg #[.bool b, .slice X m d, .string t], .int .i64 0])) ∧ Below w.heap.size w w') := by
    refine (sub_any (upN N) A n c p q w (hN.tl (by omega)) (valB_up hok (by omega)) hp hq).mono ?_
    rintro e w' ⟨⟨b', X, m, d, t, rfl, h⟩, hbl⟩
    rw [toN_up] at h
    have : b' = b := by
      rw [Bool.eq_iff_iff]
      exact h.holds.trans hb.symm
    rw [this]
    exact ⟨⟨X, m, d, t, rfl⟩, hbl⟩
  clear hN hok hb
  go_enter Try.func38, Try.ntmps38
  go_wp2_with (go_at_call 16; refine HS.out.mono ?_; rintro e w1 ⟨⟨X, m, d, t, rfl⟩, hb1⟩)
  go_ret2
  exact ⟨rfl, hb1.alloc hb1.size _⟩
theorem push3two_at {P : Program} (w : World) {ops : Array Oper} {rest : List Oper} {o : Oper} {a : Act} {Q : Exit → Act → World → Prop} (hgd : o.guard = none) (s x : Operand) (t : TypeId)
    (ho : o.op = .call { callee := .builtin .append, args := #[s, x], argTypes := #[t, t] })
    (B : Nat) (i : TypeInfo) (ht : P.underlying t = some (.slice 59)) (hI : P.info? 59 = some i ∧ i.zero = some (.agg #[.int .i64 0, .int .i64 0, .int .i64 0]) ∧ i.size = 3 ∧ i.bytes = 24)
    (v : Value) (N : List Nd) (gb : Nat) (hs : a.eval s = v) (hx : a.eval x = .slice (some ⟨gb, 0, none⟩) 2 2) (hgb : w.heap.size = gb) (hown : Ow3 w B v N) (hn : N.length ≤ 1099511627776) (hB : B ≤ w.heap.size)
    (h : ∀ v' w', Ow3 w' B v' (N ++ [⟨0, 0, 0⟩, ⟨1, 0, 0⟩]) → w.grownBy w' v.ownBlock → wpList P ops Q rest (a.put o.dst v') w') :
    wpList P ops Q (o :: rest) a (w.alloc (.cells #[.int .i64 0, .int .i64 0, .int .i64 0, .int .i64 1, .int .i64 0, .int .i64 0] 59)) := by
  subst hgb
  obtain ⟨h1, h2, h3, h4⟩ := hI
  refine wpList_append_own_at _ hgd s x t ho B 59 i _ 3 24 ht h1 h2 h3 h4 rfl (by decide) v N.length (ndC N) hs (hown.alloc _) ⟨w.heap.size, 0, none⟩ 2 2 [.int .i64 0, .int .i64 0, .int .i64 0, .int .i64 1, .int .i64 0, .int .i64 0] hx rfl ?_ ?_ (by unfold maxLen; omega) (by omega) (by simp; omega) ?_
  · intro j u hu
    match j, hu with
    | 0, hu => simp at hu; subst hu; simp [Addr.add]
    | 1, hu => simp at hu; subst hu; simp [Addr.add]
    | 2, hu => simp at hu; subst hu; simp [Addr.add]
    | 3, hu => simp at hu; subst hu; simp [Addr.add]
    | 4, hu => simp at hu; subst hu; simp [Addr.add]
    | 5, hu => simp at hu; subst hu; simp [Addr.add]
  · intro u hu
    simp at hu
    rcases hu with rfl | rfl | rfl <;> rfl
  · intro v' w' ho' hg' _ hat
    refine h v' w' ?_ (grown_alloc hg')
    unfold Ow3
    rw [List.length_append, show ndC (N ++ [⟨0, 0, 0⟩, ⟨1, 0, 0⟩]) = ndC N ++ [.int .i64 0, .int .i64 0, .int .i64 0, .int .i64 1, .int .i64 0, .int .i64 0] from by simp [ndC]]
    exact ho'
theorem nd_append_left {N M : List Nd} {i : Nat} (h : i < N.length) : nd (N ++ M) i = nd N i := by unfold nd; rw [List.getElem?_append_left h]
/-- none and all behind the nodes. -/
theorem two_ok {N : List Nd} (h : OkN N) : OkN (N ++ [⟨0, 0, 0⟩, ⟨1, 0, 0⟩]) ∧ (nd (N ++ [⟨0, 0, 0⟩, ⟨1, 0, 0⟩]) N.length).k = 0 ∧ (nd (N ++ [⟨0, 0, 0⟩, ⟨1, 0, 0⟩]) (N.length + 1)).k = 1 := by
  refine ⟨okN_of (n := N.length + 2) (by simp) (by omega) fun x hx => ?_, by simp [nd], by simp [nd]⟩
  rcases List.mem_append.1 hx with hx | hx
  · obtain ⟨i, hi, e⟩ := List.mem_iff_getElem.1 hx
    have e' : nd N i = x := by unfold nd; rw [List.getElem?_eq_getElem hi]; exact e
    rw [← e']
    exact ⟨h.kind i hi, h.leaf i hi, by have := h.a i hi; omega, by have := h.b i hi; omega⟩
  · rcases List.mem_cons.1 hx with rfl | hx
    · exact ⟨by show 0 < 6; omega, fun _ => ⟨rfl, rfl⟩, by show 0 < _; omega, by show 0 < _; omega⟩
    · rw [List.mem_singleton.1 hx]
      exact ⟨by show 1 < 6; omega, fun _ => ⟨rfl, rfl⟩, by show 0 < _; omega, by show 0 < _; omega⟩
end Go.Proofs.Ytmbdjjkgjnemiaa
