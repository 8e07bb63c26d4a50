import Derived.Test.YtmbdjjkgjnemiaaT04
import Derived.Test.YtmbdjjkgjnemiaaT02
/- Layer 6: tables of bools; the greatest relation by removing pairs, mathematics. -/
namespace Go.Proofs.Ytmbdjjkgjnemiaa
open Go.RowKit
set_option linter.unusedVariables false

theorem Try.infoBool : (Try.prog.info? 4).map (fun i => (i.zero, i.size, i.bytes)) = some (some (.bool false), 1, 1) := by kernel_rfl
/-- The call owns the slice v of bools. -/
def Owl (w : World) (B : Nat) (v : Value) (vs : List Bool) : Prop := w.ownsRow B 4 1 v vs.length (vs.map Value.bool)
theorem Owl.cellAt {w : World} {B g n cap : Nat} {vs : List Bool} (h : Owl w B (.slice (some ⟨g, 0, none⟩) n cap) vs) (hn : vs.length = n) {k : Nat} (hk : k < n) : w.cell? ⟨g, k, none⟩ = some (.bool (vs[k]?.getD false)) := by
  subst hn
  have h' : w.ownsRow B 4 1 (.slice (some ⟨g, 0, none⟩) vs.length cap) vs.length (vs.map Value.bool) := h
  rw [h'.cellAt k (by omega), List.getElem?_map, List.getElem?_eq_getElem hk]
  rfl
theorem Owl.free {w : World} {B g n cap : Nat} {vs : List Bool} (h : Owl w B (.slice (some ⟨g, 0, none⟩) n cap) vs) (hn : vs.length = n) (k : Nat) : w.frozen? ⟨g, k, none⟩ = false := by
  subst hn
  have h' : w.ownsRow B 4 1 (.slice (some ⟨g, 0, none⟩) vs.length cap) vs.length (vs.map Value.bool) := h
  exact h'.frozenAt k
theorem Owl.put {w : World} {B g n cap : Nat} {vs : List Bool} (h : Owl w B (.slice (some ⟨g, 0, none⟩) n cap) vs) (hn : vs.length = n) (j : Nat) (x : Bool) :
    Owl (w.setCell ⟨g, j, none⟩ (.bool x)) B (.slice (some ⟨g, 0, none⟩) n cap) (vs.set j x) := by
  subst hn
  have h' : w.ownsRow B 4 1 (.slice (some ⟨g, 0, none⟩) vs.length cap) vs.length (vs.map Value.bool) := h
  have := (h'.stored j (.bool x)).1
  unfold Owl
  rw [List.length_set, List.map_set]
  exact this
theorem Owl.below {w w' : World} {B b : Nat} {v : Value} {zs : List Bool} (h : Owl w B v zs) (hb : Below b w w') (hB : w.heap.size ≤ b) : Owl w' B v zs :=
  World.ownsRow.kept (row := none) h ⟨hb.os, hb.tape, hb.output, hb.size, fun k hk _ => hb.block k (by omega)⟩ (by
    rcases hv : v.ownBlock with _ | k
    · exact .inl rfl
    · exact .inr (by simp))
theorem Owl.lt {w : World} {B : Nat} {v : Value} {zs : List Bool} (h : Owl w B v zs) {k : Nat} (hk : v.ownBlock = some k) : B ≤ k ∧ k < w.heap.size := World.ownsRow.lt h k hk
theorem makel_law {P : Program} (w : World) {ops : Array Oper} {rest : List Oper} {o : Oper} {a : Act} {Q : Exit → Act → World → Prop}
    (hg : o.guard = none) (l c : Operand) (t : TypeId) (hop : o.op = Op.makeSlice t l c)
    (B : Nat) (i : TypeInfo) (ht : P.underlying t = some (.slice 4)) (hI : P.info? 4 = some i ∧ i.zero = some (.bool false) ∧ i.size = 1 ∧ i.bytes = 1)
    (L C : Int) (n : Nat) (hl : a.eval l = .int .i64 L) (hc : a.eval c = .int .i64 C) (hL : L = (n : Int)) (hC : C = (n : Int)) (hn : n ≤ 2000000) (hB : B ≤ w.heap.size)
    (hK : ∀ w', Owl w' B (.slice (some ⟨w.heap.size, 0, none⟩) n n) (List.replicate n false) → w.grownBy w' none → wpList P ops Q rest (a.put o.dst (.slice (some ⟨w.heap.size, 0, none⟩) n n)) w') :
    wpList P ops Q (o :: rest) a w := by
  obtain ⟨h1, h2, h3, h4⟩ := hI
  refine wpList_make_full w hg l c t hop B 4 i _ 1 ht h1 h2 h3 .i64 .i64 L C n hl hc hL hC (by rw [h4]; omega) (by unfold maxLen; omega) hB fun w' ho hgr => hK w' ?_ hgr
  have hcs : (Value.bool false).cells = #[.bool false] := rfl
  rw [hcs, Nat.mul_one, toList_madeCells_one] at ho
  unfold Owl
  rw [List.length_replicate, show (List.replicate n false).map Value.bool = List.replicate n (.bool false) from by simp]
  exact ho
/-- Entry (i, j) of a table of n rows. -/
def tb (n : Nat) (vs : List Bool) (p : Pt) : Bool := vs[n * p.1 + p.2]?.getD false
theorem tix_lt {n : Nat} {p : Pt} (h : inP n p) : n * p.1 + p.2 < n * n := by
  have h1 : n * (p.1 + 1) ≤ n * n := Nat.mul_le_mul_left n h.1
  rw [Nat.mul_succ] at h1
  have := h.2
  omega
theorem tix_inj {n : Nat} {p q : Pt} (h : inP n p) (k : inP n q) (e : n * p.1 + p.2 = n * q.1 + q.2) : p = q := by
  have hn : 0 < n := by have := h.1; omega
  have d1 : (n * p.1 + p.2) / n = p.1 := by rw [Nat.mul_add_div hn, Nat.div_eq_of_lt h.2, Nat.add_zero]
  have d2 : (n * q.1 + q.2) / n = q.1 := by rw [Nat.mul_add_div hn, Nat.div_eq_of_lt k.2, Nat.add_zero]
  have e1 : p.1 = q.1 := by rw [← d1, ← d2, e]
  have e2 : p.2 = q.2 := by rw [e1] at e; omega
  exact Prod.ext e1 e2
theorem tb_set_same {n : Nat} {vs : List Bool} (hl : vs.length = n * n) {p : Pt} (h : inP n p) (x : Bool) : tb n (vs.set (n * p.1 + p.2) x) p = x := by
  unfold tb
  rw [List.getElem?_set_self (by rw [hl]; exact tix_lt h)]
  rfl
theorem tb_set_ne {n : Nat} {vs : List Bool} {p q : Pt} (h : inP n p) (k : inP n q) (hne : p ≠ q) (x : Bool) : tb n (vs.set (n * p.1 + p.2) x) q = tb n vs q := by
  unfold tb
  rw [List.getElem?_set_ne (fun e => hne (tix_inj h k e))]
theorem count_set : ∀ {vs : List Bool} {r : Nat}, vs[r]?.getD false = true → (vs.set r false).count true + 1 = vs.count true
  | [], r, h => by simp at h
  | v :: vs, 0, h => by
    simp at h
    subst h
    simp
  | v :: vs, r + 1, h => by
    simp at h
    have := count_set (vs := vs) (r := r) (by simpa using h)
    simp only [List.set_cons_succ, List.count_cons]
    omega
/-- p is visited before (i, j). -/
def Vis (i j : Nat) (p : Pt) : Prop := p.1 < i ∨ (p.1 = i ∧ p.2 < j)
section
variable (n : Nat) (ini : Pt → Bool) (prt : Pt → Option (Pt × Pt)) (S : Pt → Prop)
/-- S is the greatest relation that holds where ini does and its parts do. -/
structure Great : Prop where
  unf : ∀ p, S p → ini p = true ∧ ∀ a b, prt p = some (a, b) → S a ∧ S b
  coi : ∀ R : Pt → Prop, (∀ p, R p → ini p = true ∧ ∀ a b, prt p = some (a, b) → R a ∧ R b) → ∀ p, R p → S p
  inn : ∀ p, inP n p → ∀ a b, prt p = some (a, b) → inP n a ∧ inP n b
structure TbOk (vs : List Bool) : Prop where
  len : vs.length = n * n
  up : ∀ p, inP n p → S p → tb n vs p = true
  dn : ∀ p, inP n p → tb n vs p = true → ini p = true
structure TbP (ag : Bool) (vs : List Bool) (c0 i j : Nat) : Prop where
  ok : TbOk n ini S vs
  le : vs.count true ≤ c0
  lt : ag = true → vs.count true < c0
  cl : ag = false → ∀ p, inP n p → Vis i j p → tb n vs p = true → ∀ a b, prt p = some (a, b) → tb n vs a = true ∧ tb n vs b = true
/-- While the table is made. -/
structure TbI (vs : List Bool) (i j : Nat) : Prop where
  len : vs.length = n * n
  at_ : ∀ p, inP n p → Vis i j p → tb n vs p = ini p
end
section
variable {n : Nat} {ini : Pt → Bool} {prt : Pt → Option (Pt × Pt)} {S : Pt → Prop}
theorem TbI.start : TbI n ini (List.replicate (n * n) false) 0 0 := ⟨by simp, fun p _ h => by rcases h with h | ⟨_, h⟩ <;> exact absurd h (Nat.not_lt_zero _)⟩
theorem TbI.put {vs : List Bool} {i j : Nat} (h : TbI n ini vs i j) (hi : i < n) (hj : j < n) {x : Bool} (hx : x = ini (i, j)) : TbI n ini (vs.set (n * i + j) x) i (j + 1) := by
  refine ⟨by rw [List.length_set]; exact h.len, fun p hp hv => ?_⟩
  by_cases e : ((i, j) : Pt) = p
  · rw [← e, hx]
    exact tb_set_same h.len (p := (i, j)) ⟨hi, hj⟩ _
  · rw [tb_set_ne (p := (i, j)) ⟨hi, hj⟩ hp e]
    refine h.at_ p hp ?_
    rcases hv with hv | ⟨h1, h2⟩
    · exact .inl hv
    · refine .inr ⟨h1, ?_⟩
      have : p.2 ≠ j := fun e2 => e (Prod.ext h1.symm e2.symm)
      omega
theorem TbI.row {vs : List Bool} {i : Nat} (h : TbI n ini vs i n) : TbI n ini vs (i + 1) 0 := ⟨h.len, fun p hp hv => h.at_ p hp (by
  have := hp.2
  unfold Vis at hv ⊢
  omega)⟩
theorem TbI.done {vs : List Bool} (h : TbI n ini vs n 0) (hg : Great n ini prt S) : TbOk n ini S vs :=
  ⟨h.len, fun p hp hs => by rw [h.at_ p hp (.inl hp.1)]; exact (hg.unf p hs).1, fun p hp ht => by rw [h.at_ p hp (.inl hp.1)] at ht; exact ht⟩
theorem TbOk.pass {vs : List Bool} (h : TbOk n ini S vs) : TbP n ini prt S false vs (vs.count true) 0 0 := ⟨h, Nat.le_refl _, fun e => (by cases e), fun _ p _ hv => by rcases hv with hv | ⟨_, hv⟩ <;> exact absurd hv (Nat.not_lt_zero _)⟩
theorem TbP.row {ag : Bool} {vs : List Bool} {c0 i : Nat} (h : TbP n ini prt S ag vs c0 i n) : TbP n ini prt S ag vs c0 (i + 1) 0 := ⟨h.ok, h.le, h.lt, fun e p hp hv => h.cl e p hp (by
  have := hp.2
  unfold Vis at hv ⊢
  omega)⟩
theorem TbP.skip {ag : Bool} {vs : List Bool} {c0 i j : Nat} (h : TbP n ini prt S ag vs c0 i j) (hs : tb n vs (i, j) = true → ∀ a b, prt (i, j) = some (a, b) → tb n vs a = true ∧ tb n vs b = true) : TbP n ini prt S ag vs c0 i (j + 1) := ⟨h.ok, h.le, h.lt, fun e p hp hv ht => by
  by_cases e2 : p = (i, j)
  · subst e2; exact hs ht
  · refine h.cl e p hp ?_ ht
    rcases hv with hv | ⟨h1, h2⟩
    · exact .inl hv
    · refine .inr ⟨h1, ?_⟩
      have : p.2 ≠ j := fun e3 => e2 (Prod.ext h1 e3)
      omega⟩
theorem TbP.clear {ag : Bool} {vs : List Bool} {c0 i j : Nat} (h : TbP n ini prt S ag vs c0 i j) (hg : Great n ini prt S) (hi : i < n) (hj : j < n) (ht : tb n vs (i, j) = true) {a b : Pt} (hp : prt (i, j) = some (a, b)) (hn : ¬ (tb n vs a = true ∧ tb n vs b = true)) :
    TbP n ini prt S true (vs.set (n * i + j) false) c0 i (j + 1) := by
  have hin : inP n ((i, j) : Pt) := ⟨hi, hj⟩
  have hc := count_set (vs := vs) (r := n * i + j) ht
  refine ⟨⟨by rw [List.length_set]; exact h.ok.len, fun p hp' hs => ?_, fun p hp' ht' => ?_⟩, ?_, fun _ => ?_, fun e => (by cases e)⟩
  · by_cases e : ((i, j) : Pt) = p
    · exfalso
      rw [← e] at hs
      obtain ⟨ha, hb⟩ := (hg.unf _ hs).2 a b hp
      obtain ⟨ia, ib⟩ := hg.inn _ hin a b hp
      exact hn ⟨h.ok.up a ia ha, h.ok.up b ib hb⟩
    · rw [tb_set_ne (p := (i, j)) hin hp' e]
      exact h.ok.up p hp' hs
  · by_cases e : ((i, j) : Pt) = p
    · rw [← e, tb_set_same h.ok.len (p := (i, j)) hin] at ht'
      cases ht'
    · rw [tb_set_ne (p := (i, j)) hin hp' e] at ht'
      exact h.ok.dn p hp' ht'
  · have := h.le; omega
  · have := h.le; omega
theorem TbP.done {vs : List Bool} {c0 : Nat} (h : TbP n ini prt S false vs c0 n 0) (hg : Great n ini prt S) {p : Pt} (hp : inP n p) : tb n vs p = true ↔ S p := by
  refine ⟨fun ht => hg.coi (fun q => inP n q ∧ tb n vs q = true) (fun q hq => ⟨h.ok.dn q hq.1 hq.2, fun a b hab => ?_⟩) p ⟨hp, ht⟩, h.ok.up p hp⟩
  obtain ⟨ha, hb⟩ := h.cl rfl q hq.1 (.inl hq.1.1) hq.2 a b hab
  obtain ⟨ia, ib⟩ := hg.inn q hq.1 a b hab
  exact ⟨⟨ia, ha⟩, ib, hb⟩
end
/-- Subtypes as such a relation. -/
def iniS (N : List Nd) (p : Pt) : Bool := decide (jud N p ≠ 1)
def prtS (N : List Nd) (p : Pt) : Option (Pt × Pt) := if jud N p = 2 then some (pA N p, pB N p) else none
theorem prtS_some {N : List Nd} {p a b : Pt} (h : prtS N p = some (a, b)) : jud N p = 2 ∧ a = pA N p ∧ b = pB N p := by
  unfold prtS at h
  by_cases e : jud N p = 2
  · rw [if_pos e] at h
    injection h with h
    injection h with h1 h2
    exact ⟨e, h1.symm, h2.symm⟩
  · rw [if_neg e] at h; cases h
theorem great_sub {N : List Nd} {n : Nat} (hn : N.length = n) (hok : OkN N) : Great n (iniS N) (prtS N) (SubT N) := by
  subst hn
  refine ⟨fun p hs => ?_, fun R hR p hp => ⟨R, fun q hq => ?_, hp⟩, fun p hp a b h => ?_⟩
  · have h := subT_clo N p hs
    constructor
    · unfold iniS
      rw [decide_eq_true]
      rcases h with h | ⟨h, _⟩ <;> omega
    · intro a b hab
      obtain ⟨h2, rfl, rfl⟩ := prtS_some hab
      rcases h with h | ⟨_, h⟩
      · omega
      · exact h
  · obtain ⟨h1, h2⟩ := hR q hq
    have h1 : jud N q ≠ 1 := of_decide_eq_true h1
    rcases jud_lt N q with h | h | h
    · exact .inl h
    · exact absurd h h1
    · exact .inr ⟨h, h2 _ _ (by unfold prtS; rw [if_pos h])⟩
  · obtain ⟨_, rfl, rfl⟩ := prtS_some h
    exact ⟨hok.pA hp, hok.pB hp⟩
end Go.Proofs.Ytmbdjjkgjnemiaa
/- Layer 6: tables in memory. -/
namespace Go.Proofs.Ytmbdjjkgjnemiaa
open Go.RowKit
set_option linter.unusedVariables false

/-- Between two passes. -/
structure TbQ (n : Nat) (ini : Pt → Bool) (S : Pt → Prop) (b : Bool) (vs : List Bool) : Prop where
  ok : TbOk n ini S vs
  fin : b = false → ∀ p, inP n p → (tb n vs p = true ↔ S p)
/-- The table in memory at a pair. -/
theorem Owl.tb_at {w : World} {B g n q cap : Nat} {vs : List Bool} (h : Owl w B (.slice (some ⟨g, 0, none⟩) q cap) vs) (hl : vs.length = q) (hq : q = n * n) {i j m : Nat} (hi : i < n) (hj : j < n) (hm : m = n * i) :
    w.cell? ⟨g, m + j, none⟩ = some (.bool (tb n vs (i, j))) ∧ m + j < q := by
  subst hm
  have hlt : n * i + j < q := by rw [hq]; exact tix_lt (p := (i, j)) ⟨hi, hj⟩
  exact ⟨h.cellAt hl hlt, hlt⟩
end Go.Proofs.Ytmbdjjkgjnemiaa
