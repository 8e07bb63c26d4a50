import Derived.Test.YtkemcmeagnggeaaT04
import Derived.KernelRfl
import Derived.Maps.OwnOps
import Derived.Maps.OwnSet
import Derived.Maps.OwnRows
import Derived.DeepKeys4
import Derived.WideKeyPair
import Derived.WideKeyArr2
import Derived.ArgAppend
/- Layer 3: maps that the call makes, keyed by pairs or arrays of small numbers, as functions. -/
namespace Go.Proofs.Ytkemcmeagnggeaa
open Go.RowKit Go.Maps Go.ChangeShapes Go.WideMaps
open Go.WideElems (Fit rd rg pl rd_val elemAt)
set_option linter.unusedVariables false

theorem Try.laidOut : laidOutB Try.prog = true := by kernel_rfl
theorem widePair : (match Try.prog.underlying 80 with | some (.array _ _) | some (.struct _) => true | _ => false) = true := by kernel_rfl
theorem rowPair : (80 : TypeId) < Try.prog.types.size := of_decide_eq_true (by kernel_rfl)
set_option maxRecDepth 100000 in
theorem keyPair : Keyed Try.prog 80 := Keyed.of_law (deep_law_laid Try.laidOut (m := 2) (by omega) rowPair (by kernel_rfl) widePair)
set_option maxRecDepth 100000 in
theorem keyTypePair : Try.prog.keyType 80 = true := by kernel_rfl
theorem cellsPair : Try.prog.cellsOf 80 = 2 := by kernel_rfl
theorem cellsInt : Try.prog.cellsOf 3 = 1 := by kernel_rfl
theorem wfNat {k : Nat} (h : k ≤ 1099511627776) : (Lit.int .i64 (k : Int)).wf = true := WalkArith.wf_i64 (by omega)
set_option maxRecDepth 100000 in
theorem keyOfPair {p q : Nat} (hp : p ≤ 1000) (hq : q ≤ 1000) : keyOf Try.prog 80 (.agg #[.int .i64 (p : Int), .int .i64 (q : Int)]) = some (.string (keyBytes [.int .i64 (p : Int), .int .i64 (q : Int)])) := by
  have wa := wfNat (k := p) (by omega)
  have wb := wfNat (k := q) (by omega)
  unfold keyOf
  simp only [Try.underlying80]
  rw [if_pos (by simp [keyTypePair, Value.formed, Try.underlying80, cellsPair])]
  obtain ⟨m, hm⟩ : ∃ m, Try.prog.types.size + 1 = m + 1 + 1 := ⟨Try.prog.types.size - 1, by have h : 0 < Try.prog.types.size := Nat.lt_of_le_of_lt (Nat.zero_le _) rowPair; omega⟩
  rw [hm]
  unfold Program.keyLits
  simp only [Try.underlying80]
  rw [if_pos (by rw [cellsPair]; exact ⟨rfl, by simp⟩)]
  simp [Program.keyLits, cellsInt, Try.underlying3, Value.cells, wa, wb]

/-- Keys of one type, each a value and its letter. -/
structure KeyEnc (kt : TypeId) (S : Type) where
  kv : S → Value
  kl : S → Lit
  ok : S → Prop
  keyed : Keyed Try.prog kt
  key : ∀ x, ok x → keyOf Try.prog kt (kv x) = some (kl x)
  inj : ∀ x y, ok x → ok y → kv x = kv y → x = y
theorem KeyEnc.lit {kt : TypeId} {S : Type} (E : KeyEnc kt S) {x : S} (h : E.ok x) : WideAt.IsKeyLit (E.kl x) := E.keyed.key (E.key x h)
theorem KeyEnc.ne {kt : TypeId} {S : Type} (E : KeyEnc kt S) {x y : S} (hx : E.ok x) (hy : E.ok y) (h : x ≠ y) : E.kl x ≠ E.kl y := fun e => by
  have h1 := E.key x hx
  rw [e] at h1
  exact h (E.inj x y hx hy (E.keyed.inj h1 (E.key y hy)))
/-- Pairs of numbers up to 1000. -/
def encPair : KeyEnc 80 (Nat × Nat) where
  kv x := .agg #[.int .i64 (x.1 : Int), .int .i64 (x.2 : Int)]
  kl x := .string (keyBytes [.int .i64 (x.1 : Int), .int .i64 (x.2 : Int)])
  ok x := x.1 ≤ 1000 ∧ x.2 ≤ 1000
  keyed := keyPair
  key x h := keyOfPair h.1 h.2
  inj x y _ _ h := by
    injection h with h
    injection h with h
    injection h with h1 h2
    injection h2 with h2 _
    injection h1 with _ h1
    injection h2 with _ h2
    exact Prod.ext (by omega) (by omega)

section
variable {kt : TypeId} {S : Type} (E : KeyEnc kt S)
/-- The datum holds at each key what f says. -/
def Rdk (D : DataW Unit) (f : S → Option Lit) : Prop := IsMap D ∧ ∀ x, E.ok x → Maps.has D (E.kl x) = (f x).isSome ∧ ∀ z, D.atKey (E.kl x) z = ((f x).map DataW.lit).getD z
def putK [DecidableEq S] (f : S → Option Lit) (x : S) (l : Lit) : S → Option Lit := fun k => if k = x then some l else f k
theorem Rdk.empty : Rdk E (.map []) (fun _ => none) := ⟨isMap_empty, fun _ _ => ⟨rfl, fun _ => rfl⟩⟩
theorem Rdk.put [DecidableEq S] {D : DataW Unit} {f : S → Option Lit} (h : Rdk E D f) {x : S} (hx : E.ok x) (l : Lit) : Rdk E (D.put (E.kl x) (.lit l)) (putK f x l) := by
  refine ⟨h.1.put _ _, fun k hk => ?_⟩
  unfold putK
  by_cases e : k = x
  · subst e
    rw [if_pos rfl]
    exact ⟨has_put_same h.1 (E.lit hk) _, fun z => atKey_put_same h.1 (E.lit hk) _ z⟩
  · have hne := E.ne hk hx e
    rw [if_neg e]
    exact ⟨(has_put_other hne _).trans (h.2 k hk).1, fun z => (atKey_put_other hne _ z).trans ((h.2 k hk).2 z)⟩
/-- Block b is a map to elements of the plain type e, of at most n entries, that holds what f says. -/
def KM (w : World) (e : TypeId) (b n : Nat) (f : S → Option Lit) : Prop := ∃ D : DataW Unit, w.ownsMap Try.prog kt (plainElem (H := Unit) Try.prog e) b n D ∧ Rdk E D f
theorem KM.made (w : World) (e : TypeId) : KM E (w.alloc (.map #[] 0)) e w.heap.size 0 (fun _ => none) := ⟨_, World.ownsMap_made _ _ _ _, Rdk.empty E⟩
variable {E}
theorem KM.lt {w : World} {e : TypeId} {b n : Nat} {f : S → Option Lit} (h : KM E w e b n f) : b < w.heap.size := by obtain ⟨D, h, _⟩ := h; exact h.lt
theorem KM.heap {w w' : World} {e : TypeId} {b n : Nat} {f : S → Option Lit} (h : KM E w e b n f) (hb : w'.heap[b]? = w.heap[b]?) : KM E w' e b n f := by
  obtain ⟨D, ⟨es, clock, h1, h2⟩, hr⟩ := h
  exact ⟨D, ⟨es, clock, hb.trans h1, h2⟩, hr⟩
theorem KM.below {w w' : World} {B : Nat} {e : TypeId} {b n : Nat} {f : S → Option Lit} (h : KM E w e b n f) (k : Below B w w') (hb : b < B) : KM E w' e b n f := h.heap (k.block b hb)
theorem KM.alloc {w : World} {e : TypeId} {b n : Nat} {f : S → Option Lit} (h : KM E w e b n f) (o : Obj) : KM E (w.alloc o) e b n f := by
  obtain ⟨D, h, hr⟩ := h
  exact ⟨D, h.alloc o, hr⟩
theorem KM.grown {w w' : World} {e : TypeId} {b n : Nat} {f : S → Option Lit} {r : Option Nat} (h : KM E w e b n f) (k : World.grownBy w w' r) (hb : some b ≠ r) : KM E w' e b n f := h.heap (k.block b h.lt hb)
theorem KM.mono {w : World} {e : TypeId} {b n m : Nat} {f : S → Option Lit} (h : KM E w e b n f) (hm : n ≤ m) : KM E w e b m f := by
  obtain ⟨D, h, hr⟩ := h
  exact ⟨D, h.mono hm, hr⟩
theorem zeroI (w : World) : (zeroValue 3).run Try.prog w = .ok (.int .i64 0) w := by kernel_rfl
theorem zeroB (w : World) : (zeroValue 4).run Try.prog w = .ok (.bool false) w := by kernel_rfl
theorem plainElem_bool_inv {P : Program} {e : TypeId} (he : P.underlying e = some .bool) {v : Value} {z : DataW Unit × List MemPlace} (h : plainElem P e v = some z) : ∃ x, v = .bool x ∧ z = (.lit (.bool x), []) := by
  unfold plainElem at h
  rw [he] at h
  cases v <;> simp at h
  exact ⟨_, rfl, h.symm⟩
variable (w : World) {ops : Array Oper} {rest : List Oper} {o : Oper} {a : Act} {Q : Exit → Act → World → Prop}
set_option maxRecDepth 100000 in
/-- 'm[k]' at bools. -/
theorem run_lookB (t : TypeId) (ht : Try.prog.underlying t = some (.map kt 4)) (b n : Nat) (f : S → Option Lit)
    (hown : KM E w 4 b n f) {x : S} (hk : E.ok x) (r : Bool) (hr : (f x).getD (.bool false) = .bool r) :
    (Instr.lookup t (.map (some b)) (E.kv x) false).run Try.prog w = .ok (.bool r) w := by
  obtain ⟨D, hD, hR⟩ := hown
  obtain ⟨v, ps, hrun, hv⟩ := hD.lookup E.keyed ht (zeroB w) (plainElem_bool Try.underlying4 false) (E.key x hk)
  obtain ⟨c, rfl, hc⟩ := plainElem_bool_inv Try.underlying4 hv
  have hat := (hR.2 x hk).2 (.lit (.bool false))
  have h1 : (DataW.lit (.bool c) : DataW Unit) = ((f x).map DataW.lit).getD (.lit (.bool false)) := by
    rw [← hat]; exact (congrArg Prod.fst hc).symm
  have h2 : ((f x).map (DataW.lit (H := Unit))).getD (.lit (.bool false)) = .lit ((f x).getD (.bool false)) := by cases f x <;> rfl
  rw [h2, hr] at h1
  injection h1 with h1
  injection h1 with h1
  subst h1
  exact hrun
set_option maxRecDepth 100000 in
/-- 'm[k]' at ints. -/
theorem lookIK_law (hg : o.guard = none) (m x : Operand) (t : TypeId) (hop : o.op = Op.lookup t m x false) (ht : Try.prog.underlying t = some (.map kt 3)) (b n : Nat) (f : S → Option Lit)
    (hm : a.eval m = .map (some b)) (hown : KM E w 3 b n f) {k : S} (hk : E.ok k) (hx : a.eval x = E.kv k) (r : Int) (hr : (f k).getD (.int .i64 0) = .int .i64 r)
    (hK : wpList Try.prog ops Q rest (a.put o.dst (.int .i64 r)) w) : wpList Try.prog ops Q (o :: rest) a w := by
  obtain ⟨D, hD, hR⟩ := hown
  refine wpList_lookup_own_int w hg m x t hop kt 3 .i64 E.keyed ht Try.underlying3 (zeroI w) b n D hm hD _ _ hx (E.key k hk) fun c hat _ => ?_
  rw [(hR.2 k hk).2] at hat
  have h2 : ((f k).map (DataW.lit (H := Unit))).getD (.lit (.int .i64 0)) = .lit ((f k).getD (.int .i64 0)) := by cases f k <;> rfl
  rw [h2, hr] at hat
  injection hat with hat
  injection hat with _ hat
  subst hat
  exact hK
/-- 'm[k] = v'. -/
theorem storeK_law [DecidableEq S] (hg : o.guard = none) (m x v : Operand) (t : TypeId) (hop : o.op = Op.mapUpdate t m x v) (e : TypeId) (ht : Try.prog.underlying t = some (.map kt e)) (b n : Nat) (f : S → Option Lit)
    (hm : a.eval m = .map (some b)) (hown : KM E w e b n f) (hn : n ≤ 1099511627776) {k : S} (hk : E.ok k) (hx : a.eval x = E.kv k) (val : Value) (hv : a.eval v = val) (l : Lit) (hl : plainElem (H := Unit) Try.prog e val = some (.lit l, []))
    (hK : ∀ w', KM E w' e b (n + 1) (putK f k l) → World.grownBy w w' (some b) → wpList Try.prog ops Q rest (a.put o.dst undef) w') : wpList Try.prog ops Q (o :: rest) a w := by
  obtain ⟨D, hD, hR⟩ := hown
  exact wpList_mapUpdate_own w hg m x v t hop kt e E.keyed ht _ b n D hm hD (by unfold maxLen; omega) _ _ _ hx hv (E.key k hk) _ [] hl fun w' h1 h2 => hK w' ⟨_, h1, hR.put E hk l⟩ h2
end
end Go.Proofs.Ytkemcmeagnggeaa
/- Layer 3: a queue of visits: a slice that is cut at its front and appended to. -/
namespace Go.Proofs.Ytkemcmeagnggeaa
open Go.RowKit
set_option linter.unusedVariables false

/-- A word and a pair of places. -/
abbrev Vis : Type := ByteArray × (Nat × Nat)
def visC (x : Vis) : List Value := [.string x.1, .int .i64 (x.2.1 : Int), .int .i64 (x.2.2 : Int)]
def visL (l : List Vis) : List Value := (l.map visC).flatten
theorem visC_len (x : Vis) : (visC x).length = 3 := rfl
theorem visL_len (l : List Vis) : (visL l).length = l.length * 3 := by
  unfold visL
  induction l with
  | nil => rfl
  | cons x l ih => rw [List.map_cons, List.flatten_cons, List.length_append, ih, visC_len, List.length_cons]; omega
theorem visL_cons (x : Vis) (l : List Vis) : visL (x :: l) = visC x ++ visL l := by unfold visL; rw [List.map_cons, List.flatten_cons]
theorem visL_snoc (l : List Vis) (x : Vis) : visL (l ++ [x]) = visL l ++ visC x := by unfold visL; simp
theorem visC_one (x : Vis) : ∀ u ∈ visC x, u.oneCell' = true := by
  intro u hu
  simp [visC] at hu
  rcases hu with rfl | rfl | rfl <;> rfl
/-- The call owns the slice v of the visits l, in a block from B on. -/
structure QOAt (w : World) (B : Nat) (v : Value) (l : List Vis) (b off cap : Nat) (cur : Array Value) : Prop where
  val : v = .slice (some ⟨b, off, none⟩) l.length cap
  low : B ≤ b
  row : w.heap[b]? = some (.cells cur 118 (0, 0))
  le : l.length ≤ cap
  fit : off + cap * 3 ≤ cur.size
  at_ : ∀ j u, (visL l)[j]? = some u → cur[off + j]? = some u
def QO (w : World) (B : Nat) (v : Value) (l : List Vis) : Prop := ∃ b off cap cur, QOAt w B v l b off cap cur
theorem QO.lt {w : World} {B : Nat} {v : Value} {l : List Vis} (h : QO w B v l) {k : Nat} (hk : v.ownBlock = some k) : B ≤ k ∧ k < w.heap.size := by
  obtain ⟨b, off, cap, cur, h⟩ := h
  rw [h.val] at hk
  injection hk with hk
  subst hk
  exact ⟨h.low, (Array.getElem?_eq_some_iff.1 h.row).1⟩
theorem QO.kept {w w' : World} {B : Nat} {v : Value} {l : List Vis} (h : QO w B v l) (hk : ∀ k, v.ownBlock = some k → w'.heap[k]? = w.heap[k]?) : QO w' B v l := by
  obtain ⟨b, off, cap, cur, h⟩ := h
  exact ⟨b, off, cap, cur, h.val, h.low, (hk b (by rw [h.val]; rfl)).trans h.row, h.le, h.fit, h.at_⟩
theorem QO.cells {w : World} {B : Nat} {v : Value} {x : Vis} {l : List Vis} (h : QO w B v (x :: l)) :
    ∃ b off cap, v = .slice (some ⟨b, off, none⟩) (l.length + 1) cap ∧ l.length + 1 ≤ cap ∧ B ≤ b ∧ b < w.heap.size ∧ w.cell? ⟨b, off, none⟩ = some (.string x.1) ∧ w.cell? ⟨b, off + 1, none⟩ = some (.int .i64 (x.2.1 : Int)) ∧ w.cell? ⟨b, off + 2, none⟩ = some (.int .i64 (x.2.2 : Int)) ∧
      QO w B (.slice (some ⟨b, if cap = 1 then off else off + 3, none⟩) l.length (cap - 1)) l := by
  obtain ⟨b, off, cap, cur, h⟩ := h
  have hc : ∀ j u, (visL (x :: l))[j]? = some u → w.cell? ⟨b, off + j, none⟩ = some u := fun j u hu => by
    rw [cell_of_row w b _ _ _ _ h.row]; exact h.at_ j u hu
  have hle := h.le
  rw [List.length_cons] at hle
  have hfit := h.fit
  refine ⟨b, off, cap, h.val, hle, h.low, (Array.getElem?_eq_some_iff.1 h.row).1, hc 0 _ (by rw [visL_cons]; rfl), hc 1 _ (by rw [visL_cons]; rfl), hc 2 _ (by rw [visL_cons]; rfl), b, _, _, cur, rfl, h.low, h.row, by omega, ?_, fun j u hu => ?_⟩
  · split
    · omega
    · omega
  · have h3 : (visL (x :: l))[3 + j]? = some u := by
      rw [visL_cons, List.getElem?_append_right (by rw [visC_len]; omega), visC_len]
      rw [show 3 + j - 3 = j by omega]; exact hu
    have := h.at_ (3 + j) u h3
    split
    · rename_i e
      -- the capacity is 1: nothing is left
      have hl : l = [] := List.eq_nil_of_length_eq_zero (by omega)
      subst hl
      simp [visL] at hu
    · rw [Nat.add_assoc]; exact this
theorem Try.infoVisit : (Try.prog.info? 118).map (fun i => (i.zero, i.size, i.bytes)) = some (some (.agg #[.string ⟨#[]⟩, .int .i64 0, .int .i64 0]), 3, 32) := by kernel_rfl
/-- One visit more. -/
theorem qpush_run (w : World) (ty : TypeId) (B : Nat) (i : TypeInfo) (hI : Try.prog.info? 118 = some i ∧ i.zero = some (.agg #[.string ⟨#[]⟩, .int .i64 0, .int .i64 0]) ∧ i.size = 3 ∧ i.bytes = 32)
    (v : Value) (l : List Vis) (z : Vis) (p : Nat) (hp : w.heap[p]? = some (.cells #[.string z.1, .int .i64 (z.2.1 : Int), .int .i64 (z.2.2 : Int)] 118 (0, 0))) (hown : QO w B v l) (hn : l.length ≤ 1000000) (hB : B ≤ w.heap.size) :
    ∃ v' w', (Builtin.append_ #[119, 119] ty #[v, .slice (some ⟨p, 0, none⟩) 1 1]).run Try.prog w = .ok v' w' ∧ QO w' B v' (l ++ [z]) ∧ World.grownBy w w' v.ownBlock ∧ (v'.ownBlock = v.ownBlock ∨ ∃ g, v'.ownBlock = some g ∧ w.heap.size ≤ g) := by
  obtain ⟨b, off, cap, cur, hq⟩ := hown
  obtain ⟨h1, h2, h3, h4⟩ := hI
  have hbl : b < w.heap.size := (Array.getElem?_eq_some_iff.1 hq.row).1
  have hrow := hq.row
  have hfit := hq.fit
  have hnews : ∀ j u, (visC z)[j]? = some u → w.cell? ((⟨p, 0, none⟩ : Addr).add j) = some u := fun j u hu => by
    rw [Addr.add_mid, Nat.zero_add, cell_of_row _ _ _ _ _ _ hp, ← hu]
    unfold visC
    rw [List.getElem?_toArray]
  by_cases hr : l.length + 1 ≤ cap
  · -- there is room
    have hrun := run_append_room_cells (P := Try.prog) w 119 ty 118 i Try.underlying119 h1 b off l.length cap ⟨p, 0, none⟩ 1 1 (visC z) (by rw [h3]; rfl) hnews (visC_one z) hr (fun j hj => by
      rw [visC_len] at hj
      rw [h3, cell_of_row _ b _ _ _ _ hrow, Array.getElem?_eq_getElem (by omega)]; rfl) (fun j hj => frozen_of_row _ _ _ _ _ hrow)
    rw [← hq.val, h3] at hrun
    have hset : ∀ (W : World) (c : Array Value) (o : Nat) (x0 x1 x2 : Value), W.heap[b]? = some (.cells c 118 (0, 0)) → (W.setCells b o [x0, x1, x2]).heap[b]? = some (.cells (((c.setIfInBounds o x0).setIfInBounds (o + 1) x1).setIfInBounds (o + 1 + 1) x2) 118 (0, 0)) := fun W c o x0 x1 x2 hW =>
      heap_setCell_same _ b (o + 1 + 1) _ _ x2 (heap_setCell_same _ b (o + 1) _ _ x1 (heap_setCell_same W b o c _ x0 hW))
    refine ⟨_, _, hrun, ⟨b, off, cap, _, ?_, hq.low, hset _ _ _ _ _ _ hrow, by simpa using hr, by simpa using hfit, fun j u hu => ?_⟩, ⟨rfl, rfl, rfl, ?_, fun k hk hne => ?_⟩, .inl (by rw [hq.val]; rfl)⟩
    · rw [List.length_append]; rfl
    · rw [visL_snoc] at hu
      by_cases hj : j < l.length * 3
      · rw [List.getElem?_append_left (by rw [visL_len]; exact hj)] at hu
        rw [Array.getElem?_setIfInBounds_ne (by omega), Array.getElem?_setIfInBounds_ne (by omega), Array.getElem?_setIfInBounds_ne (by omega)]
        exact hq.at_ j u hu
      · rw [List.getElem?_append_right (by rw [visL_len]; omega), visL_len] at hu
        have h5 : j - l.length * 3 < 3 := by
          have := (List.getElem?_eq_some_iff.1 hu).1
          rwa [visC_len] at this
        obtain ⟨m, hm⟩ : ∃ m, j = l.length * 3 + m := ⟨j - l.length * 3, by omega⟩
        subst hm
        rw [show l.length * 3 + m - l.length * 3 = m by omega] at hu h5
        have hsz : off + l.length * 3 + 2 < cur.size := by omega
        rcases (by omega : m = 0 ∨ m = 1 ∨ m = 2) with rfl | rfl | rfl
        · rw [Array.getElem?_setIfInBounds_ne (by omega), Array.getElem?_setIfInBounds_ne (by omega), show off + (l.length * 3 + 0) = off + l.length * 3 by omega, Array.getElem?_setIfInBounds_self_of_lt (by omega)]
          exact hu
        · rw [Array.getElem?_setIfInBounds_ne (by omega), show off + (l.length * 3 + 1) = off + l.length * 3 + 1 by omega, Array.getElem?_setIfInBounds_self_of_lt (by simp; omega)]
          exact hu
        · rw [show off + (l.length * 3 + 2) = off + l.length * 3 + 1 + 1 by omega, Array.getElem?_setIfInBounds_self_of_lt (by simp; omega)]
          exact hu
    · simp [visC, World.setCells, World.setCell]
    · have hkb : k ≠ b := fun e => hne (by rw [e, hq.val]; rfl)
      show (((w.setCell ⟨b, _, none⟩ _).setCell ⟨b, _, none⟩ _).setCell ⟨b, _, none⟩ _).heap[k]? = _
      rw [Below.heap_setCell _ _ _ _ hkb, Below.heap_setCell _ _ _ _ hkb, Below.heap_setCell _ _ _ _ hkb]
  · -- there is none
    obtain ⟨v', w', hrun, ho', hg'⟩ := run_append_arg_grows (P := Try.prog) w 119 ty 118 i _ 3 32 Try.underlying119 h1 h2 h3 h4 (by rfl) (by omega) ⟨b, off, none⟩ l.length cap (visL l) (visL_len l) (fun j u hu => by rw [Addr.add_lit, cell_of_row _ b _ _ _ _ hrow]; exact hq.at_ j u hu) ⟨p, 0, none⟩ 1 1 (visC z) rfl hnews (by omega) (by unfold maxLen; omega) (by omega)
    rw [← hq.val] at hrun
    refine ⟨v', w', hrun, ?_⟩
    rcases ho'.2 with ⟨_, h0⟩ | ⟨g, cap2, cur2, he, hlow, hg2, hle2, _, hcs, htk⟩
    · omega
    · refine ⟨⟨g, 0, cap2, cur2, ?_, by omega, hg2, by simpa using hle2, by omega, fun j u hu => ?_⟩, ⟨hg'.os, hg'.tape, hg'.output, hg'.size, fun k hk _ => hg'.block k hk (by simp)⟩, .inr ⟨g, by rw [he]; rfl, hlow⟩⟩
      · rw [he, List.length_append]; rfl
      · rw [visL_snoc, ← htk, List.getElem?_take] at hu
        split at hu
        · rw [Nat.zero_add, ← Array.getElem?_toList]; exact hu
        · cases hu
/-- The same as a step of a region that draws. -/
theorem qpush_step {ops : Array Oper} {o : Oper} {a : Act} {w : World} {K : Act → World → Prop} {Q : Exit → Act → World → Prop} {E : Prop} (hg : o.guard = none) (s x : Operand)
    (hop : o.op = Op.call { callee := Callee.builtin Builtin.append, args := #[s, x], argTypes := #[119, 119] }) (B : Nat) (i : TypeInfo)
    (hI : Try.prog.info? 118 = some i ∧ i.zero = some (.agg #[.string ⟨#[]⟩, .int .i64 0, .int .i64 0]) ∧ i.size = 3 ∧ i.bytes = 32)
    (v : Value) (l : List Vis) (z : Vis) (p : Nat) (hs : a.eval s = v) (hx : a.eval x = .slice (some ⟨p, 0, none⟩) 1 1) (hp : w.heap[p]? = some (.cells #[.string z.1, .int .i64 (z.2.1 : Int), .int .i64 (z.2.2 : Int)] 118 (0, 0))) (hown : QO w B v l) (hn : l.length ≤ 1000000) (hB : B ≤ w.heap.size)
    (hK : ∀ v' w', QO w' B v' (l ++ [z]) → World.grownBy w w' v.ownBlock → (v'.ownBlock = v.ownBlock ∨ ∃ g, v'.ownBlock = some g ∧ w.heap.size ≤ g) → K (a.put o.dst v') w') :
    if Region.wanted o (yielded ops a.tmps) = true then Oper.wp Try.prog o a w K Q else E := by
  have hw : Region.wanted o (yielded ops a.tmps) = true := by simp [Region.wanted, hg]
  rw [if_pos hw]
  obtain ⟨v', w', hrun, h1, h2, h3⟩ := qpush_run w o.type B i hI v l z p hp hown hn hB
  unfold Oper.wp
  simp [execOp, hop, resolve, invoke, builtin, hs, hx, hrun, Result.andThen]
  exact hK v' w' h1 h2 h3
end Go.Proofs.Ytkemcmeagnggeaa
