import Derived.Test.YtmbdjjkgjnemiaaT01
import Derived.KernelRfl
import Derived.Maps.OwnOps
import Derived.Maps.OwnSet
import Derived.Maps.OwnRows
import Derived.Maps.StringElems
import Derived.DeepKeys4
import Derived.WideKeyPair
import Derived.WideKeyArr2
import Derived.Deep.DeepMust
/- Layer 6: maps that the call makes, as functions of their keys. -/
namespace Go.Proofs.Ytmbdjjkgjnemiaa
open Go.RowKit Go.Maps Go.ChangeShapes Go.WideMaps
open Go.WideElems (Fit rd rg pl rd_val elemAt)
set_option linter.unusedVariables false

theorem Try.laidOut : laidOutB Try.prog = true := by kernel_rfl
theorem cellsInt : Try.prog.cellsOf 3 = 1 := by kernel_rfl
theorem wfN {k : Nat} (h : k ≤ 1099511627776) : (Lit.int .i64 (k : Int)).wf = true := WalkArith.wf_i64 (by omega)
theorem widePt : (match Try.prog.underlying 23 with | some (.array _ _) | some (.struct _) => true | _ => false) = true := by kernel_rfl
theorem rowPt : (23 : TypeId) < Try.prog.types.size := of_decide_eq_true (by kernel_rfl)
set_option maxRecDepth 100000 in
theorem keyPt : Keyed Try.prog 23 := Keyed.of_law (deep_law_laid Try.laidOut (m := 2) (by omega) rowPt (by kernel_rfl) widePt)
set_option maxRecDepth 100000 in
theorem keyTypePt : Try.prog.keyType 23 = true := by kernel_rfl
theorem cellsPt : Try.prog.cellsOf 23 = 2 := by kernel_rfl
theorem wideTr : (match Try.prog.underlying 57 with | some (.array _ _) | some (.struct _) => true | _ => false) = true := by kernel_rfl
theorem rowTr : (57 : TypeId) < Try.prog.types.size := of_decide_eq_true (by kernel_rfl)
set_option maxRecDepth 100000 in
theorem keyTr : Keyed Try.prog 57 := Keyed.of_law (deep_law_laid Try.laidOut (m := 2) (by omega) rowTr (by kernel_rfl) wideTr)
set_option maxRecDepth 100000 in
theorem keyTypeTr : Try.prog.keyType 57 = true := by kernel_rfl
theorem cellsTr : Try.prog.cellsOf 57 = 3 := by kernel_rfl
theorem wideGl : (match Try.prog.underlying 76 with | some (.array _ _) | some (.struct _) => true | _ => false) = true := by kernel_rfl
theorem rowGl : (76 : TypeId) < Try.prog.types.size := of_decide_eq_true (by kernel_rfl)
set_option maxRecDepth 100000 in
theorem keyGl : Keyed Try.prog 76 := Keyed.of_law (deep_law_laid Try.laidOut (m := 3) (by omega) rowGl (by kernel_rfl) wideGl)
set_option maxRecDepth 100000 in
theorem keyTypeGl : Try.prog.keyType 76 = true := by kernel_rfl
theorem cellsGl : Try.prog.cellsOf 76 = 3 := by kernel_rfl
theorem cellsWay : Try.prog.cellsOf 74 = 1 := by kernel_rfl
set_option maxRecDepth 100000 in
theorem keyOfPt {p q : Nat} (hp : p ≤ 1099511627776) (hq : q ≤ 1099511627776) : keyOf Try.prog 23 (.agg #[.int .i64 (p : Int), .int .i64 (q : Int)]) = some (.string (keyBytes [.int .i64 (p : Int), .int .i64 (q : Int)])) := by
  have wa := wfN hp
  have wb := wfN hq
  unfold keyOf
  simp only [Try.underlying23]
  rw [if_pos (by simp [keyTypePt, Value.formed, Try.underlying23, cellsPt])]
  obtain ⟨m, hm⟩ : ∃ m, Try.prog.types.size + 1 = m + 1 + 1 := ⟨Try.prog.types.size - 1, by have h : 0 < Try.prog.types.size := Nat.lt_of_le_of_lt (Nat.zero_le _) rowPt; omega⟩
  rw [hm]
  unfold Program.keyLits
  simp only [Try.underlying23]
  rw [if_pos (by rw [cellsPt]; rfl), show List.range 2 = [0, 1] from rfl, List.mapM_cons, List.mapM_cons, List.mapM_nil]
  simp [Program.keyLits, cellsInt, Try.underlying3, Value.cells, wa, wb]
set_option maxRecDepth 100000 in
theorem keyOfTr {p q r : Nat} (hp : p ≤ 1099511627776) (hq : q ≤ 1099511627776) (hr : r ≤ 1099511627776) : keyOf Try.prog 57 (.agg #[.int .i64 (p : Int), .int .i64 (q : Int), .int .i64 (r : Int)]) = some (.string (keyBytes [.int .i64 (p : Int), .int .i64 (q : Int), .int .i64 (r : Int)])) := by
  have wa := wfN hp
  have wb := wfN hq
  have wc := wfN hr
  unfold keyOf
  simp only [Try.underlying57]
  rw [if_pos (by simp [keyTypeTr, Value.formed, Try.underlying57, cellsTr])]
  obtain ⟨m, hm⟩ : ∃ m, Try.prog.types.size + 1 = m + 1 + 1 := ⟨Try.prog.types.size - 1, by have h : 0 < Try.prog.types.size := Nat.lt_of_le_of_lt (Nat.zero_le _) rowTr; omega⟩
  rw [hm]
  unfold Program.keyLits
  simp only [Try.underlying57]
  rw [if_pos (by rw [cellsTr]; rfl), show List.range 3 = [0, 1, 2] from rfl, List.mapM_cons, List.mapM_cons, List.mapM_cons, List.mapM_nil]
  simp [Program.keyLits, cellsInt, Try.underlying3, Value.cells, wa, wb, wc]
set_option maxRecDepth 100000 in
theorem keyOfGl {p q r : Nat} (hp : p ≤ 1099511627776) (hq : q ≤ 1099511627776) (hr : r ≤ 1099511627776) : keyOf Try.prog 76 (.agg #[.int .i64 (p : Int), .int .i64 (q : Int), .int .i64 (r : Int)]) = some (.string (keyBytes [.int .i64 (p : Int), .int .i64 (q : Int), .int .i64 (r : Int)])) := by
  have wa := wfN hp
  have wb := wfN hq
  have wc := wfN hr
  unfold keyOf
  simp only [Try.underlying76]
  rw [if_pos (by simp [keyTypeGl, Value.formed, Try.underlying76, cellsGl])]
  obtain ⟨m, hm⟩ : ∃ m, Try.prog.types.size + 1 = m + 1 + 1 + 1 := ⟨Try.prog.types.size - 2, by have h : 2 < Try.prog.types.size := Nat.lt_of_le_of_lt (by decide) rowPt; omega⟩
  rw [hm]
  unfold Program.keyLits
  simp only [Try.underlying76]
  have hr2 : List.range 2 = [0, 1] := rfl
  simp [Program.keyLits, hr2, List.mapM_cons, List.mapM_nil, cellsInt, cellsPt, cellsWay, cellsGl, Try.underlying3, Try.underlying23, Try.underlying74, Value.cells, wa, wb, wc]
/-- Keys of one type, each a value and its letter. -/
structure KeyEnc (kt : TypeId) (S : Type) where
  kv : S → Value
  kl : S → Lit
  ok : S → Prop
  keyed : Keyed Try.prog kt
  key : ∀ x, ok x → keyOf Try.prog kt (kv x) = some (kl x)
  inj : ∀ x y, ok x → ok y → kv x = kv y → x = y
theorem KeyEnc.lit {kt : TypeId} {S : Type} (E : KeyEnc kt S) {x : S} (h : E.ok x) : WideAt.IsKeyLit (E.kl x) := E.keyed.key (E.key x h)
theorem KeyEnc.ne {kt : TypeId} {S : Type} (E : KeyEnc kt S) {x y : S} (hx : E.ok x) (hy : E.ok y) (h : x ≠ y) : E.kl x ≠ E.kl y := fun e => by
  have h1 := E.key x hx
  rw [e] at h1
  exact h (E.inj x y hx hy (E.keyed.inj h1 (E.key y hy)))
/-- Pairs. -/
def encPt : KeyEnc 23 Pt where
  kv x := .agg #[.int .i64 (x.1 : Int), .int .i64 (x.2 : Int)]
  kl x := .string (keyBytes [.int .i64 (x.1 : Int), .int .i64 (x.2 : Int)])
  ok x := x.1 ≤ 1099511627776 ∧ x.2 ≤ 1099511627776
  keyed := keyPt
  key x h := keyOfPt h.1 h.2
  inj x y _ _ h := by
    injection h with h
    injection h with h
    injection h with h1 h2
    injection h2 with h2 _
    injection h1 with _ h1
    injection h2 with _ h2
    exact Prod.ext (by omega) (by omega)
/-- Three numbers. -/
abbrev Tri : Type := Nat × (Nat × Nat)
def triV (x : Tri) : Value := .agg #[.int .i64 (x.1 : Int), .int .i64 (x.2.1 : Int), .int .i64 (x.2.2 : Int)]
theorem triV_inj {x y : Tri} (h : triV x = triV y) : x = y := by
  unfold triV at h
  injection h with h
  injection h with h
  injection h with h1 h
  injection h with h2 h
  injection h with h3 _
  injection h1 with _ h1
  injection h2 with _ h2
  injection h3 with _ h3
  exact Prod.ext (by omega) (Prod.ext (by omega) (by omega))
def triOk (x : Tri) : Prop := x.1 ≤ 1099511627776 ∧ x.2.1 ≤ 1099511627776 ∧ x.2.2 ≤ 1099511627776
def encTr : KeyEnc 57 Tri where
  kv := triV
  kl x := .string (keyBytes [.int .i64 (x.1 : Int), .int .i64 (x.2.1 : Int), .int .i64 (x.2.2 : Int)])
  ok := triOk
  keyed := keyTr
  key x h := keyOfTr h.1 h.2.1 h.2.2
  inj x y _ _ h := triV_inj h
def encGl : KeyEnc 76 Tri where
  kv := triV
  kl x := .string (keyBytes [.int .i64 (x.1 : Int), .int .i64 (x.2.1 : Int), .int .i64 (x.2.2 : Int)])
  ok := triOk
  keyed := keyGl
  key x h := keyOfGl h.1 h.2.1 h.2.2
  inj x y _ _ h := triV_inj h
/-- Naturals. -/
def encNat : KeyEnc 3 Nat where
  kv x := .int .i64 (x : Int)
  kl x := .int .i64 (x : Int)
  ok x := x ≤ 1099511627776
  keyed := int_keyed Try.underlying3
  key x h := keyOf_int_mk Try.underlying3 (wfN h)
  inj x y _ _ h := by injection h with _ h; omega

section
variable {kt : TypeId} {S : Type} (E : KeyEnc kt S)
/-- The datum holds at each key what f says. -/
def Rdk (D : DataW Unit) (f : S → Option Lit) : Prop := IsMap D ∧ ∀ x, E.ok x → Maps.has D (E.kl x) = (f x).isSome ∧ ∀ z, D.atKey (E.kl x) z = ((f x).map DataW.lit).getD z
def putK [DecidableEq S] (f : S → Option Lit) (x : S) (l : Lit) : S → Option Lit := fun k => if k = x then some l else f k
theorem Rdk.empty : Rdk E (.map []) (fun _ => none) := ⟨isMap_empty, fun _ _ => ⟨rfl, fun _ => rfl⟩⟩
theorem Rdk.put [DecidableEq S] {D : DataW Unit} {f : S → Option Lit} (h : Rdk E D f) {x : S} (hx : E.ok x) (l : Lit) : Rdk E (D.put (E.kl x) (.lit l)) (putK f x l) := by
  refine ⟨h.1.put _ _, fun k hk => ?_⟩
  unfold putK
  by_cases e : k = x
  · subst e
    rw [if_pos rfl]
    exact ⟨has_put_same h.1 (E.lit hk) _, fun z => atKey_put_same h.1 (E.lit hk) _ z⟩
  · have hne := E.ne hk hx e
    rw [if_neg e]
    exact ⟨(has_put_other hne _).trans (h.2 k hk).1, fun z => (atKey_put_other hne _ z).trans ((h.2 k hk).2 z)⟩
/-- Block b is a map to elements of the plain type e, of at most n entries, that holds what f says. -/
def KM (w : World) (e : TypeId) (b n : Nat) (f : S → Option Lit) : Prop := ∃ D : DataW Unit, w.ownsMap Try.prog kt (plainElem (H := Unit) Try.prog e) b n D ∧ Rdk E D f
theorem KM.made (w : World) (e : TypeId) : KM E (w.alloc (.map #[] 0)) e w.heap.size 0 (fun _ => none) := ⟨_, World.ownsMap_made _ _ _ _, Rdk.empty E⟩
variable {E}
theorem KM.lt {w : World} {e : TypeId} {b n : Nat} {f : S → Option Lit} (h : KM E w e b n f) : b < w.heap.size := by obtain ⟨D, h, _⟩ := h; exact h.lt
theorem KM.heap {w w' : World} {e : TypeId} {b n : Nat} {f : S → Option Lit} (h : KM E w e b n f) (hb : w'.heap[b]? = w.heap[b]?) : KM E w' e b n f := by
  obtain ⟨D, ⟨es, clock, h1, h2⟩, hr⟩ := h
  exact ⟨D, ⟨es, clock, hb.trans h1, h2⟩, hr⟩
theorem KM.below {w w' : World} {B : Nat} {e : TypeId} {b n : Nat} {f : S → Option Lit} (h : KM E w e b n f) (k : Below B w w') (hb : b < B) : KM E w' e b n f := h.heap (k.block b hb)
theorem KM.alloc {w : World} {e : TypeId} {b n : Nat} {f : S → Option Lit} (h : KM E w e b n f) (o : Obj) : KM E (w.alloc o) e b n f := by
  obtain ⟨D, h, hr⟩ := h
  exact ⟨D, h.alloc o, hr⟩
theorem KM.grown {w w' : World} {e : TypeId} {b n : Nat} {f : S → Option Lit} {r : Option Nat} (h : KM E w e b n f) (k : World.grownBy w w' r) (hb : some b ≠ r) : KM E w' e b n f := h.heap (k.block b h.lt hb)
theorem KM.mono {w : World} {e : TypeId} {b n m : Nat} {f : S → Option Lit} (h : KM E w e b n f) (hm : n ≤ m) : KM E w e b m f := by
  obtain ⟨D, h, hr⟩ := h
  exact ⟨D, h.mono hm, hr⟩
theorem zeroI (w : World) : (zeroValue 3).run Try.prog w = .ok (.int .i64 0) w := by kernel_rfl
theorem zeroT (w : World) : (zeroValue 9).run Try.prog w = .ok (.string ByteArray.empty) w := by kernel_rfl
theorem zeroB (w : World) : (zeroValue 4).run Try.prog w = .ok (.bool false) w := by kernel_rfl
theorem plainElem_bool_inv {P : Program} {e : TypeId} (he : P.underlying e = some .bool) {v : Value} {z : DataW Unit × List MemPlace} (h : plainElem P e v = some z) : ∃ x, v = .bool x ∧ z = (.lit (.bool x), []) := by
  unfold plainElem at h
  rw [he] at h
  cases v <;> simp at h
  exact ⟨_, rfl, h.symm⟩
variable (w : World) {ops : Array Oper} {rest : List Oper} {o : Oper} {a : Act} {Q : Exit → Act → World → Prop}
set_option maxRecDepth 100000 in
/-- 'm[k]' at bools. -/
theorem run_lookB (t : TypeId) (ht : Try.prog.underlying t = some (.map kt 4)) (b n : Nat) (f : S → Option Lit)
    (hown : KM E w 4 b n f) {x : S} (hk : E.ok x) (r : Bool) (hr : (f x).getD (.bool false) = .bool r) :
    (Instr.lookup t (.map (some b)) (E.kv x) false).run Try.prog w = .ok (.bool r) w := by
  obtain ⟨D, hD, hR⟩ := hown
  obtain ⟨v, ps, hrun, hv⟩ := hD.lookup E.keyed ht (zeroB w) (plainElem_bool Try.underlying4 false) (E.key x hk)
  obtain ⟨c, rfl, hc⟩ := plainElem_bool_inv Try.underlying4 hv
  have hat := (hR.2 x hk).2 (.lit (.bool false))
  have h1 : (DataW.lit (.bool c) : DataW Unit) = ((f x).map DataW.lit).getD (.lit (.bool false)) := by
    rw [← hat]; exact (congrArg Prod.fst hc).symm
  have h2 : ((f x).map (DataW.lit (H := Unit))).getD (.lit (.bool false)) = .lit ((f x).getD (.bool false)) := by cases f x <;> rfl
  rw [h2, hr] at h1
  injection h1 with h1
  injection h1 with h1
  subst h1
  exact hrun
set_option maxRecDepth 100000 in
/-- 'v, ok := m[k]' at bools. -/
theorem run_lookIk (t : TypeId) (ht : Try.prog.underlying t = some (.map kt 3)) (b n : Nat) (f : S → Option Lit)
    (hown : KM E w 3 b n f) {x : S} (hk : E.ok x) (r : Int) (hr : (f x).getD (.int .i64 0) = .int .i64 r) (s : Bool) (hs : (f x).isSome = s) :
    (Instr.lookup t (.map (some b)) (E.kv x) true).run Try.prog w = .ok (.tuple #[.int .i64 r, .bool s]) w := by
  obtain ⟨D, hD, hR⟩ := hown
  obtain ⟨v, ps, hrun, hv⟩ := hD.look_ok E.keyed ht (zeroI w) (plainElem_int Try.underlying3 (by decide)) (E.key x hk)
  obtain ⟨c, rfl, hc, _⟩ := plainElem_int_inv Try.underlying3 hv
  have hat := (hR.2 x hk).2 (.lit (.int .i64 0))
  have h1 : (DataW.lit (.int .i64 c) : DataW Unit) = ((f x).map DataW.lit).getD (.lit (.int .i64 0)) := by
    rw [← hat]; exact (congrArg Prod.fst hc).symm
  have h2 : ((f x).map (DataW.lit (H := Unit))).getD (.lit (.int .i64 0)) = .lit ((f x).getD (.int .i64 0)) := by cases f x <;> rfl
  rw [h2, hr] at h1
  injection h1 with h1
  injection h1 with _ h1
  subst h1
  rw [(hR.2 x hk).1, hs] at hrun
  exact hrun
set_option maxRecDepth 100000 in
theorem run_lookI (t : TypeId) (ht : Try.prog.underlying t = some (.map kt 3)) (b n : Nat) (f : S → Option Lit)
    (hown : KM E w 3 b n f) {x : S} (hk : E.ok x) (r : Int) (hr : (f x).getD (.int .i64 0) = .int .i64 r) :
    (Instr.lookup t (.map (some b)) (E.kv x) false).run Try.prog w = .ok (.int .i64 r) w := by
  obtain ⟨D, hD, hR⟩ := hown
  obtain ⟨v, ps, hrun, hv⟩ := hD.lookup E.keyed ht (zeroI w) (plainElem_int Try.underlying3 (by decide)) (E.key x hk)
  obtain ⟨c, rfl, hc, _⟩ := plainElem_int_inv Try.underlying3 hv
  have hat := (hR.2 x hk).2 (.lit (.int .i64 0))
  have h1 : (DataW.lit (.int .i64 c) : DataW Unit) = ((f x).map DataW.lit).getD (.lit (.int .i64 0)) := by
    rw [← hat]; exact (congrArg Prod.fst hc).symm
  have h2 : ((f x).map (DataW.lit (H := Unit))).getD (.lit (.int .i64 0)) = .lit ((f x).getD (.int .i64 0)) := by cases f x <;> rfl
  rw [h2, hr] at h1
  injection h1 with h1
  injection h1 with _ h1
  subst h1
  exact hrun
theorem strLit_inj {a b : ByteArray} (h : a.data.toList = b.data.toList) : a = b := by
  obtain ⟨⟨a⟩⟩ := a
  obtain ⟨⟨b⟩⟩ := b
  simp at h
  rw [h]
abbrev strL (s : ByteArray) : Lit := .string s.data.toList
set_option maxRecDepth 100000 in
/-- Strings. -/
theorem run_lookT (t : TypeId) (ht : Try.prog.underlying t = some (.map kt 9)) (b n : Nat) (f : S → Option Lit)
    (hown : KM E w 9 b n f) {x : S} (hk : E.ok x) (r : ByteArray) (hr : (f x).getD (.string []) = strL r) :
    (Instr.lookup t (.map (some b)) (E.kv x) false).run Try.prog w = .ok (.string r) w := by
  obtain ⟨D, hD, hR⟩ := hown
  obtain ⟨v, ps, hrun, hv⟩ := hD.lookup E.keyed ht (zeroT w) (plainElem_string Try.underlying9 (s := ByteArray.empty) (by decide)) (E.key x hk)
  obtain ⟨c, rfl, hc, _⟩ := plainElem_string_inv Try.underlying9 hv
  have hat := (hR.2 x hk).2 (.lit (.string []))
  have h1 : (DataW.lit (.string c.data.toList) : DataW Unit) = ((f x).map DataW.lit).getD (.lit (.string [])) := by
    rw [← hat]; exact (congrArg Prod.fst hc).symm
  have h2 : ((f x).map (DataW.lit (H := Unit))).getD (.lit (.string [])) = .lit ((f x).getD (.string [])) := by cases f x <;> rfl
  rw [h2, hr] at h1
  injection h1 with h1
  injection h1 with h1
  rw [← strLit_inj h1]
  exact hrun
set_option maxRecDepth 100000 in
theorem run_lookTk (t : TypeId) (ht : Try.prog.underlying t = some (.map kt 9)) (b n : Nat) (f : S → Option Lit)
    (hown : KM E w 9 b n f) {x : S} (hk : E.ok x) (r : ByteArray) (hr : (f x).getD (.string []) = strL r) (s : Bool) (hs : (f x).isSome = s) :
    (Instr.lookup t (.map (some b)) (E.kv x) true).run Try.prog w = .ok (.tuple #[.string r, .bool s]) w := by
  obtain ⟨D, hD, hR⟩ := hown
  obtain ⟨v, ps, hrun, hv⟩ := hD.look_ok E.keyed ht (zeroT w) (plainElem_string Try.underlying9 (s := ByteArray.empty) (by decide)) (E.key x hk)
  obtain ⟨c, rfl, hc, _⟩ := plainElem_string_inv Try.underlying9 hv
  have hat := (hR.2 x hk).2 (.lit (.string []))
  have h1 : (DataW.lit (.string c.data.toList) : DataW Unit) = ((f x).map DataW.lit).getD (.lit (.string [])) := by
    rw [← hat]; exact (congrArg Prod.fst hc).symm
  have h2 : ((f x).map (DataW.lit (H := Unit))).getD (.lit (.string [])) = .lit ((f x).getD (.string [])) := by cases f x <;> rfl
  rw [h2, hr] at h1
  injection h1 with h1
  injection h1 with h1
  rw [← strLit_inj h1]
  rw [(hR.2 x hk).1, hs] at hrun
  exact hrun
/-- The run of 'm[k] = v'. -/
theorem run_storeK [DecidableEq S] {e : TypeId} {b n : Nat} {F : S → Option Lit} (h : KM E w e b n F) (t : TypeId) (ht : Try.prog.underlying t = some (.map kt e)) (hn : n ≤ 1099511627776) {k : S} (hk : E.ok k) (val : Value) (l : Lit) (hl : plainElem (H := Unit) Try.prog e val = some (.lit l, [])) :
    ∃ w', (Instr.mapUpdate t (.map (some b)) (E.kv k) val).run Try.prog w = .ok () w' ∧ KM E w' e b (n + 1) (putK F k l) ∧ World.grownBy w w' (some b) := by
  obtain ⟨D, hD, hR⟩ := h
  obtain ⟨w', h1, h2, h3⟩ := hD.update E.keyed ht (by unfold maxLen; omega) (E.key k hk) hl
  exact ⟨w', h1, ⟨_, h2, hR.put E hk l⟩, h3⟩
/-- 'm[k] = v'. -/
theorem storeK_law [DecidableEq S] (hg : o.guard = none) (m x v : Operand) (t : TypeId) (hop : o.op = Op.mapUpdate t m x v) (e : TypeId) (ht : Try.prog.underlying t = some (.map kt e)) (b n : Nat) (f : S → Option Lit)
    (hm : a.eval m = .map (some b)) (hown : KM E w e b n f) (hn : n ≤ 1099511627776) {k : S} (hk : E.ok k) (hx : a.eval x = E.kv k) (val : Value) (hv : a.eval v = val) (l : Lit) (hl : plainElem (H := Unit) Try.prog e val = some (.lit l, []))
    (hK : ∀ w', KM E w' e b (n + 1) (putK f k l) → World.grownBy w w' (some b) → wpList Try.prog ops Q rest (a.put o.dst undef) w') : wpList Try.prog ops Q (o :: rest) a w := by
  obtain ⟨D, hD, hR⟩ := hown
  exact wpList_mapUpdate_own w hg m x v t hop kt e E.keyed ht _ b n D hm hD (by unfold maxLen; omega) _ _ _ hx hv (E.key k hk) _ [] hl fun w' h1 h2 => hK w' ⟨_, h1, hR.put E hk l⟩ h2
end
end Go.Proofs.Ytmbdjjkgjnemiaa
/- Layer 6: lists of pairs that the call owns. -/
namespace Go.Proofs.Ytmbdjjkgjnemiaa
open Go.RowKit
set_option linter.unusedVariables false

theorem Try.infoPt : (Try.prog.info? 23).map (fun i => (i.zero, i.size, i.bytes)) = some (some (.agg #[.int .i64 0, .int .i64 0]), 2, 16) := by kernel_rfl
def ptsC (ps : List (Int × Int)) : List Value := ps.flatMap fun p => [.int .i64 p.1, .int .i64 p.2]
theorem ptsC_len (ps : List (Int × Int)) : (ptsC ps).length = ps.length * 2 := by
  induction ps with
  | nil => rfl
  | cons p ps ih => simp [ptsC] at *; omega
theorem ptsC_at (ps : List (Int × Int)) : ∀ (j : Nat) (h : j < ps.length), (ptsC ps)[j * 2]? = some (.int .i64 ps[j].1) ∧ (ptsC ps)[j * 2 + 1]? = some (.int .i64 ps[j].2) := by
  induction ps with
  | nil => intro j h; simp at h
  | cons p ps ih =>
    intro j h
    have e : ptsC (p :: ps) = .int .i64 p.1 :: .int .i64 p.2 :: ptsC ps := by simp [ptsC]
    cases j with
    | zero => rw [e]; exact ⟨rfl, rfl⟩
    | succ j =>
      rw [e, show (j + 1) * 2 = j * 2 + 1 + 1 from by omega]
      simp only [List.getElem?_cons_succ, List.getElem_cons_succ]
      exact ih j (by simpa using h)
/-- The call owns the slice v of pairs of ints. -/
def Owp (w : World) (B e : Nat) (v : Value) (ps : List (Int × Int)) : Prop := w.ownsRow B e 2 v ps.length (ptsC ps)
theorem Owp.nil (w : World) (B e : Nat) : Owp w B e (.slice none 0 0) [] := World.ownsRow_nil _ _ _ _
theorem Owp.lt {w : World} {B e : Nat} {v : Value} {zs : List (Int × Int)} (h : Owp w B e v zs) {k : Nat} (hk : v.ownBlock = some k) : B ≤ k ∧ k < w.heap.size := World.ownsRow.lt h k hk
theorem Owp.kept {w w' : World} {B e : Nat} {v u : Value} {zs : List (Int × Int)} (h : Owp w B e v zs) (hg : w.grownBy w' u.ownBlock) (ha : Apart v u) : Owp w' B e v zs := World.ownsRow.kept h hg ha
theorem Owp.below {w w' : World} {B e b : Nat} {v : Value} {zs : List (Int × Int)} (h : Owp w B e v zs) (hb : Below b w w') (hB : w.heap.size ≤ b) : Owp w' B e v zs :=
  World.ownsRow.kept (row := none) h ⟨hb.os, hb.tape, hb.output, hb.size, fun k hk _ => hb.block k (by omega)⟩ (by
    rcases hv : v.ownBlock with _ | k
    · exact .inl rfl
    · exact .inr (by simp))
theorem Owp.alloc {w : World} {B e : Nat} {v : Value} {zs : List (Int × Int)} (h : Owp w B e v zs) (o : Obj) : Owp (w.alloc o) B e v zs := World.ownsRow.alloc h o
/-- The form of a list of pairs that is not empty, and its cells. -/
theorem Owp.form {w : World} {B e n : Nat} {v : Value} {zs : List (Int × Int)} (h : Owp w B e v zs) (hn : zs.length = n) (h0 : 0 < n) : ∃ g cap, v = .slice (some ⟨g, 0, none⟩) n cap ∧ n ≤ cap ∧ B ≤ g ∧ g < w.heap.size ∧
    ∀ j, j < n → w.cell? ⟨g, j * 2, none⟩ = some (.int .i64 (zs[j]?.getD (0, 0)).1) ∧ w.cell? ⟨g, j * 2 + 1, none⟩ = some (.int .i64 (zs[j]?.getD (0, 0)).2) := by
  subst hn
  rcases h.2 with ⟨_, h1⟩ | ⟨g, cap, cur, h1, h2, h3, h4, h5, h6, h7⟩
  · omega
  · refine ⟨g, cap, h1, h4, h2, (Array.getElem?_eq_some_iff.1 h3).1, fun j hj => ?_⟩
    have h8 := ptsC_at zs j hj
    have hc : ∀ i u, (ptsC zs)[i]? = some u → w.cell? ⟨g, i, none⟩ = some u := fun i u hu => by
      rw [cell_of_row w g _ _ _ _ h3]
      rw [← h7, List.getElem?_take] at hu
      split at hu
      · rw [← Array.getElem?_toList]; exact hu
      · cases hu
    rw [List.getElem?_eq_getElem hj]
    exact ⟨hc _ _ h8.1, hc _ _ h8.2⟩
theorem pushp_law {P : Program} (w : World) {ops : Array Oper} {rest : List Oper} {o : Oper} {a : Act} {Q : Exit → Act → World → Prop} (hgd : o.guard = none) (s x : Operand) (t : TypeId)
    (ho : o.op = .call { callee := .builtin .append, args := #[s, x], argTypes := #[t, t] })
    (B : Nat) (e : TypeId) (i : TypeInfo) (ht : P.underlying t = some (.slice e)) (hI : P.info? e = some i ∧ i.zero = some (.agg #[.int .i64 0, .int .i64 0]) ∧ i.size = 2 ∧ i.bytes = 16)
    (v : Value) (zs : List (Int × Int)) (p q : Int) (hs : a.eval s = v) (hx : a.eval x = .slice (some ⟨w.heap.size, 0, none⟩) 1 1) (hown : Owp w B e v zs) (hn : zs.length ≤ 1099511627776) (hB : B ≤ w.heap.size)
    (h : ∀ v' w', Owp w' B e v' (zs ++ [(p, q)]) → w.grownBy w' v.ownBlock → (v'.ownBlock = v.ownBlock ∨ ∃ g, v'.ownBlock = some g ∧ w.heap.size ≤ g) → wpList P ops Q rest (a.put o.dst v') w') :
    wpList P ops Q (o :: rest) a (w.alloc (.cells #[.int .i64 p, .int .i64 q] e)) := by
  obtain ⟨h1, h2, h3, h4⟩ := hI
  refine wpList_append_own_at _ hgd s x t ho B e i _ 2 16 ht h1 h2 h3 h4 rfl (by decide) v zs.length (ptsC zs) hs (hown.alloc _) ⟨w.heap.size, 0, none⟩ 1 1 [.int .i64 p, .int .i64 q] hx rfl ?_ ?_ (by unfold maxLen; omega) (by omega) (by simp; omega) ?_
  · intro j u hu
    match j, hu with
    | 0, hu =>
      simp at hu; subst hu
      simp [Addr.add]
    | 1, hu =>
      simp at hu; subst hu
      simp [Addr.add]
  · intro u hu
    simp at hu
    rcases hu with rfl | rfl <;> rfl
  · intro v' w' ho' hg' _ hat
    refine h v' w' ?_ (grown_alloc hg') ?_
    · unfold Owp
      rw [List.length_append, show ptsC (zs ++ [(p, q)]) = ptsC zs ++ [.int .i64 p, .int .i64 q] from by simp [ptsC]]
      exact ho'
    · rcases hat with e1 | e1
      · exact .inl e1
      · exact .inr ⟨_, e1, by simp⟩
theorem Owp.one (w : World) (B e : Nat) (x y : Int) (hB : B ≤ w.heap.size) : Owp (w.alloc (.cells #[.int .i64 x, .int .i64 y] e)) B e (.slice (some ⟨w.heap.size, 0, none⟩) 1 1) [(x, y)] := by
  have h := World.ownsRow_lit (base := B) (e := e) (size := 2) w #[.int .i64 x, .int .i64 y] 1 hB (by unfold maxLen; omega) rfl
  simpa [Owp, ptsC] using h
theorem Owp.base {w : World} {B B' e : Nat} {v : Value} {zs : List (Int × Int)} (h : Owp w B e v zs) (hB : B' ≤ B) : Owp w B' e v zs := by
  refine ⟨h.1, ?_⟩
  rcases h.2 with h | ⟨g, cap, cur, h1, h2, h3⟩
  · exact .inl h
  · exact .inr ⟨g, cap, cur, h1, by omega, h3⟩
theorem Owp.same {w w' : World} {B e : Nat} {v : Value} {zs : List (Int × Int)} (h : Owp w B e v zs) (hk : ∀ k, v.ownBlock = some k → w'.heap[k]? = w.heap[k]?) : Owp w' B e v zs := by
  refine ⟨h.1, ?_⟩
  rcases h.2 with h1 | ⟨g, cap, cur, h1, h2, h3, h4⟩
  · exact .inl h1
  · exact .inr ⟨g, cap, cur, h1, h2, (hk g (by rw [h1]; rfl)).trans h3, h4⟩
/-- A pair of naturals as the program has it. -/
def ptI (p : Pt) : Int × Int := ((p.1 : Int), (p.2 : Int))
theorem ptI_at {L : List Pt} {j : Nat} (h : j < L.length) : ((L.map ptI)[j]?.getD (0, 0)) = ptI (L[j]?.getD (0, 0)) := by
  rw [List.getElem?_map, List.getElem?_eq_getElem h]; rfl
end Go.Proofs.Ytmbdjjkgjnemiaa
