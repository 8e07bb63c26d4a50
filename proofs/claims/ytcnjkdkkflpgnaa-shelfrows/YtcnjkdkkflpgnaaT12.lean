import Derived.Test.YtcnjkdkkflpgnaaT11
import Derived.DeepKeys4
import Derived.WideKeyPair
import Derived.WideKeyArr2
/- Layer 8: maps to ints that the call makes, as functions of their keys: pages, orders. -/
namespace Go.Proofs.Ytcnjkdkkflpgnaa
open Go.RowKit Go.Maps Go.ChangeShapes Go.WideMaps
open Go.WideElems (Fit rd rg pl rd_val elemAt)
set_option linter.unusedVariables false

theorem Try.laidOut : laidOutB Try.prog = true := by kernel_rfl
theorem cellsInt : Try.prog.cellsOf 3 = 1 := by kernel_rfl
theorem wfI {x : Int} (h : -1099511627776 ≤ x ∧ x ≤ 1099511627776) : (Lit.int .i64 x).wf = true := WalkArith.wf_i64 (by omega)
theorem wideOr : (match Try.prog.underlying 80 with | some (.array _ _) | some (.struct _) => true | _ => false) = true := by kernel_rfl
theorem rowOr : (80 : TypeId) < Try.prog.types.size := of_decide_eq_true (by kernel_rfl)
set_option maxRecDepth 100000 in
theorem keyOr : Keyed Try.prog 80 := Keyed.of_law (deep_law_laid Try.laidOut (m := 2) (by omega) rowOr (by kernel_rfl) wideOr)
set_option maxRecDepth 100000 in
theorem keyTypeOr : Try.prog.keyType 80 = true := by kernel_rfl
theorem cellsOr : Try.prog.cellsOf 80 = 6 := by kernel_rfl
theorem keyOfOr {a b c d e f : Int} (ha : (Lit.int .i64 a).wf = true) (hb : (Lit.int .i64 b).wf = true) (hc : (Lit.int .i64 c).wf = true) (hd : (Lit.int .i64 d).wf = true) (he : (Lit.int .i64 e).wf = true) (hf : (Lit.int .i64 f).wf = true) :
    keyOf Try.prog 80 (.agg #[.int .i64 a, .int .i64 b, .int .i64 c, .int .i64 d, .int .i64 e, .int .i64 f]) = some (.string (keyBytes [.int .i64 a, .int .i64 b, .int .i64 c, .int .i64 d, .int .i64 e, .int .i64 f])) := by
  unfold keyOf
  simp only [Try.underlying80]
  rw [if_pos (by simp [keyTypeOr, Value.formed, Try.underlying80, cellsOr])]
  obtain ⟨m, hm⟩ : ∃ m, Try.prog.types.size + 1 = m + 1 + 1 := ⟨Try.prog.types.size - 1, by have h : 0 < Try.prog.types.size := Nat.lt_of_le_of_lt (Nat.zero_le _) rowOr; omega⟩
  rw [hm]
  unfold Program.keyLits
  simp only [Try.underlying80]
  rw [if_pos (by rw [cellsOr]; rfl), show List.range 6 = [0, 1, 2, 3, 4, 5] from rfl, List.mapM_cons, List.mapM_cons, List.mapM_cons, List.mapM_cons, List.mapM_cons, List.mapM_cons, List.mapM_nil]
  simp [Program.keyLits, cellsInt, Try.underlying3, Value.cells, ha, hb, hc, hd, he, hf]
/-- Keys of one type, each a value and its letter. -/
structure KeyEnc (kt : TypeId) (S : Type) where
  kv : S → Value
  kl : S → Lit
  ok : S → Prop
  keyed : Keyed Try.prog kt
  key : ∀ x, ok x → keyOf Try.prog kt (kv x) = some (kl x)
  inj : ∀ x y, ok x → ok y → kv x = kv y → x = y
theorem KeyEnc.lit {kt : TypeId} {S : Type} (E : KeyEnc kt S) {x : S} (h : E.ok x) : WideAt.IsKeyLit (E.kl x) := E.keyed.key (E.key x h)
theorem KeyEnc.ne {kt : TypeId} {S : Type} (E : KeyEnc kt S) {x y : S} (hx : E.ok x) (hy : E.ok y) (h : x ≠ y) : E.kl x ≠ E.kl y := fun e => by
  have h1 := E.key x hx
  rw [e] at h1
  exact h (E.inj x y hx hy (E.keyed.inj h1 (E.key y hy)))
/-- Ints. -/
def encInt : KeyEnc 3 Int where
  kv x := .int .i64 x
  kl x := .int .i64 x
  ok x := -1099511627776 ≤ x ∧ x ≤ 1099511627776
  keyed := int_keyed Try.underlying3
  key x h := keyOf_int_mk Try.underlying3 (wfI h)
  inj x y _ _ h := by injection h
/-- An order whose numbers are small. -/
def smallO (o : List Int) : Prop := o.length = 6 ∧ ∀ k, -1099511627776 ≤ atI o k ∧ atI o k ≤ 1099511627776
theorem oV_inj {o p : List Int} (ho : o.length = 6) (hp : p.length = 6) (h : oV o = oV p) : o = p := by
  unfold oV at h
  injection h with h
  have h := congrArg Array.toList h
  simp at h
  obtain ⟨h0, h1, h2, h3, h4, h5⟩ := h
  refine List.ext_getElem (by omega) fun k hk hk2 => ?_
  have e : ∀ (l : List Int) (hl : k < l.length), l[k] = atI l k := fun l hl => by unfold atI; rw [List.getElem?_eq_getElem hl]; rfl
  rw [e o hk, e p hk2]
  match k, (show k < 6 by omega) with
  | 0, _ => exact h0
  | 1, _ => exact h1
  | 2, _ => exact h2
  | 3, _ => exact h3
  | 4, _ => exact h4
  | 5, _ => exact h5
def encOr : KeyEnc 80 (List Int) where
  kv o := oV o
  kl o := .string (keyBytes [.int .i64 (atI o 0), .int .i64 (atI o 1), .int .i64 (atI o 2), .int .i64 (atI o 3), .int .i64 (atI o 4), .int .i64 (atI o 5)])
  ok := smallO
  keyed := keyOr
  key o h := keyOfOr (wfI (h.2 0)) (wfI (h.2 1)) (wfI (h.2 2)) (wfI (h.2 3)) (wfI (h.2 4)) (wfI (h.2 5))
  inj o p ho hp h := oV_inj ho.1 hp.1 h

section
variable {kt : TypeId} {S : Type} (E : KeyEnc kt S)
/-- The datum holds at each key what f says. -/
def Rdk (D : DataW Unit) (f : S → Option Lit) : Prop := IsMap D ∧ ∀ x, E.ok x → Maps.has D (E.kl x) = (f x).isSome ∧ ∀ z, D.atKey (E.kl x) z = ((f x).map DataW.lit).getD z
def putK [DecidableEq S] (f : S → Option Lit) (x : S) (l : Lit) : S → Option Lit := fun k => if k = x then some l else f k
theorem Rdk.empty : Rdk E (.map []) (fun _ => none) := ⟨isMap_empty, fun _ _ => ⟨rfl, fun _ => rfl⟩⟩
theorem Rdk.put [DecidableEq S] {D : DataW Unit} {f : S → Option Lit} (h : Rdk E D f) {x : S} (hx : E.ok x) (l : Lit) : Rdk E (D.put (E.kl x) (.lit l)) (putK f x l) := by
  refine ⟨h.1.put _ _, fun k hk => ?_⟩
  unfold putK
  by_cases e : k = x
  · subst e
    rw [if_pos rfl]
    exact ⟨has_put_same h.1 (E.lit hk) _, fun z => atKey_put_same h.1 (E.lit hk) _ z⟩
  · have hne := E.ne hk hx e
    rw [if_neg e]
    exact ⟨(has_put_other hne _).trans (h.2 k hk).1, fun z => (atKey_put_other hne _ z).trans ((h.2 k hk).2 z)⟩
/-- Block b is a map to elements of the plain type e, of at most n entries, that holds what f says. -/
def KM (w : World) (e : TypeId) (b n : Nat) (f : S → Option Lit) : Prop := ∃ D : DataW Unit, w.ownsMap Try.prog kt (plainElem (H := Unit) Try.prog e) b n D ∧ Rdk E D f
theorem KM.made (w : World) (e : TypeId) : KM E (w.alloc (.map #[] 0)) e w.heap.size 0 (fun _ => none) := ⟨_, World.ownsMap_made _ _ _ _, Rdk.empty E⟩
variable {E}
theorem KM.lt {w : World} {e : TypeId} {b n : Nat} {f : S → Option Lit} (h : KM E w e b n f) : b < w.heap.size := by obtain ⟨D, h, _⟩ := h; exact h.lt
theorem KM.heap {w w' : World} {e : TypeId} {b n : Nat} {f : S → Option Lit} (h : KM E w e b n f) (hb : w'.heap[b]? = w.heap[b]?) : KM E w' e b n f := by
  obtain ⟨D, ⟨es, clock, h1, h2⟩, hr⟩ := h
  exact ⟨D, ⟨es, clock, hb.trans h1, h2⟩, hr⟩
theorem KM.below {w w' : World} {B : Nat} {e : TypeId} {b n : Nat} {f : S → Option Lit} (h : KM E w e b n f) (k : Below B w w') (hb : b < B) : KM E w' e b n f := h.heap (k.block b hb)
theorem KM.alloc {w : World} {e : TypeId} {b n : Nat} {f : S → Option Lit} (h : KM E w e b n f) (o : Obj) : KM E (w.alloc o) e b n f := by
  obtain ⟨D, h, hr⟩ := h
  exact ⟨D, h.alloc o, hr⟩
theorem KM.grown {w w' : World} {e : TypeId} {b n : Nat} {f : S → Option Lit} {r : Option Nat} (h : KM E w e b n f) (k : World.grownBy w w' r) (hb : some b ≠ r) : KM E w' e b n f := h.heap (k.block b h.lt hb)
theorem KM.mono {w : World} {e : TypeId} {b n m : Nat} {f : S → Option Lit} (h : KM E w e b n f) (hm : n ≤ m) : KM E w e b m f := by
  obtain ⟨D, h, hr⟩ := h
  exact ⟨D, h.mono hm, hr⟩
theorem zeroI (w : World) : (zeroValue 3).run Try.prog w = .ok (.int .i64 0) w := by kernel_rfl
variable (w : World) {ops : Array Oper} {rest : List Oper} {o : Oper} {a : Act} {Q : Exit → Act → World → Prop}
set_option maxRecDepth 100000 in
/-- 'v, ok := m[k]' at ints. -/
theorem run_lookIk (t : TypeId) (ht : Try.prog.underlying t = some (.map kt 3)) (b n : Nat) (f : S → Option Lit)
    (hown : KM E w 3 b n f) {x : S} (hk : E.ok x) (r : Int) (hr : (f x).getD (.int .i64 0) = .int .i64 r) (s : Bool) (hs : (f x).isSome = s) :
    (Instr.lookup t (.map (some b)) (E.kv x) true).run Try.prog w = .ok (.tuple #[.int .i64 r, .bool s]) w := by
  obtain ⟨D, hD, hR⟩ := hown
  obtain ⟨v, ps, hrun, hv⟩ := hD.look_ok E.keyed ht (zeroI w) (plainElem_int Try.underlying3 (by decide)) (E.key x hk)
  obtain ⟨c, rfl, hc, _⟩ := plainElem_int_inv Try.underlying3 hv
  have hat := (hR.2 x hk).2 (.lit (.int .i64 0))
  have h1 : (DataW.lit (.int .i64 c) : DataW Unit) = ((f x).map DataW.lit).getD (.lit (.int .i64 0)) := by
    rw [← hat]; exact (congrArg Prod.fst hc).symm
  have h2 : ((f x).map (DataW.lit (H := Unit))).getD (.lit (.int .i64 0)) = .lit ((f x).getD (.int .i64 0)) := by cases f x <;> rfl
  rw [h2, hr] at h1
  injection h1 with h1
  injection h1 with _ h1
  subst h1
  rw [(hR.2 x hk).1, hs] at hrun
  exact hrun
set_option maxRecDepth 100000 in
theorem run_lookI (t : TypeId) (ht : Try.prog.underlying t = some (.map kt 3)) (b n : Nat) (f : S → Option Lit)
    (hown : KM E w 3 b n f) {x : S} (hk : E.ok x) (r : Int) (hr : (f x).getD (.int .i64 0) = .int .i64 r) :
    (Instr.lookup t (.map (some b)) (E.kv x) false).run Try.prog w = .ok (.int .i64 r) w := by
  obtain ⟨D, hD, hR⟩ := hown
  obtain ⟨v, ps, hrun, hv⟩ := hD.lookup E.keyed ht (zeroI w) (plainElem_int Try.underlying3 (by decide)) (E.key x hk)
  obtain ⟨c, rfl, hc, _⟩ := plainElem_int_inv Try.underlying3 hv
  have hat := (hR.2 x hk).2 (.lit (.int .i64 0))
  have h1 : (DataW.lit (.int .i64 c) : DataW Unit) = ((f x).map DataW.lit).getD (.lit (.int .i64 0)) := by
    rw [← hat]; exact (congrArg Prod.fst hc).symm
  have h2 : ((f x).map (DataW.lit (H := Unit))).getD (.lit (.int .i64 0)) = .lit ((f x).getD (.int .i64 0)) := by cases f x <;> rfl
  rw [h2, hr] at h1
  injection h1 with h1
  injection h1 with _ h1
  subst h1
  exact hrun
/-- The run of 'm[k] = v'. -/
theorem run_storeK [DecidableEq S] {e : TypeId} {b n : Nat} {F : S → Option Lit} (h : KM E w e b n F) (t : TypeId) (ht : Try.prog.underlying t = some (.map kt e)) (hn : n ≤ 1099511627776) {k : S} (hk : E.ok k) (val : Value) (l : Lit) (hl : plainElem (H := Unit) Try.prog e val = some (.lit l, [])) :
    ∃ w', (Instr.mapUpdate t (.map (some b)) (E.kv k) val).run Try.prog w = .ok () w' ∧ KM E w' e b (n + 1) (putK F k l) ∧ World.grownBy w w' (some b) := by
  obtain ⟨D, hD, hR⟩ := h
  obtain ⟨w', h1, h2, h3⟩ := hD.update E.keyed ht (by unfold maxLen; omega) (E.key k hk) hl
  exact ⟨w', h1, ⟨_, h2, hR.put E hk l⟩, h3⟩
/-- 'm[k] = v'. -/
theorem storeK_law [DecidableEq S] (hg : o.guard = none) (m x v : Operand) (t : TypeId) (hop : o.op = Op.mapUpdate t m x v) (e : TypeId) (ht : Try.prog.underlying t = some (.map kt e)) (b n : Nat) (f : S → Option Lit)
    (hm : a.eval m = .map (some b)) (hown : KM E w e b n f) (hn : n ≤ 1099511627776) {k : S} (hk : E.ok k) (hx : a.eval x = E.kv k) (val : Value) (hv : a.eval v = val) (l : Lit) (hl : plainElem (H := Unit) Try.prog e val = some (.lit l, []))
    (hK : ∀ w', KM E w' e b (n + 1) (putK f k l) → World.grownBy w w' (some b) → wpList Try.prog ops Q rest (a.put o.dst undef) w') : wpList Try.prog ops Q (o :: rest) a w := by
  obtain ⟨D, hD, hR⟩ := hown
  exact wpList_mapUpdate_own w hg m x v t hop kt e E.keyed ht _ b n D hm hD (by unfold maxLen; omega) _ _ _ hx hv (E.key k hk) _ [] hl fun w' h1 h2 => hK w' ⟨_, h1, hR.put E hk l⟩ h2
end
end Go.Proofs.Ytcnjkdkkflpgnaa
/- Layer 8: nextRequests. -/
namespace Go.Proofs.Ytcnjkdkkflpgnaa
open Go.RowKit Go.Shelf Go.Maps
set_option linter.unusedVariables false
attribute [local go_sem] Oper.semAt_some

/-- For each page: the position of the first request for it among the last j ones. -/
def sN (zs : List Int) : Nat → Int → Option Lit
  | 0 => fun _ => none
  | j + 1 => putK (sN zs j) (atI zs (zs.length - 1 - j)) (.int .i64 ((zs.length - 1 - j : Nat) : Int))
def litI : Option Lit → Int
  | some (.int _ a) => a
  | _ => 0
/-- The position of the next request for the same page as at i, or the number of requests. -/
def nxt (zs : List Int) (i : Nat) : Int := match sN zs (zs.length - 1 - i) (atI zs i) with
  | none => (zs.length : Int)
  | some l => litI (some l)
def nextL (zs : List Int) (j : Nat) : List Int := (List.range zs.length).map fun i => if zs.length - j ≤ i then nxt zs i else 0
theorem nextL_len (zs : List Int) (j : Nat) : (nextL zs j).length = zs.length := by simp [nextL]
theorem nextL_zero (zs : List Int) : nextL zs 0 = List.replicate zs.length 0 := by
  refine List.ext_getElem (by simp [nextL]) fun i h1 h2 => ?_
  rw [nextL_len] at h1
  simp [nextL]
  omega
theorem nextL_set (zs : List Int) {j : Nat} (h : j < zs.length) : (nextL zs j).set (zs.length - 1 - j) (nxt zs (zs.length - 1 - j)) = nextL zs (j + 1) := by
  refine List.ext_getElem (by simp [nextL]) fun i h1 h2 => ?_
  rw [nextL_len] at h2
  rw [List.getElem_set]
  split
  · rename_i e
    subst e
    simp [nextL]
    omega
  · rename_i e
    simp only [nextL, List.getElem_map, List.getElem_range]
    by_cases hc : zs.length - j ≤ i
    · rw [if_pos hc, if_pos (by omega)]
    · rw [if_neg hc, if_neg (by omega)]
/-- What the map holds is a position behind. -/
theorem sN_int (zs : List Int) : ∀ j, j ≤ zs.length → ∀ x l, sN zs j x = some l → ∃ k : Nat, l = .int .i64 (k : Int) ∧ zs.length - j ≤ k ∧ k < zs.length
  | 0, _, x, l, h => by cases h
  | j + 1, hj, x, l, h => by
    unfold sN putK at h
    split at h
    · injection h with h
      exact ⟨zs.length - 1 - j, h.symm, by omega, by omega⟩
    · obtain ⟨k, h1, h2, h3⟩ := sN_int zs j (by omega) x l h
      exact ⟨k, h1, by omega, h3⟩
theorem nxt_bnd (zs : List Int) {i : Nat} (h : i < zs.length) : ∃ k : Nat, nxt zs i = (k : Int) ∧ i < k ∧ k ≤ zs.length := by
  unfold nxt
  split
  · exact ⟨zs.length, rfl, h, Nat.le_refl _⟩
  · rename_i l hl
    obtain ⟨k, rfl, h2, h3⟩ := sN_int zs _ (by omega) _ _ hl
    exact ⟨k, rfl, by omega, by omega⟩
/-- What nextRequests keeps. -/
structure NrI (w : World) (zs : List Int) (A : Option Addr) (n c b1 pb bn mb mx : Nat) (j : Nat) (V : World) : Prop where
  r1 : V.heap[b1]? = some (.cells #[.slice A n c] 22 (0, 0))
  ow : Ow V w.heap.size 3 (.slice (some ⟨pb, 0, none⟩) n n) (nextL zs j)
  rn : V.heap[bn]? = some (.cells #[.slice (some ⟨pb, 0, none⟩) n n] 22 (0, 0))
  km : KM encInt V 3 mb j (sN zs j)
  rx : V.heap[mx]? = some (.cells #[.map (some mb)] 101 (0, 0))
  bl : Below w.heap.size w V
theorem NrI.sure (w : World) (zs : List Int) (A : Option Addr) (n c b1 pb bn mb mx B : Nat) (hB : b1 < B ∧ pb < B ∧ bn < B ∧ mb < B ∧ mx < B ∧ w.heap.size ≤ B) : Sure B (NrI w zs A n c b1 pb bn mb mx) := fun s W W' h hb => by
  obtain ⟨h1, h2, h3, h4, h5, h6⟩ := hB
  exact ⟨(hb.block _ h1).trans h.r1, h.ow.at_ (hb.block _ h2), (hb.block _ h3).trans h.rn, h.km.below hb h4, (hb.block _ h5).trans h.rx, h.bl.trans (hb.mono h6)⟩
/-- After the store into the list, before the one into the map. -/
structure NrI6 (w : World) (zs : List Int) (A : Option Addr) (n c b1 pb bn mb mx : Nat) (j : Nat) (V : World) : Prop where
  r1 : V.heap[b1]? = some (.cells #[.slice A n c] 22 (0, 0))
  ow : Ow V w.heap.size 3 (.slice (some ⟨pb, 0, none⟩) n n) (nextL zs (j + 1))
  rn : V.heap[bn]? = some (.cells #[.slice (some ⟨pb, 0, none⟩) n n] 22 (0, 0))
  km : KM encInt V 3 mb j (sN zs j)
  rx : V.heap[mx]? = some (.cells #[.map (some mb)] 101 (0, 0))
  bl : Below w.heap.size w V
set_option maxRecDepth 100000 in
set_option maxHeartbeats 6400000 in
theorem next_any (zs : List Int) (A : Option Addr) (n c : Nat) (w : World) (h : Sl w A n c zs) (hn : n ≤ 200) (hz : ∀ i, i < n → 0 ≤ atI zs i ∧ atI zs i < 16) :
    Calls Try.prog 48 #[.slice A n c] w fun e w' => (∃ v, e = .returned v ∧ Ow w' w.heap.size 3 v (nextL zs n)) ∧ Below w.heap.size w w' := by
  obtain ⟨R, hR⟩ : ∃ R : Ending → World → Prop, R = fun e w' => (∃ v, e = .returned v ∧ Ow w' w.heap.size 3 v (nextL zs n)) ∧ Below w.heap.size w w' := ⟨_, rfl⟩
  rw [← hR]
  have HRR := Lib.hid hR
  obtain ⟨i0, hi, hz0, hz1, hz2⟩ := info_parts Try.infoInt
  have HI : Hid (Try.prog.info? 3 = some i0 ∧ i0.zero = some (.int .i64 0) ∧ i0.size = 1 ∧ i0.bytes = 8) := ⟨hi, hz0, hz1, hz2⟩
  have HL : Hid (zs.length = n) := h.len
  have HAL : Hid (∀ b off, A = some ⟨b, off, none⟩ → 0 < n → b < w.heap.size) := fun b off hA h0 => by
    obtain ⟨b2, o2, h1, h2⟩ := h.at_ h0
    rw [hA] at h1
    have h1 := Option.some.inj h1
    injection h1 with h1 _ _
    rw [h1]
    exact cell_lt h2
  have HSL := Lib.hid (fun V (hV : Below w.heap.size w V) => h.below hV (Nat.le_refl _))
  have HZ := Lib.hid hz
  have HB0 : Hid (Below w.heap.size w (w.alloc (.cells #[.slice A n c] 22))) := (Below.refl _ w).alloc (Nat.le_refl _) _
  have HR0 : Hid ((w.alloc (.cells #[.slice A n c] 22)).heap[w.heap.size]? = some (.cells #[.slice A n c] 22 (0, 0))) := heap_alloc_new _ _
  have hmm := @run_makeMap Try.prog
  clear hR h hz hi hz0 hz1 hz2
  refine (callsIn_wide (n := 9)).1 ?_
  refine callsIn_of_wp_marks Try.func48 rfl trivial ?_ rfl
  simp only [Try.ntmps48, List.size_toArray, List.length_cons, List.length_nil, Nat.reduceAdd, Nat.reduceSub, Array.replicate_succ, Array.replicate_zero, List.push_toArray, List.append_toArray, List.nil_append, List.cons_append]
  refine wpIn_wide.2 ?_
  obtain ⟨w1, hw1⟩ : ∃ v, v = w.alloc (.cells #[.slice A n c] 22) := ⟨_, rfl⟩
  go_upto_region 1 with (fail)
  rw [← hw1] at HB0 HR0 ⊢
  clear hw1
  have c0 : w1.cell? ⟨w.heap.size, 0, none⟩ = some (.slice A n c) := cell_in HR0.out rfl
  go_upto_region 2 with (at_make; go_must (refine make_law _ rfl (.tmp 10) (.tmp 10) 22 rfl w.heap.size 3 i0 Try.underlying22 HI.out _ _ n rfl rfl (by omega) (by omega) (by omega) HB0.out.size ?_); intro w2 ho2 hg2; have HO2 := Lib.hid ho2; have HG2 := Lib.hid hg2; clear ho2 hg2)
  obtain ⟨W3, hW3⟩ : ∃ V, V = w2.alloc (.cells #[.slice (some ⟨w1.heap.size, 0, none⟩) n n] 22) := ⟨_, rfl⟩
  rw [← hW3]
  have hbe : Below w1.heap.size w1 w2 := ⟨HG2.out.os, HG2.out.tape, HG2.out.output, HG2.out.size, fun k hk => HG2.out.block k hk (by simp)⟩
  have hz1 : w.heap.size < w1.heap.size := (Array.getElem?_eq_some_iff.1 HR0.out).1
  have hz2 : w1.heap.size < w2.heap.size := (HO2.out.lt (k := w1.heap.size) rfl).2
  have hz3 : W3.heap.size = w2.heap.size + 1 := by rw [hW3]; simp
  have hb23 : Below w2.heap.size w2 W3 := by rw [hW3]; exact (Below.refl _ w2).alloc (Nat.le_refl _) _
  have hrn : W3.heap[w2.heap.size]? = some (.cells #[.slice (some ⟨w1.heap.size, 0, none⟩) n n] 22 (0, 0)) := by rw [hW3]; exact heap_alloc_new _ _
  have HZ3 := Lib.hid hz3
  clear hW3 hz3
  go_upto_region 3 with (fail)
  obtain ⟨W4, hW4⟩ : ∃ V, V = (W3.alloc (.map #[] 0)).alloc (.cells #[.map (some W3.heap.size)] 101) := ⟨_, rfl⟩
  rw [← hW4]
  have hz4 : W4.heap.size = W3.heap.size + 2 := by rw [hW4]; simp
  have hb34 : Below W3.heap.size W3 W4 := by rw [hW4]; exact ((Below.refl _ W3).alloc (Nat.le_refl _) _).alloc (by simp) _
  have hkm : KM encInt W4 3 W3.heap.size 0 (sN zs 0) := by rw [hW4]; exact (KM.made encInt W3 3).alloc _
  have hrx : W4.heap[W3.heap.size + 1]? = some (.cells #[.map (some W3.heap.size)] 101 (0, 0)) := by
    rw [hW4]
    have := heap_alloc_new (W3.alloc (.map #[] 0)) (.cells #[.map (some W3.heap.size)] 101)
    simpa using this
  have hz3 := HZ3.out
  clear hW4
  have hb04 : Below w.heap.size w W4 := (((HB0.out.trans (hbe.mono (by omega)))).trans (hb23.mono (by omega))).trans (hb34.mono (by omega))
  have HI4 : Hid (NrI w zs A n c w.heap.size w1.heap.size w2.heap.size W3.heap.size (W3.heap.size + 1) 0 W4) := by
    refine ⟨?_, ?_, (hb34.block _ (by omega)).trans hrn, hkm, hrx, hb04⟩
    · exact (hb34.block _ (by omega)).trans ((hb23.block _ (by omega)).trans ((hbe.block _ hz1).trans HR0.out))
    · have := HO2.out
      rw [show List.replicate n (0 : Int) = nextL zs 0 by rw [nextL_zero, HL.out]] at this
      exact (this.below hb23 (Nat.le_refl _)).below hb34 (Nat.le_refl _)
  have HZS : Hid (w.heap.size < w1.heap.size ∧ w1.heap.size < w2.heap.size ∧ w2.heap.size < W3.heap.size ∧ W3.heap.size + 2 = W4.heap.size) := ⟨hz1, hz2, by omega, by omega⟩
  clear hbe hz1 hz2 hz3 hb23 hrn hz4 hb34 hkm hrx hb04 HZ3 HO2 HG2 c0 HB0 HR0 hmm
  generalize w1.heap.size = pb at *
  generalize w2.heap.size = bn at *
  generalize W3.heap.size = mb at *
  have c0 : W4.cell? ⟨w.heap.size, 0, none⟩ = some (.slice A n c) := cell_in HI4.out.r1 rfl
  have HBK := Lib.hid (backward_any A n c W4)
  obtain ⟨W5, hW5⟩ : ∃ V, V = W4.alloc (.cells #[.slice A n c] 22) := ⟨_, rfl⟩
  have hb45 : Below W4.heap.size W4 W5 := by rw [hW5]; exact (Below.refl _ W4).alloc (Nat.le_refl _) _
  have hr5 : W5.heap[W4.heap.size]? = some (.cells #[.slice A n c] 22 (0, 0)) := by rw [hW5]; exact heap_alloc_new _ _
  have hz5 : W5.heap.size = W4.heap.size + 1 := by rw [hW5]; simp
  have hit := back_ok 8 zs A n c W4.heap.size W5 (HSL.out W5 (HI4.out.bl.trans (hb45.mono HI4.out.bl.size))) hr5
  have HSU : Hid (Sure W5.heap.size (NrI w zs A n c w.heap.size pb bn mb (mb + 1))) := NrI.sure w zs A n c w.heap.size pb bn mb (mb + 1) _ (by have := HZS.out; omega)
  have HI5 : Hid (NrI w zs A n c w.heap.size pb bn mb (mb + 1) 0 W5) := NrI.sure w zs A n c w.heap.size pb bn mb (mb + 1) W4.heap.size (by have := HZS.out; omega) 0 _ _ HI4.out hb45
  have hrd := backRd_lt (HSL.out W5 (HI4.out.bl.trans (hb45.mono HI4.out.bl.size))) (show W4.heap.size < W5.heap.size by omega)
  have HIT := Lib.hid hit
  have HRD := Lib.hid hrd
  have HZ5 := Lib.hid hz5
  have HW5 := Lib.hid hW5
  clear hb45 hr5 hz5 hit hrd hW5
  refine (wpIn_wide (n := 9)).1 ?_
  gi_wp2_with (refine ⟨trivial, ?_⟩; gi_at_call 75; refine (callsIn_wide.2 HBK.out).mono ?_; rintro e w' ⟨rfl, rfl⟩; rw [← HW5.out])
  refine (wpIn_wide (n := 9)).1 ?_
  gi_wp2
  refine range_lawK (n := 8) (gf := 91) (lb := #[.pointer (some ⟨W4.heap.size, 0, none⟩)]) (by rfl) (enters_of Try.func91 (by kernel_rfl) rfl) HIT.out (fun x hx => by obtain ⟨j, hj, rfl⟩ := List.mem_map.1 hx; rfl) HRD.out (NrI w zs A n c w.heap.size pb bn mb (mb + 1)) HSU.out HI5.out ?_ ?_
  · intro l j x W hx hl0 hlW hi
    obtain ⟨hj, rfl⟩ := backL_inv zs hx
    generalize hK : (fun (a₁ : Act) (W₁ : World) => Below W.heap.size W W₁ ∧ ∀ o, _) = K
    have HK := Lib.hid hK; clear hK
    have HII := Lib.hid hi
    rw [HL.out] at hj
    clear hx hi c0
    gi_wp2
    rw [← HK.out]
    refine ⟨Below.refl _ W, fun o => ?_⟩
    clear HK
    obtain ⟨V, hV⟩ : ∃ V, V = W.putObj l o := ⟨_, rfl⟩
    rw [← hV]
    have HV : Hid (NrI w zs A n c w.heap.size pb bn mb (mb + 1) j V) := by rw [Hid, hV]; exact HSU.out j W _ HII.out (below_put W hl0 o)
    obtain ⟨i, hi⟩ : ∃ i, i = zs.length - 1 - j := ⟨_, rfl⟩
    rw [← hi]
    have hll := HL.out
    have hin : i < n := by omega
    have hzs := HZS.out
    have hz5 := HZ5.out
    have hpz := HZ.out i hin
    have HSN : Hid (sN zs (j + 1) = putK (sN zs j) (atI zs i) (.int .i64 (i : Int))) := by rw [hi]; rfl
    obtain ⟨page, hpg⟩ : ∃ p, p = atI zs i := ⟨_, rfl⟩
    rw [← hpg] at hpz HSN
    rw [← hpg]
    have hVs : W5.heap.size ≤ V.heap.size := by rw [hV]; simp; omega
    have c1 : V.cell? ⟨w.heap.size, 0, none⟩ = some (.slice A n c) := cell_in HV.out.r1 rfl
    have cn : V.cell? ⟨bn, 0, none⟩ = some (.slice (some ⟨pb, 0, none⟩) n n) := cell_in HV.out.rn rfl
    have cx : V.cell? ⟨mb + 1, 0, none⟩ = some (.map (some mb)) := cell_in HV.out.rx rfl
    have cp := HV.out.ow.cellAt (by rw [nextL_len]; omega) hin
    have fp := HV.out.ow.free (by rw [nextL_len]; omega) i
    have i3 : (0 : Int) ≤ (i : Int) := by omega
    have i4 : (i : Int) < (n : Int) := by omega
    clear hV
    generalize ((nextL zs j)[i]?.getD 0) = z0 at cp
    rcases hs : sN zs j page with _ | lq
    · have hnx : nxt zs i = (n : Int) := by
        unfold nxt
        rw [show zs.length - 1 - i = j by omega, ← hpg, hs]
        simp only
        omega
      have l1 := run_lookIk V 101 Try.underlying101 mb j (sN zs j) HV.out.km (x := page) ⟨by omega, by omega⟩ (0) (by rw [hs]; rfl) false (by rw [hs]; rfl)
      have l1 : (Instr.lookup 101 (.map (some mb)) (.int .i64 page) true).run Try.prog V = .ok (.tuple #[.int .i64 (0), .bool false]) V := l1
      obtain ⟨V6, hV6⟩ : ∃ X, X = V.setCell ⟨pb, i, none⟩ (.int .i64 ((n : Int))) := ⟨_, rfl⟩
      have h6 : NrI6 w zs A n c w.heap.size pb bn mb (mb + 1) j V6 := by
        refine ⟨?_, ?_, ?_, ?_, ?_, ?_⟩
        · rw [hV6, set_oth (by omega)]; exact HV.out.r1
        · rw [hV6, ← nextL_set zs (show j < zs.length by omega), ← hi, hnx]
          exact HV.out.ow.put (by rw [nextL_len]; omega) i _
        · rw [hV6, set_oth (by omega)]; exact HV.out.rn
        · rw [hV6]; exact HV.out.km.heap (set_oth (by omega))
        · rw [hV6, set_oth (by omega)]; exact HV.out.rx
        · rw [hV6]; exact HV.out.bl.setCell (p := ⟨pb, i, none⟩) (by show w.heap.size ≤ pb; omega) _
      obtain ⟨w7, u1, u2, u3⟩ := run_storeK V6 h6.km 101 Try.underlying101 (by omega) (k := page) ⟨by omega, by omega⟩ (.int .i64 (i : Int)) (.int .i64 (i : Int)) (plainElem_int Try.underlying3 (wfI ⟨by omega, by omega⟩))
      have u1 : (Instr.mapUpdate 101 (.map (some mb)) (.int .i64 page) (.int .i64 (i : Int))).run Try.prog (V.setCell ⟨pb, i, none⟩ (.int .i64 ((n : Int)))) = .ok () w7 := by rw [← hV6]; exact u1
      have e1 : (V.setCell ⟨pb, i, none⟩ (.int .i64 ((n : Int)))).cell? ⟨mb + 1, 0, none⟩ = some (.map (some mb)) := by rw [← hV6]; exact cell_in h6.rx rfl
      have hsz6 : V6.heap.size = V.heap.size := by rw [hV6]; simp [World.setCell]
      have HFI : Hid (LeaveK (backRd A n W4.heap.size) W5.heap.size (NrI w zs A n c w.heap.size pb bn mb (mb + 1)) (j + 1) V .normal { tmps := #[], defers := [] } w7) := by
        have hmb := h6.km.lt
        refine ⟨⟨u3.os.trans (by rw [hV6]; rfl), u3.tape.trans (by rw [hV6]; rfl), u3.output.trans (by rw [hV6]; rfl), by have := u3.size; omega, fun k hk hor => ?_⟩, ?_, ?_, ?_, ?_, ?_, ?_⟩
        · have hk1 : k ≠ mb ∧ k ≠ pb := by
            rcases hor with (e | ⟨_, off, e⟩) | e
            · omega
            · subst e
              have := HAL.out k off rfl (by omega)
              omega
            · omega
          rw [u3.block k (by omega) (fun e => hk1.1 (Option.some.inj e)), hV6, set_oth hk1.2]
        · exact (u3.block _ (by omega) (fun e => by have := Option.some.inj e; omega)).trans h6.r1
        · exact h6.ow.at_ (u3.block _ (by omega) (fun e => by have := Option.some.inj e; omega))
        · exact (u3.block _ (by omega) (fun e => by have := Option.some.inj e; omega)).trans h6.rn
        · rw [HSN.out]; exact u2
        · exact (u3.block _ (by omega) (fun e => by have := Option.some.inj e; omega)).trans h6.rx
        · exact h6.bl.grown u3 (by omega) (fun k e => by have := Option.some.inj e; omega)
      clear u2 u3 h6 hsz6 hV6 hnx hs hpg hi hz5 hzs hll hpz
      gi_wp2
      exact HFI.out
    · obtain ⟨q, rfl, hq1, hq2⟩ := sN_int zs j (by omega) page lq hs
      have hnx : nxt zs i = (q : Int) := by
        unfold nxt
        rw [show zs.length - 1 - i = j by omega, ← hpg, hs]
        rfl
      have l1 := run_lookIk V 101 Try.underlying101 mb j (sN zs j) HV.out.km (x := page) ⟨by omega, by omega⟩ ((q : Int)) (by rw [hs]; rfl) true (by rw [hs]; rfl)
      have l1 : (Instr.lookup 101 (.map (some mb)) (.int .i64 page) true).run Try.prog V = .ok (.tuple #[.int .i64 ((q : Int)), .bool true]) V := l1
      obtain ⟨V6, hV6⟩ : ∃ X, X = V.setCell ⟨pb, i, none⟩ (.int .i64 ((q : Int))) := ⟨_, rfl⟩
      have h6 : NrI6 w zs A n c w.heap.size pb bn mb (mb + 1) j V6 := by
        refine ⟨?_, ?_, ?_, ?_, ?_, ?_⟩
        · rw [hV6, set_oth (by omega)]; exact HV.out.r1
        · rw [hV6, ← nextL_set zs (show j < zs.length by omega), ← hi, hnx]
          exact HV.out.ow.put (by rw [nextL_len]; omega) i _
        · rw [hV6, set_oth (by omega)]; exact HV.out.rn
        · rw [hV6]; exact HV.out.km.heap (set_oth (by omega))
        · rw [hV6, set_oth (by omega)]; exact HV.out.rx
        · rw [hV6]; exact HV.out.bl.setCell (p := ⟨pb, i, none⟩) (by show w.heap.size ≤ pb; omega) _
      obtain ⟨w7, u1, u2, u3⟩ := run_storeK V6 h6.km 101 Try.underlying101 (by omega) (k := page) ⟨by omega, by omega⟩ (.int .i64 (i : Int)) (.int .i64 (i : Int)) (plainElem_int Try.underlying3 (wfI ⟨by omega, by omega⟩))
      have u1 : (Instr.mapUpdate 101 (.map (some mb)) (.int .i64 page) (.int .i64 (i : Int))).run Try.prog (V.setCell ⟨pb, i, none⟩ (.int .i64 ((q : Int)))) = .ok () w7 := by rw [← hV6]; exact u1
      have e1 : (V.setCell ⟨pb, i, none⟩ (.int .i64 ((q : Int)))).cell? ⟨mb + 1, 0, none⟩ = some (.map (some mb)) := by rw [← hV6]; exact cell_in h6.rx rfl
      have hsz6 : V6.heap.size = V.heap.size := by rw [hV6]; simp [World.setCell]
      have HFI : Hid (LeaveK (backRd A n W4.heap.size) W5.heap.size (NrI w zs A n c w.heap.size pb bn mb (mb + 1)) (j + 1) V .normal { tmps := #[], defers := [] } w7) := by
        have hmb := h6.km.lt
        refine ⟨⟨u3.os.trans (by rw [hV6]; rfl), u3.tape.trans (by rw [hV6]; rfl), u3.output.trans (by rw [hV6]; rfl), by have := u3.size; omega, fun k hk hor => ?_⟩, ?_, ?_, ?_, ?_, ?_, ?_⟩
        · have hk1 : k ≠ mb ∧ k ≠ pb := by
            rcases hor with (e | ⟨_, off, e⟩) | e
            · omega
            · subst e
              have := HAL.out k off rfl (by omega)
              omega
            · omega
          rw [u3.block k (by omega) (fun e => hk1.1 (Option.some.inj e)), hV6, set_oth hk1.2]
        · exact (u3.block _ (by omega) (fun e => by have := Option.some.inj e; omega)).trans h6.r1
        · exact h6.ow.at_ (u3.block _ (by omega) (fun e => by have := Option.some.inj e; omega))
        · exact (u3.block _ (by omega) (fun e => by have := Option.some.inj e; omega)).trans h6.rn
        · rw [HSN.out]; exact u2
        · exact (u3.block _ (by omega) (fun e => by have := Option.some.inj e; omega)).trans h6.rx
        · exact h6.bl.grown u3 (by omega) (fun k e => by have := Option.some.inj e; omega)
      clear u2 u3 h6 hsz6 hV6 hnx hs hpg hi hz5 hzs hll hpz
      gi_wp2
      exact HFI.out
  · intro D V hD hi hDef
    rw [backL_len, HL.out] at hi
    have HDF := Lib.hid hDef
    have HV := Lib.hid hi
    have cn : V.cell? ⟨bn, 0, none⟩ = some (.slice (some ⟨pb, 0, none⟩) n n) := cell_in HV.out.rn rfl
    clear hDef hi c0
    gi_wp2
    refine (wpIn_wide (n := 9)).1 ?_
    gi_wp2
    refine ⟨by simp, .inl ⟨_, _, rfl, run_takeDeferred HDF.out, ?_⟩⟩
    refine ⟨.slice (some ⟨pb, 0, none⟩) n n, ?_, ?_⟩
    · simp [results, Try.f48, go_sem]
    · rw [HRR.out]
      have hz := HZS.out
      have hz5 := HZ5.out
      exact ⟨⟨_, rfl, HV.out.ow.at_ (World.putObj_heap_other (by omega))⟩, HV.out.bl.trans (below_put _ (by omega) _)⟩
end Go.Proofs.Ytcnjkdkkflpgnaa
/- Layer 8: Best. -/
namespace Go.Proofs.Ytcnjkdkkflpgnaa
open Go.RowKit Go.Maps
set_option linter.unusedVariables false

def rkBest (zs : List Int) : Stay → Int := fun st => - atI (nextL zs zs.length) st.2
theorem rF_last (rk : Stay → Int) (k : Int) (zs : List Int) : ∀ i x st, rF rk k zs i x = some st → st.2 < i
  | 0, x, st, h => by cases h
  | i + 1, x, st, h => by
    have h : putS (rmS (rF rk k zs i) (goneS (rF rk k zs i) k rk (atI zs i))) (atI zs i) (gotS (rmS (rF rk k zs i) (goneS (rF rk k zs i) k rk (atI zs i))) (atI zs i) i) x = some st := h
    unfold putS at h
    split at h
    · injection h with h
      subst h
      unfold gotS
      split
      · exact Nat.lt_succ_self i
      · exact Nat.lt_succ_self i
    · have : rF rk k zs i x = some st := by
        unfold rmS at h
        split at h
        · exact h
        · unfold delS at h
          split at h
          · cases h
          · exact h
      have := rF_last rk k zs i x st this
      omega
theorem nextL_bnd (zs : List Int) (i : Nat) : 0 ≤ atI (nextL zs zs.length) i ∧ atI (nextL zs zs.length) i ≤ (zs.length : Int) := by
  unfold atI
  by_cases h : i < zs.length
  · rw [List.getElem?_eq_getElem (by rw [nextL_len]; exact h), Option.getD_some]
    simp only [nextL, List.getElem_map, List.getElem_range]
    rw [if_pos (by omega)]
    obtain ⟨k, e, h1, h2⟩ := nxt_bnd zs h
    omega
  · rw [List.getElem?_eq_none (by rw [nextL_len]; omega)]
    exact ⟨Int.le_refl _, by show (0 : Int) ≤ _; omega⟩
set_option maxRecDepth 100000 in
theorem rankBest (w : World) (zs : List Int) (k : Int) (rk : Stay → Int) (B : Option Addr) (n d q i : Nat) (hn : zs.length = n) (hn2 : n ≤ 200) (hi : i ≤ n) (hq : w.heap[q]? = some (.cells #[.slice B n d] 22 (0, 0))) (hs : Sl w B n d (nextL zs n)) :
    RankFn w (rF rk k zs i) (rkBest zs) 49 #[.pointer (some ⟨q, 0, none⟩)] := by
  refine ⟨enters_of Try.func49 (by kernel_rfl) rfl, fun x st hx V hV => ?_⟩
  show Calls Try.prog 49 #[.agg #[.int .i64 (st.1 : Int), .int .i64 (st.2 : Int)], .pointer (some ⟨q, 0, none⟩)] V _
  have hlt := rF_last rk k zs i x st hx
  have hlt2 : st.2 < n := by omega
  subst hn
  obtain ⟨V1, hV1⟩ : ∃ X, X = V.alloc (.cells #[.int .i64 (st.1 : Int), .int .i64 (st.2 : Int)] 69) := ⟨_, rfl⟩
  have hb1 : Below V.heap.size V V1 := by rw [hV1]; exact (Below.refl _ V).alloc (Nat.le_refl _) _
  have hbw : Below w.heap.size w V1 := hV.trans (hb1.mono hV.size)
  have hr : V1.heap[V.heap.size]? = some (.cells #[.int .i64 (st.1 : Int), .int .i64 (st.2 : Int)] 69 (0, 0)) := by rw [hV1]; exact heap_alloc_new _ _
  have d0 : V1.cell? ⟨q, 0, none⟩ = some (.slice B zs.length d) := cell_in ((hbw.block q (Array.getElem?_eq_some_iff.1 hq).1).trans hq) rfl
  have d1 : V1.cell? ⟨V.heap.size, 1, none⟩ = some (.int .i64 (st.2 : Int)) := cell_in hr rfl
  obtain ⟨b, off, rfl, hc⟩ := (hs.below hbw (Nat.le_refl _)).at_ hlt2
  rw [show (nextL zs zs.length)[st.2]?.getD 0 = atI (nextL zs zs.length) st.2 from rfl] at hc
  have hbn := nextL_bnd zs st.2
  have HB := Lib.hid hb1
  have HV1 := Lib.hid hV1
  have e0 : rkBest zs st = - atI (nextL zs zs.length) st.2 := rfl
  rw [e0]
  generalize atI (nextL zs zs.length) st.2 = z at *
  have v1 : IntKind.i64.wrap (-z) = -z := IntWalk.i64_in _ (by omega)
  have i1 : (st.2 : Int) < (zs.length : Int) := by omega
  clear hV1 hb1 hbw hr hs hq hV hx e0 hlt hbn
  go_enter Try.func49, Try.ntmps49
  go_upto_region 1 with (fail)
  rw [← HV1.out]
  go_wp2
  go_ret
  exact ⟨rfl, HB.out⟩
set_option maxRecDepth 100000 in
set_option maxHeartbeats 6400000 in
theorem best_any (k : Int) (zs : List Int) (A : Option Addr) (n c : Nat) (w : World) (h : Sl w A n c zs) :
    Calls Try.prog 19 #[.slice A n c, .int .i64 k] w fun e w' => ((reqB zs 200 15 = true ∧ placesB k = true ∧ ∃ v, e = .returned (.tuple #[.int .i64 (rC (rkBest zs) k zs n), v, .int .i64 0]) ∧ Ow w' w.heap.size 3 v (rP (rkBest zs) k zs n)) ∨ ((reqB zs 200 15 = false ∨ placesB k = false) ∧ e = .returned (.tuple #[.int .i64 0, .slice none 0 0, .int .i64 2]))) ∧ Below w.heap.size w w' := by
  have HA := Lib.hid (areRequests_any zs A n c w h)
  have HP := Lib.hid (fun V => isPlaces_any k V)
  have HSL := Lib.hid (fun V (hV : Below w.heap.size w V) => h.below hV (Nat.le_refl _))
  have HL : Hid (zs.length = n) := h.len
  have hbig := h.big
  clear h
  rw [show (decide (1 ≤ k) && decide (k ≤ 8)) = placesB k from rfl] at HP
  cases h1 : reqB zs 200 15
  · rw [h1] at HA
    go_enter Try.func19, Try.ntmps19
    go_wp2_with (go_at_call 43; refine HA.out.mono ?_; rintro e w1 ⟨rfl, hb1⟩; have HB1 := Lib.hid hb1; clear hb1)
    go_ret3
    exact ⟨.inr ⟨.inl (by simp), rfl⟩, HB1.out⟩
  · rw [h1] at HA
    obtain ⟨hn, hz⟩ := reqB_parts h1
    rw [HL.out] at hn hz
    cases h2 : placesB k
    · rw [h2] at HP
      go_enter Try.func19, Try.ntmps19
      go_wp2_with (first
        | (go_at_call 43; refine HA.out.mono ?_; rintro e w1 ⟨rfl, hb1⟩; have HB1 := Lib.hid hb1; clear hb1)
        | (go_at_call 44; refine (HP.out _).mono ?_; rintro e w2 ⟨rfl, rfl⟩))
      go_ret3
      exact ⟨.inr ⟨.inr (by simp), rfl⟩, HB1.out⟩
    · rw [h2] at HP
      have hk : 1 ≤ k ∧ k ≤ 8 := by unfold placesB at h2; rw [Bool.and_eq_true, decide_eq_true_iff, decide_eq_true_iff] at h2; exact h2
      have HNX := Lib.hid (fun V (hV : Below w.heap.size w V) => next_any zs A n c V (HSL.out V hV) hn hz)
      have HRU := Lib.hid (fun (V : World) (hV : Below w.heap.size w V) (B : Option Addr) (d q : Nat) (hq : V.heap[q]? = some (.cells #[.slice B n d] 22 (0, 0))) (hs : Sl V B n d (nextL zs n)) => run_any (rkBest zs) k zs A n c 49 #[.pointer (some ⟨q, 0, none⟩)] V (HSL.out V hV) hn hk hz (fun i hi => rankBest V zs k (rkBest zs) B n d q i HL.out hn (by omega) hq hs))
      clear hz hk
      go_enter Try.func19, Try.ntmps19
      go_upto_region 4 with (first
        | (go_at_call 43; refine HA.out.mono ?_; rintro e w1 ⟨rfl, hb1⟩; have HB1 := Lib.hid hb1; clear hb1)
        | (go_at_call 44; refine (HP.out _).mono ?_; rintro e w2 ⟨rfl, rfl⟩)
        | (go_at_call 48; refine (HNX.out _ HB1.out).mono ?_; rintro e w3 ⟨⟨v, rfl, hv⟩, hb⟩; obtain ⟨B, d, rfl, hsl⟩ := hv.sl_len (n := n) (by rw [nextL_len]; exact HL.out) (by omega); have HSX := Lib.hid hsl; have HB3 := Lib.hid (HB1.out.trans (hb.mono HB1.out.size)); clear hv hb hsl))
      have hsl := HSX.out
      obtain ⟨W4, hW4⟩ : ∃ X, X = w3.alloc (.cells #[.slice B n d] 22) := ⟨_, rfl⟩
      rw [← hW4]
      have hb4 : Below w3.heap.size w3 W4 := by rw [hW4]; exact (Below.refl _ w3).alloc (Nat.le_refl _) _
      have HB4 : Hid (Below w.heap.size w W4) := HB3.out.trans (hb4.mono HB3.out.size)
      have HRV := Lib.hid (HRU.out W4 HB4.out B d w3.heap.size (by rw [hW4]; exact heap_alloc_new _ _) (hsl.below hb4 (Nat.le_refl _)))
      clear hb4 hsl hW4 HSX
      go_wp2_with (go_at_call 45; refine HRV.out.mono ?_; rintro e w5 ⟨⟨v5, rfl, hv⟩, hb⟩; have HV := Lib.hid (hv.base HB4.out.size); have HB5 := Lib.hid (HB4.out.trans (hb.mono HB4.out.size)); clear hv hb)
      go_ret3
      exact ⟨.inl ⟨by simp, by simp, v5, rfl, HV.out⟩, HB5.out⟩
end Go.Proofs.Ytcnjkdkkflpgnaa
