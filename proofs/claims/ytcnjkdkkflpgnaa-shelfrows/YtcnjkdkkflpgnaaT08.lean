import Derived.Test.YtcnjkdkkflpgnaaT07
import Derived.KernelRfl
import Derived.Maps.OwnOps
import Derived.Maps.OwnSet
import Derived.Lib.SlKeysI
import Derived.Deep.RegionHeldLaw
/- Layer 8: the map of the pages on the shelf. -/
namespace Go.Proofs.Ytcnjkdkkflpgnaa
open Go.RowKit Go.Maps Go.ChangeShapes
open Go.WideElems (Fit rd rg pl rd_val elemAt)
set_option linter.unusedVariables false

/-- The request that put a page on the shelf, and the last one for it. -/
abbrev Stay : Type := Nat × Nat
def stV (s : Stay) : Value := .agg #[.int .i64 (s.1 : Int), .int .i64 (s.2 : Int)]
def stD (s : Stay) : DataW Unit := .agg [.lit (.int .i64 (s.1 : Int)), .lit (.int .i64 (s.2 : Int))]
/-- How a stay reads. -/
def stE (v : Value) : Option (DataW Unit × List MemPlace) :=
  match v with
  | .agg fs => match fs.toList with
    | [.int .i64 a, .int .i64 b] => if 0 ≤ a ∧ 0 ≤ b then some (stD (a.toNat, b.toNat), []) else none
    | _ => none
  | _ => none
theorem stE_mk (s : Stay) : stE (stV s) = some (stD s, []) := by simp [stE, stV]
theorem stD_inj {s t : Stay} (h : stD s = stD t) : s = t := by
  unfold stD at h
  injection h with h
  injection h with h1 h
  injection h with h2 _
  injection h1 with h1
  injection h2 with h2
  injection h1 with _ h1
  injection h2 with _ h2
  exact Prod.ext (by omega) (by omega)
theorem stE_inv {v : Value} {s : Stay} {ps : List MemPlace} (h : stE v = some (stD s, ps)) : v = stV s := by
  unfold stE at h
  split at h
  · rename_i fs
    split at h
    · rename_i a b e
      split at h
      · rename_i hab
        injection h with h
        injection h with h _
        have hs := stD_inj h
        subst hs
        have : fs = #[.int .i64 a, .int .i64 b] := by rw [← e]
        rw [this]
        unfold stV
        simp only [Int.toNat_of_nonneg hab.1, Int.toNat_of_nonneg hab.2]
      · cases h
    · cases h
  · cases h
theorem keyI : Keyed Try.prog 3 := int_keyed Try.underlying3
theorem zeroSt (w : World) : (zeroValue 69).run Try.prog w = .ok (stV (0, 0)) w := by kernel_rfl
theorem keyZ {x : Int} (h : -9223372036854775808 ≤ x ∧ x ≤ 9223372036854775807) : keyOf Try.prog 3 (.int .i64 x) = some (.int .i64 x) := keyOf_int_mk Try.underlying3 (WalkArith.wf_i64 h)
theorem litKeyZ (x : Int) : WideAt.IsKeyLit (.int .i64 x) := trivial
/-- The datum holds at each page what f says; pages are less than 16. -/
structure Rst (D : DataW Unit) (f : Int → Option Stay) : Prop where
  map : IsMap D
  has : ∀ x : Int, Maps.has D (.int .i64 x) = (f x).isSome
  at_ : ∀ (x : Int) (z : DataW Unit), D.atKey (.int .i64 x) z = ((f x).map stD).getD z
  lt : ∀ x : Int, (f x).isSome = true → 0 ≤ x ∧ x < 16
def putS (f : Int → Option Stay) (x : Int) (s : Stay) : Int → Option Stay := fun y => if y = x then some s else f y
def delS (f : Int → Option Stay) (x : Int) : Int → Option Stay := fun y => if y = x then none else f y
theorem litNe {x y : Int} (h : y ≠ x) : (Lit.int .i64 y) ≠ .int .i64 x := fun e => by injection e with _ e; exact h e
theorem Rst.empty : Rst (.map []) (fun _ => none) := ⟨isMap_empty, fun _ => rfl, fun _ _ => rfl, fun _ h => by cases h⟩
theorem Rst.put {D : DataW Unit} {f : Int → Option Stay} (h : Rst D f) {x : Int} (hx : 0 ≤ x ∧ x < 16) (s : Stay) : Rst (D.put (.int .i64 x) (stD s)) (putS f x s) := by
  refine ⟨h.map.put _ _, fun y => ?_, fun y z => ?_, fun y hy => ?_⟩
  · unfold putS
    by_cases e : y = x
    · rw [if_pos e, e]; exact has_put_same h.map (litKeyZ x) _
    · rw [if_neg e]; exact (has_put_other (litNe e) _).trans (h.has y)
  · unfold putS
    by_cases e : y = x
    · rw [if_pos e, e]; exact atKey_put_same h.map (litKeyZ x) _ z
    · rw [if_neg e]; exact (atKey_put_other (litNe e) _ z).trans (h.at_ y z)
  · unfold putS at hy
    by_cases e : y = x
    · rw [e]; exact hx
    · rw [if_neg e] at hy; exact h.lt y hy
theorem Rst.del {D : DataW Unit} {f : Int → Option Stay} (h : Rst D f) (x : Int) : Rst (D.del (.int .i64 x)) (delS f x) := by
  refine ⟨h.map.del _, fun y => ?_, fun y z => ?_, fun y hy => ?_⟩
  · unfold delS
    by_cases e : y = x
    · rw [if_pos e, e]; exact has_del_same
    · rw [if_neg e]; exact (has_del_other (litNe e)).trans (h.has y)
  · unfold delS
    by_cases e : y = x
    · rw [if_pos e, e]; exact atKey_del_same z
    · rw [if_neg e]; exact (atKey_del_other (litNe e) z).trans (h.at_ y z)
  · unfold delS at hy
    by_cases e : y = x
    · rw [if_pos e] at hy; cases hy
    · rw [if_neg e] at hy; exact h.lt y hy
/-- The pages, ascending. -/
def keysS (f : Int → Option Stay) : List Int := ((List.range 16).map fun k : Nat => (k : Int)).filter fun x => (f x).isSome
theorem keysS_mem {f : Int → Option Stay} (hlt : ∀ x : Int, (f x).isSome = true → 0 ≤ x ∧ x < 16) (x : Int) : x ∈ keysS f ↔ (f x).isSome = true := by
  unfold keysS
  rw [List.mem_filter, List.mem_map]
  constructor
  · exact fun h => h.2
  · intro h
    obtain ⟨h0, h1⟩ := hlt x h
    exact ⟨⟨x.toNat, List.mem_range.2 (by omega), by omega⟩, h⟩
theorem keysS_asc (f : Int → Option Stay) : (keysS f).Pairwise (fun x y => x < y) := by
  unfold keysS
  refine List.Pairwise.filter _ (List.pairwise_map.2 ?_)
  exact List.pairwise_lt_range.imp (fun h => by omega)
theorem keysS_nodup (f : Int → Option Stay) : (keysS f).Nodup := (keysS_asc f).imp (fun h => by omega)
theorem keysS_le (f : Int → Option Stay) : (keysS f).length ≤ 16 := by
  unfold keysS
  refine Nat.le_trans (List.length_filter_le _ _) ?_
  simp
theorem keysS_sorted (f : Int → Option Stay) : (keysS f).mergeSort leI = keysS f := List.mergeSort_of_pairwise ((keysS_asc f).imp (fun h => by simp [leI]; omega))
/-- Block b is the map of the pages on the shelf. -/
def SM (w : World) (b : Nat) (f : Int → Option Stay) : Prop := ∃ D : DataW Unit, w.ownsMap Try.prog 3 stE b (Maps.size D) D ∧ Rst D f
theorem owns_exact {w : World} {k : TypeId} {R : Value → Option (DataW Unit × List MemPlace)} {b n : Nat} {D : DataW Unit} (h : w.ownsMap Try.prog k R b n D) : w.ownsMap Try.prog k R b (Maps.size D) D := by
  obtain ⟨es, clock, h1, h2, h3, h4⟩ := h
  exact ⟨es, clock, h1, h2, by rw [h4]; simp [Maps.size, length_sorted], h4⟩
theorem SM.made (w : World) : SM (w.alloc (.map #[] 0)) w.heap.size (fun _ => none) := ⟨_, owns_exact (World.ownsMap_made _ _ _ _), Rst.empty⟩
section
variable {w : World} {b : Nat} {f : Int → Option Stay}
theorem SM.lt (h : SM w b f) : b < w.heap.size := by obtain ⟨D, h, _⟩ := h; exact h.lt
theorem SM.heap {w' : World} (h : SM w b f) (hb : w'.heap[b]? = w.heap[b]?) : SM w' b f := by
  obtain ⟨D, ⟨es, clock, h1, h2⟩, hr⟩ := h
  exact ⟨D, ⟨es, clock, hb.trans h1, h2⟩, hr⟩
theorem SM.below {w' : World} {B : Nat} (h : SM w b f) (k : Below B w w') (hb : b < B) : SM w' b f := h.heap (k.block b hb)
theorem SM.alloc (h : SM w b f) (o : Obj) : SM (w.alloc o) b f := by
  obtain ⟨D, h, hr⟩ := h
  exact ⟨D, h.alloc o, hr⟩
theorem SM.perm {D : DataW Unit} {n : Nat} (h : w.ownsMap Try.prog 3 stE b n D) (hr : Rst D f) : (keysS f).Perm (intKeys D) := by
  obtain ⟨es, hD, hpw⟩ := h.tidy keyI
  obtain ⟨es', hD', hko⟩ := h.keysOf
  obtain rfl : es = es' := by rw [hD] at hD'; simpa using hD'
  subst hD
  exact perm_intKeys hpw (fun p hp => by obtain ⟨v, hv⟩ := hko p hp; obtain ⟨x, _, hx, _⟩ := Maps.keyOf_i64 Try.underlying3 hv; exact ⟨x, hx⟩) (keysS_nodup f) (fun x => by rw [keysS_mem hr.lt, hr.has])
theorem SM.size {D : DataW Unit} {n : Nat} (h : w.ownsMap Try.prog 3 stE b n D) (hr : Rst D f) : Maps.size D = (keysS f).length := by
  rw [(SM.perm h hr).length_eq]
  obtain ⟨es, hD⟩ := hr.map
  subst hD
  simp [intKeys, Maps.size]
theorem SM.pages (h : SM w b f) {x : Int} (hx : (f x).isSome = true) : 0 ≤ x ∧ x < 16 := by obtain ⟨D, _, hr⟩ := h; exact hr.lt x hx
theorem SM.len (h : SM w b f) (t ty : TypeId) (e : TypeId) (ht : Try.prog.underlying t = some (.map 3 e)) : (Builtin.len_ #[t] ty #[.map (some b)]).run Try.prog w = .ok (.int .i64 ((keysS f).length : Int)) w := by
  obtain ⟨D, h, hr⟩ := h
  rw [← SM.size h hr]
  exact h.len ht ty
/-- 's, ok := m[k]'. -/
theorem SM.lookOk (h : SM w b f) (t : TypeId) (ht : Try.prog.underlying t = some (.map 3 69)) {x : Int} (hx : -9223372036854775808 ≤ x ∧ x ≤ 9223372036854775807) :
    (Instr.lookup t (.map (some b)) (.int .i64 x) true).run Try.prog w = .ok (.tuple #[stV ((f x).getD (0, 0)), .bool (f x).isSome]) w := by
  obtain ⟨D, h, hr⟩ := h
  obtain ⟨v, ps, hrun, hv⟩ := h.look_ok keyI ht (zeroSt w) (stE_mk (0, 0)) (keyZ hx)
  rw [hr.at_] at hv
  have : v = stV ((f x).getD (0, 0)) := by
    refine stE_inv (ps := ps) ?_
    rw [hv]
    cases f x <;> rfl
  rw [hrun, this, hr.has]
/-- 'm[k]'. -/
theorem SM.look (h : SM w b f) (t : TypeId) (ht : Try.prog.underlying t = some (.map 3 69)) {x : Int} (hx : -9223372036854775808 ≤ x ∧ x ≤ 9223372036854775807) :
    (Instr.lookup t (.map (some b)) (.int .i64 x) false).run Try.prog w = .ok (stV ((f x).getD (0, 0))) w := by
  obtain ⟨D, h, hr⟩ := h
  obtain ⟨v, ps, hrun, hv⟩ := h.lookup keyI ht (zeroSt w) (stE_mk (0, 0)) (keyZ hx)
  rw [hr.at_] at hv
  have : v = stV ((f x).getD (0, 0)) := by
    refine stE_inv (ps := ps) ?_
    rw [hv]
    cases f x <;> rfl
  rw [hrun, this]
theorem SM.store (h : SM w b f) (t : TypeId) (ht : Try.prog.underlying t = some (.map 3 69)) {x : Int} (hx : 0 ≤ x ∧ x < 16) (s : Stay) :
    ∃ w', (Instr.mapUpdate t (.map (some b)) (.int .i64 x) (stV s)).run Try.prog w = .ok () w' ∧ SM w' b (putS f x s) ∧ World.grownBy w w' (some b) := by
  obtain ⟨D, h, hr⟩ := h
  have hs := SM.size h hr
  have hk := keysS_le f
  obtain ⟨w', h1, h2, h3⟩ := h.update keyI ht (by unfold maxLen; omega) (keyZ (x := x) ⟨by omega, by omega⟩) (stE_mk s)
  exact ⟨w', h1, ⟨_, owns_exact h2, hr.put hx s⟩, h3⟩
theorem SM.drop (h : SM w b f) (t ty : TypeId) (ht : Try.prog.underlying t = some (.map 3 69)) {x : Int} (hx : -9223372036854775808 ≤ x ∧ x ≤ 9223372036854775807) :
    ∃ w', (Builtin.delete_ #[t, 3] ty #[.map (some b), .int .i64 x]).run Try.prog w = .ok (.tuple #[]) w' ∧ SM w' b (delS f x) ∧ World.grownBy w w' (some b) := by
  obtain ⟨D, h, hr⟩ := h
  obtain ⟨w', h1, h2, h3⟩ := h.drop keyI ht (keyZ hx) ty
  exact ⟨w', h1, ⟨_, owns_exact h2, hr.del x⟩, h3.grown⟩
end
end Go.Proofs.Ytcnjkdkkflpgnaa
/- Layer 8: the shelf: lacks, serve, emptyShelf, allows. -/
namespace Go.Proofs.Ytcnjkdkkflpgnaa
open Go.RowKit Go.Maps
set_option linter.unusedVariables false

/-- Block s is a shelf of k places with the pages of f, in the map b, and c faults so far. -/
structure SH (w : World) (s b : Nat) (k : Int) (f : Int → Option Stay) (c : Int) : Prop where
  box : w.heap[s]? = some (.cells #[.int .i64 k, .map (some b), .int .i64 c] 77 (0, 0))
  map : SM w b f
  ne : s ≠ b
theorem SH.below {w w' : World} {s b B : Nat} {k c : Int} {f : Int → Option Stay} (h : SH w s b k f c) (hb : Below B w w') (hs : s < B) (hb2 : b < B) : SH w' s b k f c :=
  ⟨(hb.block s hs).trans h.box, h.map.below hb hb2, h.ne⟩
theorem SH.lt {w : World} {s b : Nat} {k c : Int} {f : Int → Option Stay} (h : SH w s b k f c) : s < w.heap.size ∧ b < w.heap.size := ⟨(Array.getElem?_eq_some_iff.1 h.box).1, h.map.lt⟩
theorem SH.belowN {w w' : World} {s b : Nat} {k c : Int} {f : Int → Option Stay} (h : SH w s b k f c) (hb : Below w.heap.size w w') : SH w' s b k f c := h.below hb h.lt.1 h.lt.2
theorem below_drewN {b n : Nat} {w w' : World} (h : Below b w w') : Below b w (w'.drewN n) := h.trans (Dr.below ⟨n, rfl⟩ b)
def lacksB (f : Int → Option Stay) (page k : Int) : Bool := !(f page).isSome && (((keysS f).length : Int) == k)
theorem cell_inA {w : World} {b i : Nat} {cs : Array Value} {t : TypeId} {v : Value} (h : w.heap[b]? = some (.cells cs t (0, 0))) (hi : cs[i]? = some v) : w.cell? ⟨b, i, none⟩ = some v := cell_in h hi
set_option maxRecDepth 100000 in
set_option maxHeartbeats 6400000 in
theorem lacks_any (s b : Nat) (k c page : Int) (f : Int → Option Stay) (w : World) (h : SH w s b k f c) (hp : 0 ≤ page ∧ page < 16) :
    Calls Try.prog 73 #[.pointer (some ⟨s, 0, none⟩), .int .i64 page] w fun e w' => e = .returned (.bool (lacksB f page k)) ∧ Below w.heap.size w w' := by
  have HH := Lib.hid h
  have HL : Hid (∀ V, Below w.heap.size w V → (Instr.lookup 75 (.map (some b)) (.int .i64 page) true).run Try.prog V = .ok (.tuple #[stV ((f page).getD (0, 0)), .bool (f page).isSome]) V) := fun V hV => (h.belowN hV).map.lookOk _ Try.underlying75 (by omega)
  have HN : Hid (∀ V ty, Below w.heap.size w V → (Builtin.len_ #[75] ty #[.map (some b)]).run Try.prog V = .ok (.int .i64 ((keysS f).length : Int)) V) := fun V ty hV => (h.belowN hV).map.len _ ty _ Try.underlying75
  have l1 := HL.out w (Below.refl _ w)
  have hbW : Below w.heap.size w (w.alloc (.cells #[.int .i64 (((f page).getD (0, 0)).1 : Int), .int .i64 (((f page).getD (0, 0)).2 : Int)] 69)) := (Below.refl _ w).alloc (Nat.le_refl _) _
  have d0 := cell_in h.box (i := 0) rfl
  have d1 := cell_in h.box (i := 1) rfl
  unfold lacksB
  obtain ⟨st, hst⟩ : ∃ st, st = (f page).getD (0, 0) := ⟨_, rfl⟩
  obtain ⟨b1, hb1⟩ : ∃ b1, b1 = (f page).isSome := ⟨_, rfl⟩
  obtain ⟨kn, hkn⟩ : ∃ kn, kn = (keysS f).length := ⟨_, rfl⟩
  rw [← hst] at hbW
  rw [← hst, ← hb1] at l1
  rw [← hkn] at HN
  rw [← hb1, ← hkn]
  clear hst hb1 hkn h HL
  unfold stV at l1
  go_enter Try.func73, Try.ntmps73
  have HSV : Hid (∀ V, Below w.heap.size w V → V.cell? ⟨s, 0, none⟩ = some (.int .i64 k) ∧ V.cell? ⟨s, 1, none⟩ = some (.map (some b)) ∧ (Builtin.len_ #[75] 3 #[.map (some b)]).run Try.prog V = .ok (.int .i64 (kn : Int)) V) := fun V hV => ⟨cell_in (HH.out.belowN hV).box rfl, cell_in (HH.out.belowN hV).box rfl, HN.out V _ hV⟩
  have HB := Lib.hid hbW
  clear HN hbW
  go_wp2
  cases b1
  · go_region_held_law (fun V => V.cell? ⟨s, 0, none⟩ = some (.int .i64 k) ∧ V.cell? ⟨s, 1, none⟩ = some (.map (some b)) ∧ (Builtin.len_ #[75] 3 #[.map (some b)]).run Try.prog V = .ok (.int .i64 (kn : Int)) V) (first | assumption | exact HSV.out _ HB.out.drew) (fail)
    all_goals
      go_wp2
      go_ret
      exact ⟨by simp, HB.out.drew⟩
  · go_quiet (fail)
    go_wp2
    go_ret
    exact ⟨by simp, below_drewN HB.out⟩

/-- A place in the map: delete. -/
theorem del_law (w : World) {ops : Array Oper} {rest : List Oper} {o : Oper} {a : Act} {Q : Exit → Act → World → Prop} (hg : o.guard = none) (m x : Operand) (t : TypeId) (hop : o.op = Op.call { callee := Callee.builtin Builtin.delete, args := #[m, x], argTypes := #[t, 3] })
    (ht : Try.prog.underlying t = some (.map 3 69)) (b : Nat) (f : Int → Option Stay) (hm : a.eval m = .map (some b)) (hown : SM w b f) (z : Int) (hx : a.eval x = .int .i64 z) (hz : -9223372036854775808 ≤ z ∧ z ≤ 9223372036854775807)
    (hK : ∀ w', SM w' b (delS f z) → World.grownBy w w' (some b) → wpList Try.prog ops Q rest (a.put o.dst (.tuple #[])) w') : wpList Try.prog ops Q (o :: rest) a w := by
  refine wpList_plain hg fun K' hK' => ?_
  obtain ⟨w', hrun, r1, r2⟩ := hown.drop t o.type ht hz
  unfold Oper.wp
  simp [execOp, hop, resolve, invoke, builtin, hm, hx, hrun, Result.andThen]
  exact hK' _ _ (hK w' r1 r2)
set_option maxRecDepth 100000 in
set_option maxHeartbeats 6400000 in
theorem emptyShelf_any (k : Int) (w : World) :
    Calls Try.prog 53 #[.int .i64 k] w fun e w' => (∃ s b, e = .returned (.pointer (some ⟨s, 0, none⟩)) ∧ SH w' s b k (fun _ => none) 0 ∧ w.heap.size ≤ s ∧ w.heap.size ≤ b) ∧ Below w.heap.size w w' := by
  have HM := Lib.hid (SM.made w)
  have hmm := @run_makeMap Try.prog
  go_enter Try.func53, Try.ntmps53
  go_wp2
  go_ret
  refine ⟨⟨w.heap.size + 1, w.heap.size, ?_, ⟨?_, ?_, by omega⟩, by omega, Nat.le_refl _⟩, ?_⟩
  · simp
  · have := heap_alloc_new (w.alloc (.map #[] 0)) (.cells #[.int .i64 k, .map (some w.heap.size), .int .i64 0] 77)
    simpa using this
  · exact HM.out.alloc _
  · exact ((Below.refl _ w).alloc (Nat.le_refl _) _).alloc (by simp) _
/-- After a request is served. -/
def gotS (f : Int → Option Stay) (page : Int) (i : Nat) : Stay := match f page with | some st => (st.1, i) | none => (i, i)
def rmS (f : Int → Option Stay) (gone : Int) : Int → Option Stay := if gone = -1 then f else delS f gone
def srvS (f : Int → Option Stay) (i : Nat) (page gone : Int) : Int → Option Stay := putS (rmS f gone) page (gotS (rmS f gone) page i)
def srvC (f : Int → Option Stay) (page gone : Int) : Int := if (rmS f gone page).isSome then 0 else 1
set_option maxRecDepth 100000 in
set_option maxHeartbeats 6400000 in
/-- The second half of serve. -/
theorem serve_any (s b i : Nat) (k c page gone : Int) (f : Int → Option Stay) (w : World) (h : SH w s b k f c) (hp : 0 ≤ page ∧ page < 16) (hi : i ≤ 1000000) (hc : 0 ≤ c ∧ c ≤ 1000000) (hg : -9223372036854775808 ≤ gone ∧ gone ≤ 9223372036854775807) (B : Nat) (hB : B ≤ s ∧ B ≤ b) :
    Calls Try.prog 55 #[.pointer (some ⟨s, 0, none⟩), .int .i64 (i : Int), .int .i64 page, .int .i64 gone] w fun e w' => e = .returned (.tuple #[]) ∧ SH w' s b k (srvS f i page gone) (c + srvC f page gone) ∧ Below B w w' ∧ ∀ j, j < w.heap.size → j ≠ s → j ≠ b → w'.heap[j]? = w.heap[j]? := by
  have HH := Lib.hid h
  have d1 : w.cell? ⟨s, 1, none⟩ = some (.map (some b)) := cell_in h.box rfl
  have HBW : Hid (B ≤ w.heap.size) := by have := h.lt; rw [Hid]; omega
  clear h
  go_enter Try.func55, Try.ntmps55
  by_cases hgn : gone = -1
  · have hg1 : (gone == -1) = true := by simp [hgn]
    have HR : Hid (rmS f gone = f) := if_pos hgn
    go_upto_region 2 with (fail)
    obtain ⟨w1, hw1⟩ : ∃ v, v = w := ⟨_, rfl⟩
    rw [show w = w1 from hw1.symm]
    have HS1 : Hid (SH w1 s b k (rmS f gone) c) := by rw [Hid, HR.out, hw1]; exact HH.out
    have HB1 : Hid (Below B w w1) := by rw [hw1]; exact Below.refl _ _
    have HJ1 : Hid (∀ j, j < w.heap.size → j ≠ s → j ≠ b → w1.heap[j]? = w.heap[j]?) := fun j _ _ _ => by rw [hw1]
    have HZ1 : Hid (w.heap.size ≤ w1.heap.size) := by rw [hw1]; exact Nat.le_refl _
    clear hw1 d1 HH HR hg1 hgn
    have HL := Lib.hid (HS1.out.map.lookOk 75 Try.underlying75 (x := page) ⟨by omega, by omega⟩)
    have d1 : w1.cell? ⟨s, 1, none⟩ = some (.map (some b)) := cell_in HS1.out.box rfl
    have d2 : w1.cell? ⟨s, 2, none⟩ = some (.int .i64 c) := cell_in HS1.out.box rfl
    have f2 := frz (i := 2) HS1.out.box
    have v1 : IntKind.i64.wrap (c + 1) = c + 1 := IntWalk.i64_in _ (by omega)
    have HZ : Hid (B ≤ w1.heap.size) := Nat.le_trans hB.1 (Nat.le_of_lt HS1.out.lt.1)
    cases hgp : rmS f gone page with
    | none =>
      have l1 : (Instr.lookup 75 (.map (some b)) (.int .i64 page) true).run Try.prog w1 = .ok (.tuple #[.agg #[.int .i64 0, .int .i64 0], .bool false]) w1 := by
        have := HL.out
        rw [hgp] at this
        exact this
      have HGP := Lib.hid hgp
      clear hgp HL
      go_upto_region 3 with (fail)
      obtain ⟨W2, hW2⟩ : ∃ V, V = w1.alloc (.cells #[.int .i64 0, .int .i64 0] 69) := ⟨_, rfl⟩
      rw [← hW2]
      have HS2 : Hid (SH W2 s b k (rmS f gone) c) := by rw [Hid, hW2]; exact HS1.out.belowN ((Below.refl _ w1).alloc (Nat.le_refl _) _)
      have HB2 : Hid (Below B w W2) := by rw [Hid, hW2]; exact HB1.out.alloc HZ.out _
      have hr0 : W2.heap[w1.heap.size]? = some (.cells #[.int .i64 0, .int .i64 0] 69 (0, 0)) := by rw [hW2]; exact heap_alloc_new _ _
      have HJ2 : Hid (∀ j, j < w.heap.size → j ≠ s → j ≠ b → W2.heap[j]? = w.heap[j]?) := fun j hj h1 h2 => by
        rw [← HJ1.out j hj h1 h2, hW2]
        exact ((Below.refl _ w1).alloc (Nat.le_refl _) _).block j (Nat.lt_of_lt_of_le hj HZ1.out)
      have hne1 : s ≠ w1.heap.size := by have := HS1.out.lt; omega
      have HNB : Hid (b ≠ w1.heap.size) := by have := HS1.out.lt; rw [Hid]; omega
      clear d1 d2 f2 HS1 hW2 l1
      generalize w1.heap.size = nb at *
      have hne2 : nb ≠ s := fun e => hne1 e.symm
      have d1 : W2.cell? ⟨s, 1, none⟩ = some (.map (some b)) := cell_in HS2.out.box rfl
      have d2 : W2.cell? ⟨s, 2, none⟩ = some (.int .i64 c) := cell_in HS2.out.box rfl
      have f2 := frz (i := 2) HS2.out.box
      have g0 : W2.cell? ⟨nb, 0, none⟩ = some (.int .i64 0) := cell_in hr0 rfl
      have g1 : W2.cell? ⟨nb, 1, none⟩ = some (.int .i64 0) := cell_in hr0 rfl
      have k0 := frz (i := 0) hr0
      have k1 := frz (i := 1) hr0
      have HR0 := Lib.hid hr0
      clear hr0
      go_upto_region 7 with (fail)
      obtain ⟨W3, hW3⟩ : ∃ V, V = ((W2.setCell ⟨s, 2, none⟩ (.int .i64 (c + 1))).setCell ⟨nb, 0, none⟩ (.int .i64 (i : Int))).setCell ⟨nb, 1, none⟩ (.int .i64 (i : Int)) := ⟨_, rfl⟩
      rw [← hW3]
      have HSB : Hid (SH W3 s b k (rmS f gone) (c + 1)) := by
        rw [Hid, hW3]
        refine ⟨?_, (HS2.out.map.heap ?_), HS2.out.ne⟩
        · rw [set_oth hne1, set_oth hne1]; exact set_row1 HS2.out.box
        · rw [set_oth HNB.out, set_oth HNB.out, set_oth (fun e => HS2.out.ne e.symm)]
      have HBB : Hid (Below B w W3) := by rw [Hid, hW3]; exact ((HB2.out.setCell (p := ⟨s, 2, none⟩) hB.1 _).setCell (p := ⟨nb, 0, none⟩) HZ.out _).setCell (p := ⟨nb, 1, none⟩) HZ.out _
      have HJ3 : Hid (∀ j, j < w.heap.size → j ≠ s → j ≠ b → W3.heap[j]? = w.heap[j]?) := fun j hj h1 h2 => by
        have h3 : j ≠ nb := by have := HZ1.out; omega
        rw [← HJ2.out j hj h1 h2, hW3]
        simp only [set_oth h1, set_oth h3]
      have HRB : Hid (W3.heap[nb]? = some (.cells #[.int .i64 (i : Int), .int .i64 (i : Int)] 69 (0, 0))) := by
        rw [Hid, hW3]
        have h1 := set_row1 (k := 0) (v := .int .i64 (i : Int)) (show (W2.setCell ⟨s, 2, none⟩ (.int .i64 (c + 1))).heap[nb]? = some (.cells #[.int .i64 0, .int .i64 0] 69 (0, 0)) by rw [set_oth hne2]; exact HR0.out)
        exact set_row1 (k := 1) (v := .int .i64 (i : Int)) h1
      clear hW3 HS2 HB2 HR0 d1 d2 f2 g0 k0 g1 k1 hne1 hne2
      have HBZ : Hid (B ≤ b) := hB.2
      obtain ⟨w5, u1, u2, u3⟩ := (HSB.out.belowN (Below.refl _ W3).drew).map.store 75 Try.underlying75 hp (i, i)
      have u1 : (Instr.mapUpdate 75 (.map (some b)) (.int .i64 page) (.agg #[.int .i64 (i : Int), .int .i64 (i : Int)])).run Try.prog W3.drew = .ok () w5 := u1
      have HU2 := Lib.hid u2
      have HU3 := Lib.hid u3
      have d1 : W3.drew.cell? ⟨s, 1, none⟩ = some (.map (some b)) := cell_in HSB.out.box rfl
      have g0 : W3.drew.cell? ⟨nb, 0, none⟩ = some (.int .i64 (i : Int)) := cell_in HRB.out rfl
      have g1 : W3.drew.cell? ⟨nb, 1, none⟩ = some (.int .i64 (i : Int)) := cell_in HRB.out rfl
      have e1 : w5.cell? ⟨s, 1, none⟩ = some (.map (some b)) := cell_in ((HU3.out.block s (by have := HSB.out.lt; exact this.1) (fun e => HSB.out.ne (Option.some.inj e))).trans HSB.out.box) rfl
      have e2 : w5.cell? ⟨nb, 0, none⟩ = some (.int .i64 (i : Int)) := cell_in ((HU3.out.block nb (Array.getElem?_eq_some_iff.1 HRB.out).1 (fun e => HNB.out (Option.some.inj e).symm)).trans HRB.out) rfl
      have e3 : w5.cell? ⟨nb, 1, none⟩ = some (.int .i64 (i : Int)) := cell_in ((HU3.out.block nb (Array.getElem?_eq_some_iff.1 HRB.out).1 (fun e => HNB.out (Option.some.inj e).symm)).trans HRB.out) rfl
      clear u2 u3 HRB
      go_region_held_law (fun V => V.cell? ⟨s, 1, none⟩ = some (.map (some b)) ∧ V.cell? ⟨nb, 0, none⟩ = some (.int .i64 (i : Int)) ∧ V.cell? ⟨nb, 1, none⟩ = some (.int .i64 (i : Int))) (first | assumption | exact ⟨d1, g0, g1⟩ | exact ⟨e1, e2, e3⟩) (fail)
      all_goals
        go_end0
        refine ⟨rfl, ⟨?_, ?_, HSB.out.ne⟩, HBB.out.drew.grown HU3.out (Nat.le_trans HBW.out HBB.out.size) (fun j e => by have := HBZ.out; have := Option.some.inj e; omega), fun j hj h1 h2 => (HU3.out.block j (Nat.lt_of_lt_of_le hj HBB.out.size) (fun e => h2 (Option.some.inj e))).trans (HJ3.out j hj h1 h2)⟩
        · have e4 : srvC f page gone = 1 := by unfold srvC; rw [HGP.out]; rfl
          rw [e4]
          exact (HU3.out.block s (by have := HSB.out.lt; exact this.1) (fun e => HSB.out.ne (Option.some.inj e))).trans HSB.out.box
        · have e4 : srvS f i page gone = putS (rmS f gone) page (i, i) := by unfold srvS gotS; rw [HGP.out]
          rw [e4]
          exact HU2.out
    | some st =>
      have l1 : (Instr.lookup 75 (.map (some b)) (.int .i64 page) true).run Try.prog w1 = .ok (.tuple #[.agg #[.int .i64 (st.1 : Int), .int .i64 (st.2 : Int)], .bool true]) w1 := by
        have := HL.out
        rw [hgp] at this
        exact this
      have HGP := Lib.hid hgp
      clear hgp HL
      go_upto_region 3 with (fail)
      obtain ⟨W2, hW2⟩ : ∃ V, V = w1.alloc (.cells #[.int .i64 (st.1 : Int), .int .i64 (st.2 : Int)] 69) := ⟨_, rfl⟩
      rw [← hW2]
      have HS2 : Hid (SH W2 s b k (rmS f gone) c) := by rw [Hid, hW2]; exact HS1.out.belowN ((Below.refl _ w1).alloc (Nat.le_refl _) _)
      have HB2 : Hid (Below B w W2) := by rw [Hid, hW2]; exact HB1.out.alloc HZ.out _
      have hr0 : W2.heap[w1.heap.size]? = some (.cells #[.int .i64 (st.1 : Int), .int .i64 (st.2 : Int)] 69 (0, 0)) := by rw [hW2]; exact heap_alloc_new _ _
      have HJ2 : Hid (∀ j, j < w.heap.size → j ≠ s → j ≠ b → W2.heap[j]? = w.heap[j]?) := fun j hj h1 h2 => by
        rw [← HJ1.out j hj h1 h2, hW2]
        exact ((Below.refl _ w1).alloc (Nat.le_refl _) _).block j (Nat.lt_of_lt_of_le hj HZ1.out)
      have hne1 : s ≠ w1.heap.size := by have := HS1.out.lt; omega
      have HNB : Hid (b ≠ w1.heap.size) := by have := HS1.out.lt; rw [Hid]; omega
      clear d1 d2 f2 HS1 hW2 l1
      generalize w1.heap.size = nb at *
      have hne2 : nb ≠ s := fun e => hne1 e.symm
      have d1 : W2.cell? ⟨s, 1, none⟩ = some (.map (some b)) := cell_in HS2.out.box rfl
      have d2 : W2.cell? ⟨s, 2, none⟩ = some (.int .i64 c) := cell_in HS2.out.box rfl
      have f2 := frz (i := 2) HS2.out.box
      have g0 : W2.cell? ⟨nb, 0, none⟩ = some (.int .i64 (st.1 : Int)) := cell_in hr0 rfl
      have g1 : W2.cell? ⟨nb, 1, none⟩ = some (.int .i64 (st.2 : Int)) := cell_in hr0 rfl
      have k0 := frz (i := 0) hr0
      have k1 := frz (i := 1) hr0
      have HR0 := Lib.hid hr0
      clear hr0
      go_upto_region 7 with (fail)
      obtain ⟨W3, hW3⟩ : ∃ V, V = W2.setCell ⟨nb, 1, none⟩ (.int .i64 (i : Int)) := ⟨_, rfl⟩
      rw [← hW3]
      have HSB : Hid (SH W3 s b k (rmS f gone) c) := by
        rw [Hid, hW3]
        refine ⟨?_, (HS2.out.map.heap ?_), HS2.out.ne⟩
        · rw [set_oth hne1]; exact HS2.out.box
        · rw [set_oth HNB.out]
      have HBB : Hid (Below B w W3) := by rw [Hid, hW3]; exact HB2.out.setCell (p := ⟨nb, 1, none⟩) HZ.out _
      have HJ3 : Hid (∀ j, j < w.heap.size → j ≠ s → j ≠ b → W3.heap[j]? = w.heap[j]?) := fun j hj h1 h2 => by
        have h3 : j ≠ nb := by have := HZ1.out; omega
        rw [← HJ2.out j hj h1 h2, hW3]
        simp only [set_oth h3]
      have HRB : Hid (W3.heap[nb]? = some (.cells #[.int .i64 (st.1 : Int), .int .i64 (i : Int)] 69 (0, 0))) := by
        rw [Hid, hW3]
        exact set_row1 (k := 1) (v := .int .i64 (i : Int)) HR0.out
      clear hW3 HS2 HB2 HR0 d1 d2 f2 g0 k0 g1 k1 hne1 hne2
      have HBZ : Hid (B ≤ b) := hB.2
      obtain ⟨w5, u1, u2, u3⟩ := (HSB.out.belowN (Below.refl _ W3).drew).map.store 75 Try.underlying75 hp (st.1, i)
      have u1 : (Instr.mapUpdate 75 (.map (some b)) (.int .i64 page) (.agg #[.int .i64 (st.1 : Int), .int .i64 (i : Int)])).run Try.prog W3.drew = .ok () w5 := u1
      have HU2 := Lib.hid u2
      have HU3 := Lib.hid u3
      have d1 : W3.drew.cell? ⟨s, 1, none⟩ = some (.map (some b)) := cell_in HSB.out.box rfl
      have g0 : W3.drew.cell? ⟨nb, 0, none⟩ = some (.int .i64 (st.1 : Int)) := cell_in HRB.out rfl
      have g1 : W3.drew.cell? ⟨nb, 1, none⟩ = some (.int .i64 (i : Int)) := cell_in HRB.out rfl
      have e1 : w5.cell? ⟨s, 1, none⟩ = some (.map (some b)) := cell_in ((HU3.out.block s (by have := HSB.out.lt; exact this.1) (fun e => HSB.out.ne (Option.some.inj e))).trans HSB.out.box) rfl
      have e2 : w5.cell? ⟨nb, 0, none⟩ = some (.int .i64 (st.1 : Int)) := cell_in ((HU3.out.block nb (Array.getElem?_eq_some_iff.1 HRB.out).1 (fun e => HNB.out (Option.some.inj e).symm)).trans HRB.out) rfl
      have e3 : w5.cell? ⟨nb, 1, none⟩ = some (.int .i64 (i : Int)) := cell_in ((HU3.out.block nb (Array.getElem?_eq_some_iff.1 HRB.out).1 (fun e => HNB.out (Option.some.inj e).symm)).trans HRB.out) rfl
      clear u2 u3 HRB
      go_region_held_law (fun V => V.cell? ⟨s, 1, none⟩ = some (.map (some b)) ∧ V.cell? ⟨nb, 0, none⟩ = some (.int .i64 (st.1 : Int)) ∧ V.cell? ⟨nb, 1, none⟩ = some (.int .i64 (i : Int))) (first | assumption | exact ⟨d1, g0, g1⟩ | exact ⟨e1, e2, e3⟩) (fail)
      all_goals
        go_end0
        refine ⟨rfl, ⟨?_, ?_, HSB.out.ne⟩, HBB.out.drew.grown HU3.out (Nat.le_trans HBW.out HBB.out.size) (fun j e => by have := HBZ.out; have := Option.some.inj e; omega), fun j hj h1 h2 => (HU3.out.block j (Nat.lt_of_lt_of_le hj HBB.out.size) (fun e => h2 (Option.some.inj e))).trans (HJ3.out j hj h1 h2)⟩
        · have e4 : srvC f page gone = 0 := by unfold srvC; rw [HGP.out]; rfl
          rw [e4, Int.add_zero]
          exact (HU3.out.block s (by have := HSB.out.lt; exact this.1) (fun e => HSB.out.ne (Option.some.inj e))).trans HSB.out.box
        · have e4 : srvS f i page gone = putS (rmS f gone) page (st.1, i) := by unfold srvS gotS; rw [HGP.out]
          rw [e4]
          exact HU2.out
  · have hg1 : (gone == -1) = false := by simp [hgn]
    have HR : Hid (rmS f gone = delS f gone) := if_neg hgn
    go_upto_region 2 with (at_delete; go_must (refine del_law _ rfl _ _ _ rfl Try.underlying75 b f rfl HH.out.map gone rfl hg ?_); intro w1 hs1 hgr; have HX := Lib.hid hs1; have HG := Lib.hid hgr; clear hs1 hgr)
    have HS1 : Hid (SH w1 s b k (rmS f gone) c) := by rw [Hid, HR.out]; exact ⟨(HG.out.block _ HH.out.lt.1 (by have := HH.out.ne; intro e; exact this (Option.some.inj e))).trans HH.out.box, HX.out, HH.out.ne⟩
    have HB1 : Hid (Below B w w1) := (Below.refl _ w).grown HG.out (Nat.le_of_lt (Nat.lt_of_le_of_lt hB.1 HH.out.lt.1)) (fun j e => by have := Option.some.inj e; omega)
    have HJ1 : Hid (∀ j, j < w.heap.size → j ≠ s → j ≠ b → w1.heap[j]? = w.heap[j]?) := fun j hj _ hjb => HG.out.block j hj (fun e => hjb (Option.some.inj e))
    have HZ1 : Hid (w.heap.size ≤ w1.heap.size) := HG.out.size
    clear d1 HH HR hg1 hgn HX HG
    have HL := Lib.hid (HS1.out.map.lookOk 75 Try.underlying75 (x := page) ⟨by omega, by omega⟩)
    have d1 : w1.cell? ⟨s, 1, none⟩ = some (.map (some b)) := cell_in HS1.out.box rfl
    have d2 : w1.cell? ⟨s, 2, none⟩ = some (.int .i64 c) := cell_in HS1.out.box rfl
    have f2 := frz (i := 2) HS1.out.box
    have v1 : IntKind.i64.wrap (c + 1) = c + 1 := IntWalk.i64_in _ (by omega)
    have HZ : Hid (B ≤ w1.heap.size) := Nat.le_trans hB.1 (Nat.le_of_lt HS1.out.lt.1)
    cases hgp : rmS f gone page with
    | none =>
      have l1 : (Instr.lookup 75 (.map (some b)) (.int .i64 page) true).run Try.prog w1 = .ok (.tuple #[.agg #[.int .i64 0, .int .i64 0], .bool false]) w1 := by
        have := HL.out
        rw [hgp] at this
        exact this
      have HGP := Lib.hid hgp
      clear hgp HL
      go_upto_region 3 with (fail)
      obtain ⟨W2, hW2⟩ : ∃ V, V = w1.alloc (.cells #[.int .i64 0, .int .i64 0] 69) := ⟨_, rfl⟩
      rw [← hW2]
      have HS2 : Hid (SH W2 s b k (rmS f gone) c) := by rw [Hid, hW2]; exact HS1.out.belowN ((Below.refl _ w1).alloc (Nat.le_refl _) _)
      have HB2 : Hid (Below B w W2) := by rw [Hid, hW2]; exact HB1.out.alloc HZ.out _
      have hr0 : W2.heap[w1.heap.size]? = some (.cells #[.int .i64 0, .int .i64 0] 69 (0, 0)) := by rw [hW2]; exact heap_alloc_new _ _
      have HJ2 : Hid (∀ j, j < w.heap.size → j ≠ s → j ≠ b → W2.heap[j]? = w.heap[j]?) := fun j hj h1 h2 => by
        rw [← HJ1.out j hj h1 h2, hW2]
        exact ((Below.refl _ w1).alloc (Nat.le_refl _) _).block j (Nat.lt_of_lt_of_le hj HZ1.out)
      have hne1 : s ≠ w1.heap.size := by have := HS1.out.lt; omega
      have HNB : Hid (b ≠ w1.heap.size) := by have := HS1.out.lt; rw [Hid]; omega
      clear d1 d2 f2 HS1 hW2 l1
      generalize w1.heap.size = nb at *
      have hne2 : nb ≠ s := fun e => hne1 e.symm
      have d1 : W2.cell? ⟨s, 1, none⟩ = some (.map (some b)) := cell_in HS2.out.box rfl
      have d2 : W2.cell? ⟨s, 2, none⟩ = some (.int .i64 c) := cell_in HS2.out.box rfl
      have f2 := frz (i := 2) HS2.out.box
      have g0 : W2.cell? ⟨nb, 0, none⟩ = some (.int .i64 0) := cell_in hr0 rfl
      have g1 : W2.cell? ⟨nb, 1, none⟩ = some (.int .i64 0) := cell_in hr0 rfl
      have k0 := frz (i := 0) hr0
      have k1 := frz (i := 1) hr0
      have HR0 := Lib.hid hr0
      clear hr0
      go_upto_region 7 with (fail)
      obtain ⟨W3, hW3⟩ : ∃ V, V = ((W2.setCell ⟨s, 2, none⟩ (.int .i64 (c + 1))).setCell ⟨nb, 0, none⟩ (.int .i64 (i : Int))).setCell ⟨nb, 1, none⟩ (.int .i64 (i : Int)) := ⟨_, rfl⟩
      rw [← hW3]
      have HSB : Hid (SH W3 s b k (rmS f gone) (c + 1)) := by
        rw [Hid, hW3]
        refine ⟨?_, (HS2.out.map.heap ?_), HS2.out.ne⟩
        · rw [set_oth hne1, set_oth hne1]; exact set_row1 HS2.out.box
        · rw [set_oth HNB.out, set_oth HNB.out, set_oth (fun e => HS2.out.ne e.symm)]
      have HBB : Hid (Below B w W3) := by rw [Hid, hW3]; exact ((HB2.out.setCell (p := ⟨s, 2, none⟩) hB.1 _).setCell (p := ⟨nb, 0, none⟩) HZ.out _).setCell (p := ⟨nb, 1, none⟩) HZ.out _
      have HJ3 : Hid (∀ j, j < w.heap.size → j ≠ s → j ≠ b → W3.heap[j]? = w.heap[j]?) := fun j hj h1 h2 => by
        have h3 : j ≠ nb := by have := HZ1.out; omega
        rw [← HJ2.out j hj h1 h2, hW3]
        simp only [set_oth h1, set_oth h3]
      have HRB : Hid (W3.heap[nb]? = some (.cells #[.int .i64 (i : Int), .int .i64 (i : Int)] 69 (0, 0))) := by
        rw [Hid, hW3]
        have h1 := set_row1 (k := 0) (v := .int .i64 (i : Int)) (show (W2.setCell ⟨s, 2, none⟩ (.int .i64 (c + 1))).heap[nb]? = some (.cells #[.int .i64 0, .int .i64 0] 69 (0, 0)) by rw [set_oth hne2]; exact HR0.out)
        exact set_row1 (k := 1) (v := .int .i64 (i : Int)) h1
      clear hW3 HS2 HB2 HR0 d1 d2 f2 g0 k0 g1 k1 hne1 hne2
      have HBZ : Hid (B ≤ b) := hB.2
      obtain ⟨w5, u1, u2, u3⟩ := (HSB.out.belowN (Below.refl _ W3).drew).map.store 75 Try.underlying75 hp (i, i)
      have u1 : (Instr.mapUpdate 75 (.map (some b)) (.int .i64 page) (.agg #[.int .i64 (i : Int), .int .i64 (i : Int)])).run Try.prog W3.drew = .ok () w5 := u1
      have HU2 := Lib.hid u2
      have HU3 := Lib.hid u3
      have d1 : W3.drew.cell? ⟨s, 1, none⟩ = some (.map (some b)) := cell_in HSB.out.box rfl
      have g0 : W3.drew.cell? ⟨nb, 0, none⟩ = some (.int .i64 (i : Int)) := cell_in HRB.out rfl
      have g1 : W3.drew.cell? ⟨nb, 1, none⟩ = some (.int .i64 (i : Int)) := cell_in HRB.out rfl
      have e1 : w5.cell? ⟨s, 1, none⟩ = some (.map (some b)) := cell_in ((HU3.out.block s (by have := HSB.out.lt; exact this.1) (fun e => HSB.out.ne (Option.some.inj e))).trans HSB.out.box) rfl
      have e2 : w5.cell? ⟨nb, 0, none⟩ = some (.int .i64 (i : Int)) := cell_in ((HU3.out.block nb (Array.getElem?_eq_some_iff.1 HRB.out).1 (fun e => HNB.out (Option.some.inj e).symm)).trans HRB.out) rfl
      have e3 : w5.cell? ⟨nb, 1, none⟩ = some (.int .i64 (i : Int)) := cell_in ((HU3.out.block nb (Array.getElem?_eq_some_iff.1 HRB.out).1 (fun e => HNB.out (Option.some.inj e).symm)).trans HRB.out) rfl
      clear u2 u3 HRB
      go_region_held_law (fun V => V.cell? ⟨s, 1, none⟩ = some (.map (some b)) ∧ V.cell? ⟨nb, 0, none⟩ = some (.int .i64 (i : Int)) ∧ V.cell? ⟨nb, 1, none⟩ = some (.int .i64 (i : Int))) (first | assumption | exact ⟨d1, g0, g1⟩ | exact ⟨e1, e2, e3⟩) (fail)
      all_goals
        go_end0
        refine ⟨rfl, ⟨?_, ?_, HSB.out.ne⟩, HBB.out.drew.grown HU3.out (Nat.le_trans HBW.out HBB.out.size) (fun j e => by have := HBZ.out; have := Option.some.inj e; omega), fun j hj h1 h2 => (HU3.out.block j (Nat.lt_of_lt_of_le hj HBB.out.size) (fun e => h2 (Option.some.inj e))).trans (HJ3.out j hj h1 h2)⟩
        · have e4 : srvC f page gone = 1 := by unfold srvC; rw [HGP.out]; rfl
          rw [e4]
          exact (HU3.out.block s (by have := HSB.out.lt; exact this.1) (fun e => HSB.out.ne (Option.some.inj e))).trans HSB.out.box
        · have e4 : srvS f i page gone = putS (rmS f gone) page (i, i) := by unfold srvS gotS; rw [HGP.out]
          rw [e4]
          exact HU2.out
    | some st =>
      have l1 : (Instr.lookup 75 (.map (some b)) (.int .i64 page) true).run Try.prog w1 = .ok (.tuple #[.agg #[.int .i64 (st.1 : Int), .int .i64 (st.2 : Int)], .bool true]) w1 := by
        have := HL.out
        rw [hgp] at this
        exact this
      have HGP := Lib.hid hgp
      clear hgp HL
      go_upto_region 3 with (fail)
      obtain ⟨W2, hW2⟩ : ∃ V, V = w1.alloc (.cells #[.int .i64 (st.1 : Int), .int .i64 (st.2 : Int)] 69) := ⟨_, rfl⟩
      rw [← hW2]
      have HS2 : Hid (SH W2 s b k (rmS f gone) c) := by rw [Hid, hW2]; exact HS1.out.belowN ((Below.refl _ w1).alloc (Nat.le_refl _) _)
      have HB2 : Hid (Below B w W2) := by rw [Hid, hW2]; exact HB1.out.alloc HZ.out _
      have hr0 : W2.heap[w1.heap.size]? = some (.cells #[.int .i64 (st.1 : Int), .int .i64 (st.2 : Int)] 69 (0, 0)) := by rw [hW2]; exact heap_alloc_new _ _
      have HJ2 : Hid (∀ j, j < w.heap.size → j ≠ s → j ≠ b → W2.heap[j]? = w.heap[j]?) := fun j hj h1 h2 => by
        rw [← HJ1.out j hj h1 h2, hW2]
        exact ((Below.refl _ w1).alloc (Nat.le_refl _) _).block j (Nat.lt_of_lt_of_le hj HZ1.out)
      have hne1 : s ≠ w1.heap.size := by have := HS1.out.lt; omega
      have HNB : Hid (b ≠ w1.heap.size) := by have := HS1.out.lt; rw [Hid]; omega
      clear d1 d2 f2 HS1 hW2 l1
      generalize w1.heap.size = nb at *
      have hne2 : nb ≠ s := fun e => hne1 e.symm
      have d1 : W2.cell? ⟨s, 1, none⟩ = some (.map (some b)) := cell_in HS2.out.box rfl
      have d2 : W2.cell? ⟨s, 2, none⟩ = some (.int .i64 c) := cell_in HS2.out.box rfl
      have f2 := frz (i := 2) HS2.out.box
      have g0 : W2.cell? ⟨nb, 0, none⟩ = some (.int .i64 (st.1 : Int)) := cell_in hr0 rfl
      have g1 : W2.cell? ⟨nb, 1, none⟩ = some (.int .i64 (st.2 : Int)) := cell_in hr0 rfl
      have k0 := frz (i := 0) hr0
      have k1 := frz (i := 1) hr0
      have HR0 := Lib.hid hr0
      clear hr0
      go_upto_region 7 with (fail)
      obtain ⟨W3, hW3⟩ : ∃ V, V = W2.setCell ⟨nb, 1, none⟩ (.int .i64 (i : Int)) := ⟨_, rfl⟩
      rw [← hW3]
      have HSB : Hid (SH W3 s b k (rmS f gone) c) := by
        rw [Hid, hW3]
        refine ⟨?_, (HS2.out.map.heap ?_), HS2.out.ne⟩
        · rw [set_oth hne1]; exact HS2.out.box
        · rw [set_oth HNB.out]
      have HBB : Hid (Below B w W3) := by rw [Hid, hW3]; exact HB2.out.setCell (p := ⟨nb, 1, none⟩) HZ.out _
      have HJ3 : Hid (∀ j, j < w.heap.size → j ≠ s → j ≠ b → W3.heap[j]? = w.heap[j]?) := fun j hj h1 h2 => by
        have h3 : j ≠ nb := by have := HZ1.out; omega
        rw [← HJ2.out j hj h1 h2, hW3]
        simp only [set_oth h3]
      have HRB : Hid (W3.heap[nb]? = some (.cells #[.int .i64 (st.1 : Int), .int .i64 (i : Int)] 69 (0, 0))) := by
        rw [Hid, hW3]
        exact set_row1 (k := 1) (v := .int .i64 (i : Int)) HR0.out
      clear hW3 HS2 HB2 HR0 d1 d2 f2 g0 k0 g1 k1 hne1 hne2
      have HBZ : Hid (B ≤ b) := hB.2
      obtain ⟨w5, u1, u2, u3⟩ := (HSB.out.belowN (Below.refl _ W3).drew).map.store 75 Try.underlying75 hp (st.1, i)
      have u1 : (Instr.mapUpdate 75 (.map (some b)) (.int .i64 page) (.agg #[.int .i64 (st.1 : Int), .int .i64 (i : Int)])).run Try.prog W3.drew = .ok () w5 := u1
      have HU2 := Lib.hid u2
      have HU3 := Lib.hid u3
      have d1 : W3.drew.cell? ⟨s, 1, none⟩ = some (.map (some b)) := cell_in HSB.out.box rfl
      have g0 : W3.drew.cell? ⟨nb, 0, none⟩ = some (.int .i64 (st.1 : Int)) := cell_in HRB.out rfl
      have g1 : W3.drew.cell? ⟨nb, 1, none⟩ = some (.int .i64 (i : Int)) := cell_in HRB.out rfl
      have e1 : w5.cell? ⟨s, 1, none⟩ = some (.map (some b)) := cell_in ((HU3.out.block s (by have := HSB.out.lt; exact this.1) (fun e => HSB.out.ne (Option.some.inj e))).trans HSB.out.box) rfl
      have e2 : w5.cell? ⟨nb, 0, none⟩ = some (.int .i64 (st.1 : Int)) := cell_in ((HU3.out.block nb (Array.getElem?_eq_some_iff.1 HRB.out).1 (fun e => HNB.out (Option.some.inj e).symm)).trans HRB.out) rfl
      have e3 : w5.cell? ⟨nb, 1, none⟩ = some (.int .i64 (i : Int)) := cell_in ((HU3.out.block nb (Array.getElem?_eq_some_iff.1 HRB.out).1 (fun e => HNB.out (Option.some.inj e).symm)).trans HRB.out) rfl
      clear u2 u3 HRB
      go_region_held_law (fun V => V.cell? ⟨s, 1, none⟩ = some (.map (some b)) ∧ V.cell? ⟨nb, 0, none⟩ = some (.int .i64 (st.1 : Int)) ∧ V.cell? ⟨nb, 1, none⟩ = some (.int .i64 (i : Int))) (first | assumption | exact ⟨d1, g0, g1⟩ | exact ⟨e1, e2, e3⟩) (fail)
      all_goals
        go_end0
        refine ⟨rfl, ⟨?_, ?_, HSB.out.ne⟩, HBB.out.drew.grown HU3.out (Nat.le_trans HBW.out HBB.out.size) (fun j e => by have := HBZ.out; have := Option.some.inj e; omega), fun j hj h1 h2 => (HU3.out.block j (Nat.lt_of_lt_of_le hj HBB.out.size) (fun e => h2 (Option.some.inj e))).trans (HJ3.out j hj h1 h2)⟩
        · have e4 : srvC f page gone = 0 := by unfold srvC; rw [HGP.out]; rfl
          rw [e4, Int.add_zero]
          exact (HU3.out.block s (by have := HSB.out.lt; exact this.1) (fun e => HSB.out.ne (Option.some.inj e))).trans HSB.out.box
        · have e4 : srvS f i page gone = putS (rmS f gone) page (st.1, i) := by unfold srvS gotS; rw [HGP.out]
          rw [e4]
          exact HU2.out
end Go.Proofs.Ytcnjkdkkflpgnaa
