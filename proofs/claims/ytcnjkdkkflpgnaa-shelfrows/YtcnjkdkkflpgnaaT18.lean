import Derived.Test.YtcnjkdkkflpgnaaT17
import Derived.Deep.AppendLies
/- Layer 8: number. -/
namespace Go.Proofs.Ytcnjkdkkflpgnaa
open Go.RowKit Go.Maps
set_option linter.unusedVariables false

theorem pusho_step {ops : Array Oper} {o : Oper} {a : Act} {w : World} {K : Act → World → Prop} {Q : Exit → Act → World → Prop} {E : Prop} (hg : o.guard = none) (s x : Operand)
    (ho : o.op = .call { callee := .builtin .append, args := #[s, x], argTypes := #[89, 89] }) (B : Nat) (i0 : TypeInfo)
    (hI : Try.prog.info? 80 = some i0 ∧ i0.zero = some (.agg #[.int .i64 0, .int .i64 0, .int .i64 0, .int .i64 0, .int .i64 0, .int .i64 0]) ∧ i0.size = 6 ∧ i0.bytes = 48)
    (v : Value) (L : List (List Int)) (p : List Int) (pb : Nat) (hs : a.eval s = v) (hx : a.eval x = .slice (some ⟨pb, 0, none⟩) 1 1) (hpb : w.heap[pb]? = some (.cells (oC p) 80 (0, 0))) (hown : Owo w B v L) (hn : L.length ≤ 1000000) (hB : B ≤ w.heap.size)
    (h : ∀ g cap w', Owo w' B (.slice (some ⟨g, 0, none⟩) (L.length + 1) cap) (L ++ [p]) → w.grownBy w' v.ownBlock → (v.ownBlock = some g ∨ g = w.heap.size) → g < w'.heap.size → K (a.put o.dst (.slice (some ⟨g, 0, none⟩) (L.length + 1) cap)) w') :
    if Region.wanted o (yielded ops a.tmps) = true then Oper.wp Try.prog o a w K Q else E := by
  obtain ⟨h1, h2, h3, h4⟩ := hI
  refine step_append_lies w hg s x 89 ho B 80 i0 _ 6 48 Try.underlying89 h1 h2 h3 h4 rfl (by decide) v L.length (odC L) hs hown ⟨pb, 0, none⟩ 1 1 (oL p) hx rfl ?_ ?_ (by decide) (by unfold maxLen; omega) (by omega) hB _ rfl ?_
  · intro j u hu
    have := cell_in hpb (i := j) (x := u) (by rw [show oC p = (oL p).toArray from rfl, List.getElem?_toArray]; exact hu)
    rw [add_at, Nat.zero_add]
    exact this
  · intro u hu
    simp [oL] at hu
    rcases hu with rfl | rfl | rfl | rfl | rfl | rfl <;> rfl
  · intro g cap w' ho' hg' hor hlt
    refine h g cap w' ?_ hg' hor hlt
    unfold Owo
    rw [List.length_append, show odC (L ++ [p]) = odC L ++ oL p from by simp [odC]]
    exact ho'
/-- The place of an order in a list, and what the map of numbers holds. -/
def numM (L : List (List Int)) : List Int → Option Lit := fun o => if o ∈ L then some (.int .i64 (L.idxOf o : Int)) else none
def addO (L : List (List Int)) (o : List Int) : List (List Int) := if o ∈ L then L else L ++ [o]
theorem numM_put {L : List (List Int)} {o : List Int} (h : o ∉ L) : putK (numM L) o (.int .i64 (L.length : Int)) = numM (L ++ [o]) := by
  funext x
  unfold putK numM
  by_cases e : x = o
  · subst e
    rw [if_pos rfl, if_pos (by simp), List.idxOf_append, if_neg h]
    simp
  · rw [if_neg e]
    by_cases hx : x ∈ L
    · rw [if_pos hx, if_pos (by simp [hx]), List.idxOf_append, if_pos hx]
    · rw [if_neg hx, if_neg (by simp [hx, e])]
theorem idx_addO (L : List (List Int)) (o : List Int) : (addO L o).idxOf o = if o ∈ L then L.idxOf o else L.length := by
  unfold addO
  split
  · rfl
  · rename_i h
    rw [List.idxOf_append, if_neg h]; simp
theorem FullO.small {o : List Int} (h : FullO o) : smallO o := by
  refine ⟨h.len, fun k => ?_⟩
  unfold atI
  by_cases hk : k < o.length
  · rw [List.getElem?_eq_getElem hk, Option.getD_some]
    have hm : o[k] ∈ o6 := h.mem_iff.1 (List.getElem_mem hk)
    have hall : ∀ z ∈ o6, -1099511627776 ≤ z ∧ z ≤ 1099511627776 := by decide
    exact hall _ hm
  · rw [List.getElem?_eq_none (by omega)]
    exact ⟨by decide, by decide⟩
/-- What numbering keeps: the row in block r, its orders L. -/
structure LayS (B : Nat) (V : World) (r mb : Nat) (ov nv : Value) (L : List (List Int)) : Prop where
  box : V.heap[r]? = some (.cells #[ov, .map (some mb), nv] 92 (0, 0))
  ord : Owo V B ov L
  num : KM encOr V 3 mb L.length (numM L)
  full : ∀ o ∈ L, FullO o
  lo : B ≤ r ∧ B ≤ mb
/-- What numbering leaves as it is: cells of other kinds. -/
def KeepT (V V' : World) : Prop := ∀ (k : Nat) (cs : Array Value) (t : TypeId) (f : Nat × Nat), V.heap[k]? = some (Obj.cells cs t f) → t ≠ 80 → t ≠ 92 → V'.heap[k]? = V.heap[k]?
theorem KeepT.refl (V : World) : KeepT V V := fun _ _ _ _ _ _ _ => rfl
theorem KeepT.trans {V V1 V2 : World} (h : KeepT V V1) (h2 : KeepT V1 V2) : KeepT V V2 := fun k cs t f hk h3 h4 => (h2 k cs t f ((h k cs t f hk h3 h4).trans hk) h3 h4).trans (h k cs t f hk h3 h4)
theorem KeepT.below {V V' : World} (h : Below V.heap.size V V') : KeepT V V' := fun k cs t f hk _ _ => h.block k (Array.getElem?_eq_some_iff.1 hk).1
theorem LayS.belowN {B : Nat} {V V' : World} {r mb : Nat} {ov nv : Value} {L : List (List Int)} (h : LayS B V r mb ov nv L) (hb : Below V.heap.size V V') : LayS B V' r mb ov nv L :=
  ⟨(hb.block r (Array.getElem?_eq_some_iff.1 h.box).1).trans h.box, h.ord.below hb (Nat.le_refl _), h.num.below hb h.num.lt, h.full, h.lo⟩
theorem Owo.blk {w : World} {B g n m : Nat} {L : List (List Int)} (h : Owo w B (.slice (some ⟨g, 0, none⟩) n m) L) : ∃ cur, w.heap[g]? = some (.cells cur 80 (0, 0)) := by
  rcases h.2 with ⟨e, _⟩ | ⟨g2, cap, cur, h1, h2, h3, h4⟩
  · cases e
  · injection h1 with h1 _ _
    have h1 := Option.some.inj h1
    injection h1 with h1 _ _
    subst h1
    exact ⟨cur, h3⟩
theorem number_end (B : Nat) (V W W5 W6 w7 : World) (r mb : Nat) (nv : Value) (A : Option Addr) (nL c : Nat) (L : List (List Int)) (o : List Int) (g cap : Nat) (hAD : addO L o = L ++ [o]) (hB : Below B V W) (hK : KeepT V W) (hG : W.drew.drew.grownBy W5 (some mb))
    (hz : B ≤ W5.heap.size) (h56 : Below W5.heap.size W5.drew W6) (hO5 : Owo W5.drew B (.slice A nL c) L) (hN5 : KM encOr W5.drew 3 mb (L.length + 1) (numM (L ++ [o]))) (hf : ∀ o ∈ L, FullO o) (ho : FullO o) (hlo : B ≤ r ∧ B ≤ mb) (hG7 : W6.grownBy w7 (Value.slice A nL c).ownBlock)
    (hO7 : Owo w7 B (.slice (some ⟨g, 0, none⟩) (L.length + 1) cap) (L ++ [o])) (hR7 : w7.heap[r]? = some (.cells #[.slice A nL c, .map (some mb), nv] 92 (0, 0))) (hNR : some r ≠ (Value.slice A nL c).ownBlock) (hWr : W.heap[r]? = some (.cells #[.slice A nL c, .map (some mb), nv] 92 (0, 0))) (hWm : ∀ (cs : Array Value) (t : TypeId) (f : Nat × Nat), W.heap[mb]? ≠ some (Obj.cells cs t f)) :
    (∃ ov', LayS B (w7.setCell ⟨r, 0, none⟩ (.slice (some ⟨g, 0, none⟩) (L.length + 1) cap)) r mb ov' nv (addO L o)) ∧ Below B V (w7.setCell ⟨r, 0, none⟩ (.slice (some ⟨g, 0, none⟩) (L.length + 1) cap)) ∧ KeepT V (w7.setCell ⟨r, 0, none⟩ (.slice (some ⟨g, 0, none⟩) (L.length + 1) cap)) := by
  have hb5 : Below B V W5.drew := ((hB.drew.drew).grown hG (by have := (Array.getElem?_eq_some_iff.1 hWr).1; show B ≤ W.heap.size; omega) (fun j e => by have := Option.some.inj e; omega)).drew
  have hO6 := hO5.below h56 (Nat.le_refl _)
  have hb6 : Below B V W6 := hb5.trans (h56.mono hz)
  have hown : ∀ k, (Value.slice A nL c).ownBlock = some k → B ≤ k ∧ ∃ cur, W6.heap[k]? = some (.cells cur 80 (0, 0)) := fun k hk => by
    rcases hO6.2 with ⟨e, _⟩ | ⟨g2, cap2, cur, e1, e2, e3, _⟩
    · rw [e] at hk; cases hk
    · rw [e1] at hk
      have hk := Option.some.inj hk
      subst hk
      exact ⟨e2, cur, e3⟩
  have hb7 : Below B V w7 := hb6.grown hG7 (Nat.le_trans hz h56.size) (fun j e => (hown j e).1)
  have hgr : g ≠ r := fun e => by
    obtain ⟨cur, h1⟩ := hO7.blk
    rw [e, hR7] at h1
    injection h1 with h1
    injection h1 with _ h1 _
    exact absurd h1 (by decide)
  have hm5 := hN5.lt
  have hmb6 : W6.heap[mb]? = W5.drew.heap[mb]? := h56.block mb hm5
  obtain ⟨D, ⟨es, clock, hm1, hm2⟩, hm3⟩ := id hN5
  have hmo : some mb ≠ (Value.slice A nL c).ownBlock := fun e => by
    obtain ⟨_, cur, h1⟩ := hown mb e.symm
    rw [hmb6, hm1] at h1
    cases h1
  have hmb7 : w7.heap[mb]? = W5.drew.heap[mb]? := (hG7.block mb (Nat.lt_of_lt_of_le hm5 h56.size) hmo).trans hmb6
  have hmr : mb ≠ r := fun e => by
    rw [e] at hm1
    have h2 := hmb7
    rw [e, hR7, hm1] at h2
    cases h2
  have hW5s : W.heap.size ≤ W5.heap.size := hG.size
  refine ⟨⟨.slice (some ⟨g, 0, none⟩) (L.length + 1) cap, ?_, ?_, ?_, ?_, hlo⟩, hb7.setCell (p := ⟨r, 0, none⟩) hlo.1 _, ?_⟩
  · exact set_row1 hR7
  · rw [hAD]
    exact hO7.same fun k hk => set_oth (by
      have := Option.some.inj hk
      show k ≠ r
      have h3 : g = k := this
      omega)
  · rw [hAD, List.length_append]
    exact hN5.heap ((set_oth hmr).trans hmb7)
  · intro x hx
    rw [hAD, List.mem_append, List.mem_singleton] at hx
    rcases hx with hx | rfl
    · exact hf x hx
    · exact ho
  · refine hK.trans fun k cs t f hk h1 h2 => ?_
    have hkW := (Array.getElem?_eq_some_iff.1 hk).1
    have hkr : k ≠ r := fun e => by
      rw [e, hWr] at hk
      injection hk with hk
      injection hk with _ hk _
      exact h2 hk.symm
    have h5 : W5.drew.heap[k]? = W.heap[k]? := hG.block k hkW (fun e => by
      have e := Option.some.inj e
      subst e
      exact hWm _ _ _ hk)
    rw [set_oth hkr, hG7.block k (Nat.lt_of_lt_of_le hkW (Nat.le_trans hW5s h56.size)) (fun e => by
      obtain ⟨_, cur, h6⟩ := hown k e.symm
      rw [h56.block k (Nat.lt_of_lt_of_le hkW hW5s), h5, hk] at h6
      injection h6 with h6
      injection h6 with _ h6 _
      exact h1 h6), h56.block k (Nat.lt_of_lt_of_le hkW hW5s), h5]
set_option maxRecDepth 100000 in
set_option maxHeartbeats 6400000 in
theorem number_any (B : Nat) (V : World) (r mb : Nat) (ov nv : Value) (L : List (List Int)) (o : List Int) (h : LayS B V r mb ov nv L) (ho : FullO o) (hL : L.length ≤ 100000) :
    Calls Try.prog 78 #[.pointer (some ⟨r, 0, none⟩), oV o] V fun e V' => e = .returned (.int .i64 ((addO L o).idxOf o : Int)) ∧ (∃ ov', LayS B V' r mb ov' nv (addO L o)) ∧ Below B V V' ∧ KeepT V V' := by
  have hol := ho.len
  have hrl := (Array.getElem?_eq_some_iff.1 h.box).1
  have hml := h.num.lt
  obtain ⟨W, hW⟩ : ∃ W, W = V.alloc (.cells (oC o) 80) := ⟨_, rfl⟩
  have hb : Below V.heap.size V W := by rw [hW]; exact (Below.refl _ V).alloc (Nat.le_refl _) _
  have hr0 : W.heap[V.heap.size]? = some (.cells (oC o) 80 (0, 0)) := by rw [hW]; exact heap_alloc_new _ _
  have hz : W.heap.size = V.heap.size + 1 := by rw [hW]; simp
  have HS := Lib.hid (h.belowN hb)
  have HBV : Hid (B ≤ V.heap.size) := by have := h.lo; rw [Hid]; omega
  have HIX := Lib.hid (idx_addO L o)
  have HFU := Lib.hid ho
  have HKB := Lib.hid (KeepT.below hb)
  have d1 : W.cell? ⟨r, 1, none⟩ = some (.map (some mb)) := cell_in HS.out.box rfl
  have e0 : W.cell? ⟨V.heap.size, 0, none⟩ = some (.int .i64 (atI o 0)) := cell_in hr0 rfl
  have e1 : W.cell? ⟨V.heap.size, 1, none⟩ = some (.int .i64 (atI o 1)) := cell_in hr0 rfl
  have e2 : W.cell? ⟨V.heap.size, 2, none⟩ = some (.int .i64 (atI o 2)) := cell_in hr0 rfl
  have e3 : W.cell? ⟨V.heap.size, 3, none⟩ = some (.int .i64 (atI o 3)) := cell_in hr0 rfl
  have e4 : W.cell? ⟨V.heap.size, 4, none⟩ = some (.int .i64 (atI o 4)) := cell_in hr0 rfl
  have e5 : W.cell? ⟨V.heap.size, 5, none⟩ = some (.int .i64 (atI o 5)) := cell_in hr0 rfl
  have HR0 := Lib.hid hr0
  have HB := Lib.hid (hb.mono HBV.out)
  have HW : Hid (W = V.alloc (.cells #[.int .i64 (atI o 0), .int .i64 (atI o 1), .int .i64 (atI o 2), .int .i64 (atI o 3), .int .i64 (atI o 4), .int .i64 (atI o 5)] 80)) := hW
  by_cases hm : o ∈ L
  · have HAD : Hid (addO L o = L) := if_pos hm
    have l1 : (Instr.lookup 90 (.map (some mb)) (oV o) true).run Try.prog W.drew = .ok (.tuple #[.int .i64 (L.idxOf o : Int), .bool true]) W.drew :=
      run_lookIk W.drew 90 Try.underlying90 mb L.length (numM L) (HS.out.num.below (Below.refl _ W).drew HS.out.num.lt) ho.small _ (by unfold numM; rw [if_pos hm]; rfl) true (by unfold numM; rw [if_pos hm]; rfl)
    rw [show oV o = .agg #[.int .i64 (atI o 0), .int .i64 (atI o 1), .int .i64 (atI o 2), .int .i64 (atI o 3), .int .i64 (atI o 4), .int .i64 (atI o 5)] from rfl] at l1 ⊢
    rw [HIX.out, if_pos hm]
    generalize L.idxOf o = ix at *
    clear hW hb hr0 hz h ho hol hm HR0
    generalize atI o 0 = a0 at *
    generalize atI o 1 = a1 at *
    generalize atI o 2 = a2 at *
    generalize atI o 3 = a3 at *
    generalize atI o 4 = a4 at *
    generalize atI o 5 = a5 at *
    go_enter Try.func78, Try.ntmps78
    go_upto_region 1 with (fail)
    rw [← HW.out]
    go_region_held_law (fun X => X.cell? ⟨r, 1, none⟩ = some (.map (some mb)) ∧ X.cell? ⟨V.heap.size, 0, none⟩ = some (.int .i64 a0) ∧ X.cell? ⟨V.heap.size, 1, none⟩ = some (.int .i64 a1) ∧ X.cell? ⟨V.heap.size, 2, none⟩ = some (.int .i64 a2) ∧ X.cell? ⟨V.heap.size, 3, none⟩ = some (.int .i64 a3) ∧ X.cell? ⟨V.heap.size, 4, none⟩ = some (.int .i64 a4) ∧ X.cell? ⟨V.heap.size, 5, none⟩ = some (.int .i64 a5)) (first | assumption | exact ⟨d1, e0, e1, e2, e3, e4, e5⟩) (fail)
    all_goals
      clear l1
      go_wp2
      go_ret
      rw [HAD.out]
      exact ⟨rfl, ⟨_, HS.out.belowN (Below.refl _ W).drew⟩, HB.out.drew, HKB.out.trans (KeepT.below (Below.refl _ W).drew)⟩
  · have HAD : Hid (addO L o = L ++ [o]) := if_neg hm
    have l1 : (Instr.lookup 90 (.map (some mb)) (oV o) true).run Try.prog W.drew = .ok (.tuple #[.int .i64 0, .bool false]) W.drew :=
      run_lookIk W.drew 90 Try.underlying90 mb L.length (numM L) (HS.out.num.below (Below.refl _ W).drew HS.out.num.lt) ho.small _ (by unfold numM; rw [if_neg hm]; rfl) false (by unfold numM; rw [if_neg hm]; rfl)
    obtain ⟨A, c, rfl, hslo⟩ := HS.out.ord.slo rfl (by omega) (fun o ho => (HS.out.full o ho).len)
    obtain ⟨W5, u1, u2, u3⟩ := run_storeK W.drew.drew (HS.out.num.below ((Below.refl _ W).drew.drew) HS.out.num.lt) 90 Try.underlying90 (by omega) (k := o) ho.small (.int .i64 (L.length : Int)) (.int .i64 (L.length : Int)) (plainElem_int Try.underlying3 (wfI ⟨by omega, by omega⟩))
    rw [numM_put hm] at u2
    rw [show encOr.kv o = oV o from rfl] at u1
    rw [show oV o = .agg #[.int .i64 (atI o 0), .int .i64 (atI o 1), .int .i64 (atI o 2), .int .i64 (atI o 3), .int .i64 (atI o 4), .int .i64 (atI o 5)] from rfl] at l1 u1 ⊢
    rw [HIX.out, if_neg hm]
    have d0 : W.drew.cell? ⟨r, 0, none⟩ = some (.slice A L.length c) := cell_in HS.out.box rfl
    have hne1 : r ≠ mb := fun e => by
      have h1 := HS.out.box
      obtain ⟨D, ⟨es, clock, h2, _⟩, _⟩ := HS.out.num
      rw [e, h2] at h1
      cases h1
    have hgrow : ∀ k, k < W.heap.size → k ≠ mb → W5.heap[k]? = W.heap[k]? := fun k hk hne => u3.block k hk (fun e => hne (Option.some.inj e))
    have hoc : oC o = #[.int .i64 (atI o 0), .int .i64 (atI o 1), .int .i64 (atI o 2), .int .i64 (atI o 3), .int .i64 (atI o 4), .int .i64 (atI o 5)] := rfl
    have HW5 : Hid (W5.drew.heap[r]? = some (.cells #[.slice A L.length c, .map (some mb), nv] 92 (0, 0)) ∧ W5.drew.heap[V.heap.size]? = some (.cells (oC o) 80 (0, 0))) := ⟨(hgrow r (by omega) hne1).trans HS.out.box, (hgrow V.heap.size (by omega) (by omega)).trans hr0⟩
    have HSX : Hid (∀ X : World, X.heap[r]? = some (.cells #[.slice A L.length c, .map (some mb), nv] 92 (0, 0)) → X.heap[V.heap.size]? = some (.cells (oC o) 80 (0, 0)) → X.cell? ⟨r, 1, none⟩ = some (.map (some mb)) ∧ X.cell? ⟨V.heap.size, 0, none⟩ = some (.int .i64 (atI o 0)) ∧ X.cell? ⟨V.heap.size, 1, none⟩ = some (.int .i64 (atI o 1)) ∧ X.cell? ⟨V.heap.size, 2, none⟩ = some (.int .i64 (atI o 2)) ∧ X.cell? ⟨V.heap.size, 3, none⟩ = some (.int .i64 (atI o 3)) ∧ X.cell? ⟨V.heap.size, 4, none⟩ = some (.int .i64 (atI o 4)) ∧ X.cell? ⟨V.heap.size, 5, none⟩ = some (.int .i64 (atI o 5))) := fun X h1 h2 => ⟨cell_in h1 rfl, cell_in h2 rfl, cell_in h2 rfl, cell_in h2 rfl, cell_in h2 rfl, cell_in h2 rfl, cell_in h2 rfl⟩
    have HS5 := Lib.hid (HSX.out W5 HW5.out.1 HW5.out.2)
    have HS1 := Lib.hid (HSX.out W.drew HS.out.box hr0)
    have hs5 : W.heap.size ≤ W5.heap.size := u3.size
    have HO5 : Hid (Owo W5.drew B (.slice A L.length c) L) := by
      refine (HS.out.ord.same (fun k hk => hgrow k (HS.out.ord.lt hk).2 (fun e => ?_)))
      subst e
      obtain ⟨D, ⟨es, clock, h2, _⟩, _⟩ := HS.out.num
      rcases HS.out.ord.2 with ⟨e1, _⟩ | ⟨g, cap, cur, e1, _, e3, _⟩
      · rw [e1] at hk; cases hk
      · rw [e1] at hk
        have hk := Option.some.inj hk
        subst hk
        rw [h2] at e3
        cases e3
    have HN5 := Lib.hid (u2.below (Below.refl _ W5).drew u2.lt)
    have HG5 := Lib.hid u3
    have HBZ : Hid (B ≤ W5.heap.size) := Nat.le_trans (Nat.le_trans HBV.out (by omega)) hs5
    have hoc : oC o = #[.int .i64 (atI o 0), .int .i64 (atI o 1), .int .i64 (atI o 2), .int .i64 (atI o 3), .int .i64 (atI o 4), .int .i64 (atI o 5)] := rfl
    have HOC := Lib.hid hoc
    obtain ⟨i0, hi, hz0, hz1, hz2⟩ := info_parts Try.infoOr
    have HI : Hid (Try.prog.info? 80 = some i0 ∧ i0.zero = some (.agg #[.int .i64 0, .int .i64 0, .int .i64 0, .int .i64 0, .int .i64 0, .int .i64 0]) ∧ i0.size = 6 ∧ i0.bytes = 48) := ⟨hi, hz0, hz1, hz2⟩
    have HLL : Hid (L.length ≤ 100000) := hL
    have HZ := Lib.hid (show W.heap.size = V.heap.size + 1 ∧ W.heap.size ≤ W5.heap.size ∧ r < V.heap.size ∧ r ≠ mb from ⟨hz, hs5, hrl, hne1⟩)
    obtain ⟨nL, hnL⟩ : ∃ k, k = L.length := ⟨_, rfl⟩
    have HNL := Lib.hid hnL
    rw [← hnL] at u1 d0 HO5 HS HW5 HLL hslo ⊢
    have hbig := hslo.big
    clear hi hz0 hz1 hz2 hW hb hr0 hz h ho hol hm HR0 HSX u2 u3 hgrow hs5 hslo hoc e0 e1 e2 e3 e4 e5 d1 hL hnL hne1 hrl hml
    have d6 : W5.drew.cell? ⟨r, 0, none⟩ = some (.slice A nL c) := cell_in HW5.out.1 rfl
    have g0 : W5.drew.cell? ⟨V.heap.size, 0, none⟩ = some (.int .i64 (atI o 0)) := cell_in HW5.out.2 rfl
    have g1 : W5.drew.cell? ⟨V.heap.size, 1, none⟩ = some (.int .i64 (atI o 1)) := cell_in HW5.out.2 rfl
    have g2 : W5.drew.cell? ⟨V.heap.size, 2, none⟩ = some (.int .i64 (atI o 2)) := cell_in HW5.out.2 rfl
    have g3 : W5.drew.cell? ⟨V.heap.size, 3, none⟩ = some (.int .i64 (atI o 3)) := cell_in HW5.out.2 rfl
    have g4 : W5.drew.cell? ⟨V.heap.size, 4, none⟩ = some (.int .i64 (atI o 4)) := cell_in HW5.out.2 rfl
    have g5 : W5.drew.cell? ⟨V.heap.size, 5, none⟩ = some (.int .i64 (atI o 5)) := cell_in HW5.out.2 rfl
    generalize atI o 0 = a0 at *
    generalize atI o 1 = a1 at *
    generalize atI o 2 = a2 at *
    generalize atI o 3 = a3 at *
    generalize atI o 4 = a4 at *
    generalize atI o 5 = a5 at *
    obtain ⟨W6, hW6⟩ : ∃ X, X = W5.drew.alloc (.cells #[.int .i64 a0, .int .i64 a1, .int .i64 a2, .int .i64 a3, .int .i64 a4, .int .i64 a5] 80) := ⟨_, rfl⟩
    have hb6 : Below W5.heap.size W5.drew W6 := by rw [hW6]; exact (Below.refl _ W5.drew).alloc (Nat.le_refl _) _
    have d7 : (W5.drew.alloc (.cells #[.int .i64 a0, .int .i64 a1, .int .i64 a2, .int .i64 a3, .int .i64 a4, .int .i64 a5] 80)).cell? ⟨r, 0, none⟩ = some (.slice A nL c) := by
      rw [← hW6]
      exact cell_in ((hb6.block r (by have := HZ.out; omega)).trans HW5.out.1) rfl
    go_enter Try.func78, Try.ntmps78
    go_upto_region 1 with (fail)
    rw [← HW.out]
    go_region_held_law (fun X => X.cell? ⟨r, 1, none⟩ = some (.map (some mb)) ∧ X.cell? ⟨V.heap.size, 0, none⟩ = some (.int .i64 a0) ∧ X.cell? ⟨V.heap.size, 1, none⟩ = some (.int .i64 a1) ∧ X.cell? ⟨V.heap.size, 2, none⟩ = some (.int .i64 a2) ∧ X.cell? ⟨V.heap.size, 3, none⟩ = some (.int .i64 a3) ∧ X.cell? ⟨V.heap.size, 4, none⟩ = some (.int .i64 a4) ∧ X.cell? ⟨V.heap.size, 5, none⟩ = some (.int .i64 a5)) (first | assumption | exact HS1.out) (fail)
    go_wp2
    go_region_held_law (fun X => X.cell? ⟨r, 1, none⟩ = some (.map (some mb)) ∧ X.cell? ⟨V.heap.size, 0, none⟩ = some (.int .i64 a0) ∧ X.cell? ⟨V.heap.size, 1, none⟩ = some (.int .i64 a1) ∧ X.cell? ⟨V.heap.size, 2, none⟩ = some (.int .i64 a2) ∧ X.cell? ⟨V.heap.size, 3, none⟩ = some (.int .i64 a3) ∧ X.cell? ⟨V.heap.size, 4, none⟩ = some (.int .i64 a4) ∧ X.cell? ⟨V.heap.size, 5, none⟩ = some (.int .i64 a5)) (first | assumption | exact HS1.out | exact HS5.out) (fail)
    go_wp2
    have HO6 : Hid (Owo W6 B (.slice A nL c) L) := by rw [Hid, hW6]; exact HO5.out.alloc _
    have HP6 : Hid (W6.heap[W5.heap.size]? = some (.cells (oC o) 80 (0, 0))) := by rw [Hid, hW6, HOC.out]; exact heap_alloc_new _ _
    have HB6 : Hid (B ≤ W6.heap.size) := by have := hb6.size; have := HBZ.out; rw [Hid]; exact Nat.le_trans HBZ.out hb6.size
    have HR6 : Hid (W6.heap[r]? = some (.cells #[.slice A nL c, .map (some mb), nv] 92 (0, 0))) := (hb6.block r (by have := HZ.out; omega)).trans HW5.out.1
    have HNR : Hid (some r ≠ (Value.slice A nL c).ownBlock) := fun e => by
      rcases HO6.out.2 with ⟨e1, _⟩ | ⟨g, cap, cur, e1, _, e3, _⟩
      · rw [e1] at e; cases e
      · rw [e1] at e
        have e := Option.some.inj e
        have h1 := HR6.out
        rw [e, e3] at h1
        injection h1 with h1
        injection h1 with _ h1 _
        exact absurd h1 (by decide)
    have HWM : Hid (∀ (cs : Array Value) (t : TypeId) (f : Nat × Nat), W.heap[mb]? ≠ some (Obj.cells cs t f)) := fun cs t f e => by
      obtain ⟨D, ⟨es, clock, h2, _⟩, _⟩ := HS.out.num
      rw [h2] at e
      cases e
    have HLN : Hid (L.length ≤ 1000000) := by have := HNL.out; have := HLL.out; rw [Hid]; omega
    have HB56 := Lib.hid hb6
    clear hb6 hoc
    subst hW6
    have d9 : (W5.alloc (.cells #[.int .i64 a0, .int .i64 a1, .int .i64 a2, .int .i64 a3, .int .i64 a4, .int .i64 a5] 80)).cell? ⟨r, 0, none⟩ = some (.slice A nL c) := d7
    clear d7
    go_region_law (first
      | (refine pusho_step rfl (.tmp 33) (.tmp 35) rfl B i0 HI.out _ L o W5.heap.size (by rfl) (by rfl) HP6.out HO6.out HLN.out HB6.out ?_; intro g cap w7 ho7 hg7 hor7 hlt7; have d8 : w7.cell? ⟨r, 0, none⟩ = some (.slice A nL c) := cell_in ((hg7.block r (Array.getElem?_eq_some_iff.1 HR6.out).1 HNR.out).trans HR6.out) rfl; have HR7 := Lib.hid ((hg7.block r (Array.getElem?_eq_some_iff.1 HR6.out).1 HNR.out).trans HR6.out); have f8 := frz (i := 0) HR7.out; have HO7 := Lib.hid ho7; have HG7 := Lib.hid hg7; have HL7 := Lib.hid hor7; clear ho7 hg7 hor7 hlt7))
    all_goals
      clear l1 u1 d0 d6 g0 g1 g2 g3 g4 g5 d9
      go_wp2
      go_ret
      refine ⟨rfl, ?_⟩
      exact number_end B V W W5 _ w7 r mb nv A nL c L o g cap HAD.out HB.out HKB.out HG5.out HBZ.out HB56.out HO5.out HN5.out HS.out.full HFU.out HS.out.lo HG7.out HO7.out HR7.out HNR.out HS.out.box HWM.out
end Go.Proofs.Ytcnjkdkkflpgnaa
