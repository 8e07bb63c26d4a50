import Derived.Test.YtcnjkdkkflpgnaaT23
import Derived.Test.YtcnjkdkkflpgnaaT27
/- Layer 8: sets of pages as maps to bools: look-up, store, len, clear. -/
namespace Go.Proofs.Ytcnjkdkkflpgnaa
open Go.RowKit Go.Maps Go.ChangeShapes
open Go.WideElems (Fit rd rg pl rd_val elemAt)
set_option linter.unusedVariables false

structure Rbt (D : DataW Unit) (T : List Int) : Prop where
  map : IsMap D
  has : ∀ x : Int, Maps.has D (.int .i64 x) = decide (x ∈ T)
  at_ : ∀ (x : Int) (z : DataW Unit), D.atKey (.int .i64 x) z = if x ∈ T then .lit (.bool true) else z
  nd : T.Nodup
  lt : ∀ x ∈ T, 0 ≤ x ∧ x < 16
theorem Rbt.empty : Rbt (.map []) [] := ⟨isMap_empty, fun _ => rfl, fun _ _ => rfl, by simp, fun _ h => by cases h⟩
def addT (T : List Int) (x : Int) : List Int := if x ∈ T then T else T ++ [x]
theorem addT_mem {T : List Int} {x y : Int} : y ∈ addT T x ↔ y = x ∨ y ∈ T := by
  unfold addT
  split
  · rename_i h
    exact ⟨.inr, fun e => e.elim (fun e => e ▸ h) id⟩
  · rw [List.mem_append, List.mem_singleton, Or.comm]
theorem addT_nodup {T : List Int} {x : Int} (h : T.Nodup) : (addT T x).Nodup := by
  unfold addT
  split
  · exact h
  · rename_i hn
    exact List.nodup_append.2 ⟨h, by simp, fun a ha b hb => by simp at hb; subst hb; exact fun e => hn (e ▸ ha)⟩
theorem Rbt.put {D : DataW Unit} {T : List Int} (h : Rbt D T) {x : Int} (hx : 0 ≤ x ∧ x < 16) : Rbt (D.put (.int .i64 x) (.lit (.bool true))) (addT T x) := by
  refine ⟨h.map.put _ _, fun y => ?_, fun y z => ?_, addT_nodup h.nd, fun y hy => ?_⟩
  · by_cases e : y = x
    · rw [e, has_put_same h.map (litKeyZ x) _, decide_eq_true (addT_mem.2 (.inl rfl))]
    · rw [has_put_other (litNe e) _, h.has]
      exact decide_eq_decide.2 ⟨fun h => addT_mem.2 (.inr h), fun h => (addT_mem.1 h).resolve_left e⟩
  · by_cases e : y = x
    · rw [e, if_pos (addT_mem.2 (.inl rfl))]; exact atKey_put_same h.map (litKeyZ x) _ z
    · rw [atKey_put_other (litNe e) _ z, h.at_]
      by_cases hy : y ∈ T
      · rw [if_pos hy, if_pos (addT_mem.2 (.inr hy))]
      · rw [if_neg hy, if_neg (fun h => hy ((addT_mem.1 h).resolve_left e))]
  · rcases addT_mem.1 hy with e | e
    · rw [e]; exact hx
    · exact h.lt y e
theorem Rbt.len {D : DataW Unit} {T : List Int} (h : Rbt D T) : T.length ≤ 16 := by
  have h1 := nodup_ltN 16 (T.map Int.toNat) (List.pairwise_map.2 (List.Pairwise.imp_of_mem (fun {a b} ha hb hab e => hab (by have := h.lt a ha; have := h.lt b hb; omega)) h.nd)) (fun x hx => by
    obtain ⟨y, hy, rfl⟩ := List.mem_map.1 hx
    have := h.lt y hy; omega)
  simpa using h1
/-- Block b is the set T. -/
def BM (w : World) (b : Nat) (T : List Int) : Prop := ∃ D : DataW Unit, w.ownsMap Try.prog 3 (plainElem (H := Unit) Try.prog 4) b (Maps.size D) D ∧ Rbt D T
theorem BM.made (w : World) : BM (w.alloc (.map #[] 0)) w.heap.size [] := ⟨_, owns_exact (World.ownsMap_made _ _ _ _), Rbt.empty⟩
theorem zeroBo (w : World) : (zeroValue 4).run Try.prog w = .ok (.bool false) w := by kernel_rfl
theorem plainElem_bo {e : TypeId} (he : Try.prog.underlying e = some .bool) {v : Value} {z : DataW Unit × List MemPlace} (h : plainElem Try.prog e v = some z) : ∃ x, v = .bool x ∧ z = (.lit (.bool x), []) := by
  unfold plainElem at h
  rw [he] at h
  cases v <;> simp at h
  rename_i x
  exact ⟨x, rfl, h.symm⟩
section
variable {w : World} {b : Nat} {T : List Int}
theorem BM.lt (h : BM w b T) : b < w.heap.size := by obtain ⟨D, h, _⟩ := h; exact h.lt
theorem BM.heap {w' : World} (h : BM w b T) (hb : w'.heap[b]? = w.heap[b]?) : BM w' b T := by
  obtain ⟨D, ⟨es, clock, h1, h2⟩, hr⟩ := h
  exact ⟨D, ⟨es, clock, hb.trans h1, h2⟩, hr⟩
theorem BM.below {w' : World} {B : Nat} (h : BM w b T) (k : Below B w w') (hb : b < B) : BM w' b T := h.heap (k.block b hb)
theorem BM.size {D : DataW Unit} {n : Nat} (h : w.ownsMap Try.prog 3 (plainElem (H := Unit) Try.prog 4) b n D) (hr : Rbt D T) : Maps.size D = T.length := by
  obtain ⟨es, hD, hpw⟩ := h.tidy keyI
  obtain ⟨es', hD', hko⟩ := h.keysOf
  obtain rfl : es = es' := by rw [hD] at hD'; simpa using hD'
  have hp : List.Perm T (intKeys D) := by
    subst hD
    exact perm_intKeys hpw (fun p hp => by obtain ⟨v, hv⟩ := hko p hp; obtain ⟨x, _, hx, _⟩ := Maps.keyOf_i64 Try.underlying3 hv; exact ⟨x, hx⟩) hr.nd (fun x => by rw [hr.has, decide_eq_true_iff])
  rw [hp.length_eq]
  subst hD
  simp [intKeys, Maps.size]
theorem BM.len (h : BM w b T) (t ty : TypeId) (e : TypeId) (ht : Try.prog.underlying t = some (.map 3 e)) : (Builtin.len_ #[t] ty #[.map (some b)]).run Try.prog w = .ok (.int .i64 (T.length : Int)) w := by
  obtain ⟨D, h, hr⟩ := h
  rw [← BM.size h hr]
  exact h.len ht ty
set_option maxRecDepth 100000 in
theorem BM.look (h : BM w b T) (t : TypeId) (ht : Try.prog.underlying t = some (.map 3 4)) {x : Int} (hx : -9223372036854775808 ≤ x ∧ x ≤ 9223372036854775807) :
    (Instr.lookup t (.map (some b)) (.int .i64 x) false).run Try.prog w = .ok (.bool (decide (x ∈ T))) w := by
  obtain ⟨D, h, hr⟩ := h
  obtain ⟨v, ps, hrun, hv⟩ := h.lookup keyI ht (zeroBo w) (plainElem_bool Try.underlying4 false) (keyZ hx)
  obtain ⟨c, rfl, hc⟩ := plainElem_bo Try.underlying4 hv
  rw [hrun]
  have h1 := congrArg Prod.fst hc
  simp only [hr.at_] at h1
  split at h1
  · rename_i hm
    injection h1 with h1
    injection h1 with h1
    rw [← h1, decide_eq_true hm]
  · rename_i hm
    injection h1 with h1
    injection h1 with h1
    rw [← h1, decide_eq_false hm]
/-- 'm[k] = true'. -/
theorem bstore_law (w : World) {ops : Array Oper} {rest : List Oper} {o : Oper} {a : Act} {Q : Exit → Act → World → Prop} (hg : o.guard = none) (m x v : Operand) (t : TypeId) (hop : o.op = Op.mapUpdate t m x v) (ht : Try.prog.underlying t = some (.map 3 4)) (b : Nat) (T : List Int)
    (hm : a.eval m = .map (some b)) (hown : BM w b T) {z : Int} (hz : 0 ≤ z ∧ z < 16) (hx : a.eval x = .int .i64 z) (hv : a.eval v = .bool true)
    (hK : ∀ w', BM w' b (addT T z) → World.grownBy w w' (some b) → wpList Try.prog ops Q rest (a.put o.dst undef) w') : wpList Try.prog ops Q (o :: rest) a w := by
  obtain ⟨D, hD, hR⟩ := hown
  have hs := BM.size hD hR
  have hl := hR.len
  exact wpList_mapUpdate_own w hg m x v t hop 3 4 keyI ht _ b _ D hm hD (by unfold maxLen; omega) _ _ _ hx hv (keyZ (x := z) ⟨by omega, by omega⟩) _ [] (plainElem_bool Try.underlying4 true) fun w' h1 h2 => hK w' ⟨_, owns_exact h1, hR.put hz⟩ h2
theorem BM.clear (h : BM w b T) (t ty : TypeId) (e : TypeId) (ht : Try.prog.underlying t = some (.map 3 e)) :
    ∃ w', (Builtin.clear_ #[t] ty #[.map (some b)]).run Try.prog w = .ok (.tuple #[]) w' ∧ BM w' b [] ∧ World.grownBy w w' (some b) := by
  obtain ⟨D, ⟨es, clock, hb, _⟩, _⟩ := h
  refine ⟨{ w with heap := w.heap.setIfInBounds b (.map #[] clock) }, ?_, ⟨.map [], ⟨#[], clock, ?_, ⟨by simp, MapKept.stamped_empty clock, by simp⟩, Nat.le_refl _, rfl⟩, Rbt.empty⟩, ?_⟩
  · simp [Builtin.clear_, run_underlying ht, MapKept.run_getObj_map hb, MapKept.run_setObj_map _ hb, Result.andThen]
  · exact (MapKept.heap_set hb).1
  · exact ⟨rfl, rfl, rfl, by simp, fun k hk hne => (MapKept.heap_set hb).2 k (fun e => hne (by rw [e]))⟩
theorem clear_law (w : World) {ops : Array Oper} {rest : List Oper} {o : Oper} {a : Act} {Q : Exit → Act → World → Prop} (hg : o.guard = none) (m : Operand) (t : TypeId) (hop : o.op = Op.call { callee := Callee.builtin Builtin.clear, args := #[m], argTypes := #[t] })
    (e : TypeId) (ht : Try.prog.underlying t = some (.map 3 e)) (b : Nat) (T : List Int) (hm : a.eval m = .map (some b)) (hown : BM w b T)
    (hK : ∀ w', BM w' b [] → World.grownBy w w' (some b) → wpList Try.prog ops Q rest (a.put o.dst (.tuple #[])) w') : wpList Try.prog ops Q (o :: rest) a w := by
  refine wpList_plain hg fun K' hK' => ?_
  obtain ⟨w', hrun, r1, r2⟩ := hown.clear t o.type e ht
  unfold Oper.wp
  simp [execOp, hop, resolve, invoke, builtin, hm, hrun, Result.andThen]
  exact hK' _ _ (hK w' r1 r2)
end
end Go.Proofs.Ytcnjkdkkflpgnaa
/- Layer 8: Phases of the program and of the reference, Curve. -/
namespace Go.Proofs.Ytcnjkdkkflpgnaa
open Go.RowKit Go.Maps
set_option linter.unusedVariables false

theorem BM.pushed {w w' : World} {b B e : Nat} {T zs : List Int} {v : Value} (h : BM w b T) (ho : Ow w B e v zs) (hg : w.grownBy w' v.ownBlock) : BM w' b T := by
  obtain ⟨D, ⟨es, clock, hb, _⟩, _⟩ := id h
  refine h.heap (hg.block b h.lt (fun e => ?_))
  obtain ⟨cur, h1⟩ := own_ty ho e.symm
  rw [hb] at h1
  cases h1
theorem Ow.bm {w w' : World} {b B e : Nat} {T zs : List Int} {v : Value} (ho : Ow w B e v zs) (h : BM w b T) (hg : w.grownBy w' (some b)) : Ow w' B e v zs := by
  obtain ⟨D, ⟨es, clock, hb, _⟩, _⟩ := id h
  refine own_same ho fun k cur h1 _ => hg.block k (Array.getElem?_eq_some_iff.1 h1).1 (fun e => ?_)
  have e := Option.some.inj e
  rw [e, hb] at h1
  cases h1
/-- The pages of this phase, the beginnings of the phases. -/
def phN (k : Int) (i : Nat) (page : Int) (T : List Int) : List Int := if page ∈ T then T else (if i = 0 ∨ (T.length : Int) = k then [] else T) ++ [page]
def phT (k : Int) (zs : List Int) : Nat → List Int
  | 0 => []
  | i + 1 => phN k i (atI zs i) (phT k zs i)
def phS (k : Int) (zs : List Int) : Nat → List Int
  | 0 => []
  | i + 1 => if atI zs i ∉ phT k zs i ∧ (i = 0 ∨ ((phT k zs i).length : Int) = k) then phS k zs i ++ [(i : Int)] else phS k zs i
theorem phS_len (k : Int) (zs : List Int) : ∀ i, (phS k zs i).length ≤ i
  | 0 => Nat.le_refl _
  | i + 1 => by
    have := phS_len k zs i
    unfold phS
    split
    · rw [List.length_append, List.length_singleton]; omega
    · omega
theorem phT_len (k : Int) (zs : List Int) : ∀ i, (phT k zs i).length ≤ i
  | 0 => Nat.le_refl _
  | i + 1 => by
    have := phT_len k zs i
    unfold phT phN
    split
    · omega
    · rw [List.length_append, List.length_singleton]
      split
      · simp
      · omega
set_option maxRecDepth 100000 in
set_option maxHeartbeats 12800000 in
theorem phasesP_any (k : Int) (zs : List Int) (A : Option Addr) (n c : Nat) (w : World) (h : Sl w A n c zs) :
    Calls Try.prog 27 #[.slice A n c, .int .i64 k] w fun e w' => ((reqB zs 200 15 = true ∧ placesB k = true ∧ ∃ v, e = .returned (.tuple #[v, .int .i64 0]) ∧ Ow w' w.heap.size 3 v (phS k zs n)) ∨ ((reqB zs 200 15 = false ∨ placesB k = false) ∧ e = .returned (.tuple #[.slice none 0 0, .int .i64 2]))) ∧ Below w.heap.size w w' := by
  have HA := Lib.hid (areRequests_any zs A n c w h)
  have HP := Lib.hid (fun V => isPlaces_any k V)
  have HSL := Lib.hid (fun V (hV : Below w.heap.size w V) => h.below hV (Nat.le_refl _))
  have HL : Hid (zs.length = n) := h.len
  have hbig := h.big
  clear h
  rw [show (decide (1 ≤ k) && decide (k ≤ 8)) = placesB k from rfl] at HP
  cases h1 : reqB zs 200 15
  · rw [h1] at HA
    go_enter Try.func27, Try.ntmps27
    go_wp2_with (go_at_call 43; refine HA.out.mono ?_; rintro e w1 ⟨rfl, hb1⟩; have HB1 := Lib.hid hb1; clear hb1)
    go_ret2
    exact ⟨.inr ⟨.inl (by simp), rfl⟩, HB1.out⟩
  · rw [h1] at HA
    obtain ⟨hn, hz⟩ := reqB_parts h1
    rw [HL.out] at hn hz
    cases h2 : placesB k
    · rw [h2] at HP
      go_enter Try.func27, Try.ntmps27
      go_wp2_with (first
        | (go_at_call 43; refine HA.out.mono ?_; rintro e w1 ⟨rfl, hb1⟩; have HB1 := Lib.hid hb1; clear hb1)
        | (go_at_call 44; refine (HP.out _).mono ?_; rintro e w2 ⟨rfl, rfl⟩))
      go_ret2
      exact ⟨.inr ⟨.inr (by simp), rfl⟩, HB1.out⟩
    · rw [h2] at HP
      have HZ := Lib.hid hz
      obtain ⟨i0, hi, hz0, hz1, hz2⟩ := info_parts Try.infoInt
      have HI : Hid (Try.prog.info? 3 = some i0 ∧ i0.zero = some (.int .i64 0) ∧ i0.size = 1 ∧ i0.bytes = 8) := ⟨hi, hz0, hz1, hz2⟩
      have hmm := @run_makeMap Try.prog
      clear hi hz0 hz1 hz2 hz h1 h2
      go_enter Try.func27, Try.ntmps27
      go_wp2_with (first
        | (go_at_call 43; refine HA.out.mono ?_; rintro e w1 ⟨rfl, hb1⟩; have HB1 := Lib.hid hb1; clear hb1)
        | (go_at_call 44; refine (HP.out _).mono ?_; rintro e w2 ⟨rfl, rfl⟩))
      have HM := Lib.hid (BM.made w1)
      have HB2 : Hid (Below w.heap.size w (w1.alloc (.map #[] 0))) := HB1.out.alloc HB1.out.size _
      have HMB : Hid (w.heap.size ≤ w1.heap.size) := HB1.out.size
      clear hmm HA HP
      generalize w1.heap.size = mb at *
      go_loopw [6, 21] (fun v r w' => ∃ i : Nat, i ≤ n ∧ r = .int .i64 (i : Int) ∧ Hid (Ow w' w.heap.size 3 v (phS k zs i)) ∧ Hid (BM w' mb (phT k zs i)) ∧ Hid (Below w.heap.size w w')) (fun _ r _ => n - (intOf r).toNat)
      case atStart => exact ⟨0, Nat.zero_le _, by go_num, Ow.nil _ _ _, HM.out, HB2.out⟩
      case round =>
        obtain ⟨i, hi, rfl, HO, HT, HB⟩ := hrel
        obtain ⟨wo, rfl⟩ : ∃ wo : World, wo = wr := ⟨_, rfl⟩
        clear HM HB2
        by_cases hlt : i < n
        · have i1 : (i : Int) < (n : Int) := by omega
          obtain ⟨b1, o1, rfl, hc1⟩ := (HSL.out wo HB.out).at_ hlt
          rw [show zs[i]?.getD 0 = atI zs i from rfl] at hc1
          have HP16 := Lib.hid (HZ.out i hlt)
          have hsl := phS_len k zs i
          have HLS : Hid ((phS k zs i).length ≤ 1099511627776) := by rw [Hid]; omega
          have HBZ : Hid (w.heap.size ≤ wo.heap.size) := HB.out.size
          have HTN : Hid (phT k zs (i + 1) = phN k i (atI zs i) (phT k zs i)) := rfl
          have HSN : Hid (phS k zs (i + 1) = if atI zs i ∉ phT k zs i ∧ (i = 0 ∨ ((phT k zs i).length : Int) = k) then phS k zs i ++ [(i : Int)] else phS k zs i) := rfl
          have HT0 : Hid (i = 0 → phT k zs i = []) := fun e => by rw [e]; rfl
          have hlk := HT.out.look 78 Try.underlying78 (x := atI zs i) (by have := HP16.out; omega)
          have hln := HT.out.len 78 3 _ Try.underlying78
          unfold phN at HTN
          generalize atI zs i = page at *
          generalize phT k zs i = T at *
          generalize phS k zs i = S at *
          by_cases hnew : page ∉ T ∧ (i = 0 ∨ (T.length : Int) = k)
          · rw [if_neg hnew.1, if_pos hnew.2] at HTN
            rw [if_pos hnew] at HSN
            rw [decide_eq_false hnew.1] at hlk
            have HAD : Hid (addT [] page = [] ++ [page]) := by unfold addT; rw [Hid, if_neg (by simp)]
            by_cases h0 : i = 0
            · have i5 : ((i : Int) == 0) = true := by simp; omega
              clear hnew h0
              go_wp2_with (first
                | (at_builtin; refine push_law _ rfl (.tmp 40) (.tmp 42) 22 rfl w.heap.size 3 i0 Try.underlying22 HI.out _ S _ rfl rfl HO.out HLS.out HBZ.out ?_; intro v3 w3 hv3 hg3 _; have HO3 := Lib.hid hv3; have HT3 := Lib.hid (HT.out.pushed HO.out hg3); have HB3 := Lib.hid (HB.out.grown hg3 HBZ.out (fun j e => (HO.out.lt e).1)); clear hv3 hg3)
                | (refine clear_law _ rfl (.tmp 44) 78 rfl _ Try.underlying78 mb T rfl HT3.out ?_; intro w4 hm4 hg4; have HO4 := Lib.hid (HO3.out.bm HT3.out hg4); have HT4 := Lib.hid hm4; have HB4 := Lib.hid (HB3.out.grown hg4 HB3.out.size (fun j e => by have := Option.some.inj e; have := HMB.out; omega)); clear hm4 hg4)
                | (refine bstore_law _ rfl (.tmp 45) (.tmp 46) (.const (.bool true)) 78 rfl Try.underlying78 mb [] rfl HT4.out HP16.out rfl rfl ?_; intro w5 hm5 hg5; have HO5 := Lib.hid (HO4.out.bm HT4.out hg5); have HT5 := Lib.hid hm5; have HB5 := Lib.hid (HB4.out.grown hg5 HB4.out.size (fun j e => by have := Option.some.inj e; have := HMB.out; omega)); clear hm5 hg5))
              exact ⟨⟨i + 1, by omega, by go_num, by rw [HSN.out]; exact HO5.out, by rw [HTN.out, ← HAD.out]; exact HT5.out, HB5.out⟩, by simp [intOf]; omega⟩
            · have i5 : ((i : Int) == 0) = false := by simp; omega
              have i6 : ((T.length : Int) == k) = true := by simp; exact hnew.2.resolve_left h0
              clear hnew h0
              go_wp2_with (first
                | (at_builtin; refine push_law _ rfl (.tmp 40) (.tmp 42) 22 rfl w.heap.size 3 i0 Try.underlying22 HI.out _ S _ rfl rfl HO.out HLS.out HBZ.out ?_; intro v3 w3 hv3 hg3 _; have HO3 := Lib.hid hv3; have HT3 := Lib.hid (HT.out.pushed HO.out hg3); have HB3 := Lib.hid (HB.out.grown hg3 HBZ.out (fun j e => (HO.out.lt e).1)); clear hv3 hg3)
                | (refine clear_law _ rfl (.tmp 44) 78 rfl _ Try.underlying78 mb T rfl HT3.out ?_; intro w4 hm4 hg4; have HO4 := Lib.hid (HO3.out.bm HT3.out hg4); have HT4 := Lib.hid hm4; have HB4 := Lib.hid (HB3.out.grown hg4 HB3.out.size (fun j e => by have := Option.some.inj e; have := HMB.out; omega)); clear hm4 hg4)
                | (refine bstore_law _ rfl (.tmp 45) (.tmp 46) (.const (.bool true)) 78 rfl Try.underlying78 mb [] rfl HT4.out HP16.out rfl rfl ?_; intro w5 hm5 hg5; have HO5 := Lib.hid (HO4.out.bm HT4.out hg5); have HT5 := Lib.hid hm5; have HB5 := Lib.hid (HB4.out.grown hg5 HB4.out.size (fun j e => by have := Option.some.inj e; have := HMB.out; omega)); clear hm5 hg5))
              exact ⟨⟨i + 1, by omega, by go_num, by rw [HSN.out]; exact HO5.out, by rw [HTN.out, ← HAD.out]; exact HT5.out, HB5.out⟩, by simp [intOf]; omega⟩
          · rw [if_neg hnew] at HSN
            by_cases hin : page ∈ T
            · rw [if_pos hin] at HTN
              have h0 : i ≠ 0 := fun e => by rw [HT0.out e] at hin; cases hin
              have i5 : ((i : Int) == 0) = false := by simp; omega
              rw [decide_eq_true hin] at hlk
              have HAD : Hid (addT T page = T) := if_pos hin
              have HTN : Hid (phT k zs (i + 1) = addT T page) := HTN.out.trans HAD.out.symm
              clear hnew hin h0 HAD
              cases i6 : ((T.length : Int) == k)
              all_goals
                go_wp2_with (refine bstore_law _ rfl (.tmp 45) (.tmp 46) (.const (.bool true)) 78 rfl Try.underlying78 mb T rfl HT.out HP16.out rfl rfl ?_; intro w5 hm5 hg5; have HO5 := Lib.hid (HO.out.bm HT.out hg5); have HT5 := Lib.hid hm5; have HB5 := Lib.hid (HB.out.grown hg5 HBZ.out (fun j e => by have := Option.some.inj e; have := HMB.out; omega)); clear hm5 hg5)
                exact ⟨⟨i + 1, by omega, by go_num, by rw [HSN.out]; exact HO5.out, by rw [HTN.out]; exact HT5.out, HB5.out⟩, by simp [intOf]; omega⟩
            · rw [if_neg hin] at HTN
              have h0 : i ≠ 0 := fun e => hnew ⟨hin, .inl e⟩
              have hk : ¬ (T.length : Int) = k := fun e => hnew ⟨hin, .inr e⟩
              have i5 : ((i : Int) == 0) = false := by simp; omega
              have i6 : ((T.length : Int) == k) = false := by simp; exact hk
              rw [if_neg (fun e => e.elim h0 hk)] at HTN
              have HAD : Hid (addT T page = T ++ [page]) := if_neg hin
              have HTN : Hid (phT k zs (i + 1) = addT T page) := HTN.out.trans HAD.out.symm
              rw [decide_eq_false hin] at hlk
              clear hnew hin h0 hk HAD
              go_wp2_with (refine bstore_law _ rfl (.tmp 45) (.tmp 46) (.const (.bool true)) 78 rfl Try.underlying78 mb T rfl HT.out HP16.out rfl rfl ?_; intro w5 hm5 hg5; have HO5 := Lib.hid (HO.out.bm HT.out hg5); have HT5 := Lib.hid hm5; have HB5 := Lib.hid (HB.out.grown hg5 HBZ.out (fun j e => by have := Option.some.inj e; have := HMB.out; omega)); clear hm5 hg5)
              exact ⟨⟨i + 1, by omega, by go_num, by rw [HSN.out]; exact HO5.out, by rw [HTN.out]; exact HT5.out, HB5.out⟩, by simp [intOf]; omega⟩
        · have hin : i = n := by omega
          subst hin
          have i1 : ¬ (i : Int) < (i : Int) := by omega
          go_wp2
          go_ret2
          exact ⟨⟨_, rfl, HO.out⟩, HB.out⟩
end Go.Proofs.Ytcnjkdkkflpgnaa
