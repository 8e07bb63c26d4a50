import Derived.Test.YtkemcmeagnggeaaT04
import Derived.Test.YtkemcmeagnggeaaT07
import Derived.Test.YtkemcmeagnggeaaT08
import Derived.Test.YtkemcmeagnggeaaT01
import Derived.Deep.LoopGhost
import Derived.Deep.Cut
import Derived.Deep.WholeRow
import Derived.Laws.Concat
import Derived.Deep.RegionLaw
import Derived.Maps.AppendAt
/- Layer 3: two pairs of places are compared. -/
namespace Go.Proofs.Ytkemcmeagnggeaa
open Go.RowKit
set_option linter.unusedVariables false
set_option maxRecDepth 100000 in
theorem run_equalIn_pt (W : World) (p q r s : Int) : (Op.equalIn 10000 80 (.agg #[.int .i64 p, .int .i64 q]) (.agg #[.int .i64 r, .int .i64 s])).run Try.prog W = .ok (p == r && q == s) W := by
  by_cases h : p = r
  · subst h
    by_cases h2 : q = s
    · subst h2
      simp [go_sem]
    · have h3 : (q == s) = false := by simpa using h2
      simp [go_sem, h3]
  · have h3 : (p == r) = false := by simpa using h
    simp [go_sem, h3]
end Go.Proofs.Ytkemcmeagnggeaa
/- Layer 3: the program's iterator over the words that reach new pairs of places. -/
namespace Go.Proofs.Ytkemcmeagnggeaa
open Go.RowKit Go.Shelf Go.Maps
set_option linter.unusedVariables false

/-- A step in two words side by side. -/
def step2 (g : Nat → Int) (s : Nat × Nat) (c : Nat) : Nat × Nat := ((g (s.1 * 4 + c)).toNat, (g (248 + s.2 * 4 + c)).toNat)
/-- What the steps are like. -/
structure Steps2 (g : Nat → Int) : Prop where
  fst : ∀ i, i < 248 → ∃ m : Nat, g i = (m : Int) ∧ 1 ≤ m ∧ m < 62
  snd : ∀ i, i < 248 → ∃ m : Nat, g (248 + i) = (m : Int) ∧ m < 62
theorem Steps2.at_ {g : Nat → Int} (h : Steps2 g) {p q c : Nat} (hp : p < 62) (hq : q < 62) (hc : c < 4) : ∃ x y : Nat, g (p * 4 + c) = (x : Int) ∧ g (248 + q * 4 + c) = (y : Int) ∧ 1 ≤ x ∧ x < 62 ∧ y < 62 ∧ step2 g (p, q) c = (x, y) := by
  obtain ⟨x, h1, h2, h3⟩ := h.fst (p * 4 + c) (by omega)
  obtain ⟨y, h4, h5⟩ := h.snd (q * 4 + c) (by omega)
  rw [← Nat.add_assoc] at h4
  refine ⟨x, y, h1, h4, h2, h3, h5, ?_⟩
  unfold step2
  rw [h1, h4, Int.toNat_natCast, Int.toNat_natCast]
def toW (x : Vis) : List Int × (Nat × Nat) := (bs x.1, x.2)
/-- The states that have been seen. -/
def seenF (S : List (Nat × Nat)) : Nat × Nat → Option Lit := fun x => if x ∈ S then some (.bool true) else none
theorem seenF_put (S : List (Nat × Nat)) (s : Nat × Nat) : putK (seenF S) s (.bool true) = seenF (S ++ [s]) := by
  funext x
  unfold putK seenF
  by_cases e : x = s
  · subst e; simp
  · rw [if_neg e]
    by_cases h : x ∈ S
    · rw [if_pos h, if_pos (by simp [h])]
    · rw [if_neg h, if_neg (by simp [h, e])]
theorem nodup_lt : ∀ (n : Nat) (l : List Nat), l.Nodup → (∀ x ∈ l, x < n) → l.length ≤ n
  | 0, l, _, h => by
    cases l with
    | nil => exact Nat.le_refl _
    | cons x l => have := h x (by simp); omega
  | n + 1, l, hd, h => by
    have h1 := nodup_lt n (l.erase n) (hd.erase n) (fun x hx => by
      have h2 := h x (List.mem_of_mem_erase hx)
      have h3 : x ≠ n := fun e => by subst e; exact (List.Nodup.not_mem_erase hd) hx
      omega)
    have h4 := List.length_erase (a := n) (l := l)
    split at h4 <;> omega
theorem pairs_lt {l : List (Nat × Nat)} (hd : l.Nodup) (h : ∀ x ∈ l, x.1 < 62 ∧ x.2 < 62) : l.length ≤ 3844 := by
  have h1 := nodup_lt 3844 (l.map fun x => x.1 * 62 + x.2) (List.Pairwise.map _ (fun a b hab => hab) (by
    refine List.Pairwise.imp_of_mem (fun {a b} ha hb hab e => ?_) hd
    have h2 := h a ha
    have h3 := h b hb
    exact hab (Prod.ext (by omega) (by omega)))) (fun x hx => by
    obtain ⟨y, hy, rfl⟩ := List.mem_map.1 hx
    have := h y hy
    omega)
  simpa using h1
theorem QO.drewAlloc {w : World} {B : Nat} {v : Value} {l : List Vis} (h : QO w B v l) (o : Obj) : QO (w.alloc o).drew B v l := h.kept fun k hk => by
  show (w.heap.push o)[k]? = _
  rw [Array.getElem?_push, if_neg (by have := (h.lt hk).2; omega)]
theorem grown_da {w w' : World} {o : Obj} {r : Option Nat} (h : World.grownBy (w.alloc o).drew w' r) : World.grownBy w.drew w' r :=
  ⟨h.os, h.tape, h.output, Nat.le_trans (by simp) h.size, fun k hk hne => (h.block k (by have : k < w.heap.size := hk; simp; omega) hne).trans (by
    show (w.heap.push o)[k]? = w.heap[k]?
    rw [Array.getElem?_push, if_neg (by have : k < w.heap.size := hk; omega)])⟩
/-- string(c) of a letter. -/
theorem conv_letter (W : World) {c : Nat} (hc : c < 4) : (convert 5 9 (.int .u8 (97 + (c : Int)))).run Try.prog W = .ok (.string (chr (97 + c))) W := by
  rcases (by omega : c = 0 ∨ c = 1 ∨ c = 2 ∨ c = 3) with rfl | rfl | rfl | rfl <;> kernel_rfl
/-- What holds between two visits. -/
structure ItI (k : Nat) (g : Nat → Int) (dead : Nat × Nat → Prop) (W : World) (bk bt bT t bm : Nat) (J : List Vis → World → Prop) (pre rest : List Vis) (qv : Value) (wr : World) : Prop where
  bf : BF k (step2 g) (0, 0) dead (pre.map toW) (rest.map toW)
  nd : ((pre ++ rest).map (·.2)).Nodup
  rng : ∀ x ∈ pre ++ rest, x.2.1 < 62 ∧ x.2.2 < 62 ∧ x.1.size ≤ (pre ++ rest).length
  q : QO wr W.heap.size qv rest
  m : KM encPair wr 4 bm (pre ++ rest).length (seenF ((pre ++ rest).map (·.2)).tail)
  mlow : W.heap.size ≤ bm
  j : J pre wr
  cbk : wr.cell? ⟨bk, 0, none⟩ = some (.int .i64 (k : Int))
  cbt : wr.cell? ⟨bt, 0, none⟩ = some (.pointer (some ⟨bT, 0, none⟩))
  row : Rw wr bT t 496 g
  size : W.heap.size ≤ wr.heap.size

/-- What holds within a visit, the letters below c having been tried. -/
structure InI (k : Nat) (g : Nat → Int) (dead : Nat × Nat → Prop) (W : World) (bk bt bT t bm bv : Nat) (J : List Vis → World → Prop) (pre : List Vis) (v : Vis) (c : Nat) (rest : List Vis) (qv : Value) (wr : World) : Prop where
  bp : BP k (step2 g) (0, 0) dead (pre.map toW) (toW v) c (rest.map toW)
  nd : ((pre ++ v :: rest).map (·.2)).Nodup
  rng : ∀ x ∈ pre ++ v :: rest, x.2.1 < 62 ∧ x.2.2 < 62 ∧ x.1.size ≤ (pre ++ v :: rest).length
  q : QO wr W.heap.size qv rest
  qn : qv.ownBlock ≠ some bv
  m : KM encPair wr 4 bm (pre ++ v :: rest).length (seenF ((pre ++ v :: rest).map (·.2)).tail)
  mlow : W.heap.size ≤ bm
  vrow : wr.heap[bv]? = some (.cells #[.string v.1, .int .i64 (v.2.1 : Int), .int .i64 (v.2.2 : Int)] 118 (0, 0))
  vlow : W.heap.size ≤ bv
  j : J (pre ++ [v]) wr
  cbk : wr.cell? ⟨bk, 0, none⟩ = some (.int .i64 (k : Int))
  cbt : wr.cell? ⟨bt, 0, none⟩ = some (.pointer (some ⟨bT, 0, none⟩))
  row : Rw wr bT t 496 g
  size : W.heap.size ≤ wr.heap.size
theorem InI.carry {k : Nat} {g : Nat → Int} {dead : Nat × Nat → Prop} {W : World} {bk bt bT t bm bv : Nat} {J : List Vis → World → Prop} {pre : List Vis} {v : Vis} {c : Nat} {rest : List Vis} {qv : Value} {wr w' : World}
    (h : InI k g dead W bk bt bT t bm bv J pre v c rest qv wr) (hJ : Sure W.heap.size J) (hb : Below wr.heap.size wr w') (hbk : bk < W.heap.size) (hbt : bt < W.heap.size) : InI k g dead W bk bt bT t bm bv J pre v c rest qv w' :=
  ⟨h.bp, h.nd, h.rng, h.q.kept (fun k hk => hb.block k (h.q.lt hk).2), h.qn, h.m.below hb h.m.lt, h.mlow, (hb.block bv (Array.getElem?_eq_some_iff.1 h.vrow).1).trans h.vrow, h.vlow, hJ _ _ _ h.j (hb.mono h.size),
    (World.cell?_of_block (a := ⟨bk, 0, none⟩) (hb.block _ (Nat.lt_of_lt_of_le hbk h.size))).trans h.cbk, (World.cell?_of_block (a := ⟨bt, 0, none⟩) (hb.block _ (Nat.lt_of_lt_of_le hbt h.size))).trans h.cbt, h.row.below hb h.row.lt, Nat.le_trans h.size hb.size⟩
theorem InI.start {k : Nat} {g : Nat → Int} {dead : Nat × Nat → Prop} {W : World} {bk bt bT t bm : Nat} {J : List Vis → World → Prop} {pre : List Vis} {x : Vis} {rest : List Vis} {qv q2 : Value} {wo W1 W2 : World}
    (h : ItI k g dead W bk bt bT t bm J pre (x :: rest) qv wo) (hq : QO wo W.heap.size q2 rest) (h1 : Below wo.heap.size wo W1) (hv : W1.heap[wo.heap.size]? = some (.cells #[.string x.1, .int .i64 (x.2.1 : Int), .int .i64 (x.2.2 : Int)] 118 (0, 0)))
    (h2 : KeepUp (fun b => b = bk ∨ b = bt ∨ b = bT) W.heap.size W1 W2) (hj : J (pre ++ [x]) W2) (hbk : bk < W.heap.size) (hbt : bt < W.heap.size) : InI k g dead W bk bt bT t bm wo.heap.size J pre x 0 rest q2 W2 := by
  have hsz := h.size
  have hz1 := h1.size
  have hup : ∀ i, i < wo.heap.size → (i = bk ∨ i = bt ∨ i = bT ∨ W.heap.size ≤ i) → W2.heap[i]? = wo.heap[i]? := fun i hi hor => by
    refine (h2.same i (by omega) ?_).trans (h1.block i hi)
    rcases hor with e | e | e | e
    · exact .inl (.inl e)
    · exact .inl (.inr (.inl e))
    · exact .inl (.inr (.inr e))
    · exact .inr e
  refine ⟨h.bf.take, h.nd, h.rng, hq.kept (fun i hi => hup i (hq.lt hi).2 (.inr (.inr (.inr (hq.lt hi).1)))), fun e => by have := (hq.lt e).2; omega, h.m.heap (hup bm h.m.lt (.inr (.inr (.inr h.mlow)))), h.mlow, (h2.same _ (Array.getElem?_eq_some_iff.1 hv).1 (.inr hsz)).trans hv, hsz, hj, ?_, ?_, ?_, by have := h2.size; omega⟩
  · exact (World.cell?_of_block (a := ⟨bk, 0, none⟩) (hup bk (by omega) (.inl rfl))).trans h.cbk
  · exact (World.cell?_of_block (a := ⟨bt, 0, none⟩) (hup bt (by omega) (.inr (.inl rfl)))).trans h.cbt
  · exact h.row.of_block (hup bT h.row.lt (.inr (.inr (.inl rfl))))
theorem InI.skip {k : Nat} {g : Nat → Int} {dead : Nat × Nat → Prop} {W : World} {bk bt bT t bm bv : Nat} {J : List Vis → World → Prop} {pre : List Vis} {v : Vis} {c : Nat} {rest : List Vis} {qv : Value} {wr : World}
    (h : InI k g dead W bk bt bT t bm bv J pre v c rest qv wr) {s : Nat × Nat} (hs : step2 g v.2 c = s) (hd : dead s ∨ s ∈ ((pre ++ v :: rest).map (·.2)).tail) : InI k g dead W bk bt bT t bm bv J pre v (c + 1) rest qv wr := by
  refine ⟨h.bp.skip ?_, h.nd, h.rng, h.q, h.qn, h.m, h.mlow, h.vrow, h.vlow, h.j, h.cbk, h.cbt, h.row, h.size⟩
  show dead (step2 g v.2 c) ∨ _
  rw [hs]
  refine hd.imp id fun hm => ?_
  obtain ⟨y, hy, rfl⟩ := List.mem_map.1 (List.mem_of_mem_tail hm)
  refine ⟨toW y, ?_, ?_⟩
  · rw [List.mem_append, List.mem_cons] at hy ⊢
    rcases hy with hy | rfl | hy
    · exact .inl (List.mem_map_of_mem hy)
    · exact .inr (.inl rfl)
    · exact .inr (.inr (List.mem_map_of_mem hy))
  · show y.2 = step2 g v.2 c
    rw [hs]
theorem InI.push {k : Nat} {g : Nat → Int} {dead : Nat × Nat → Prop} {W : World} {bk bt bT t bm bv : Nat} {J : List Vis → World → Prop} {pre : List Vis} {v : Vis} {c : Nat} {rest : List Vis} {qv v9 : Value} {wr w7 w8 w9 : World}
    (h : InI k g dead W bk bt bT t bm bv J pre v c rest qv wr) (hJ : Sure W.heap.size J) (hbk : bk < W.heap.size) (hbt : bt < W.heap.size) (hbT : bT < W.heap.size) (hc : c < k) {s : Nat × Nat} (hs : step2 g v.2 c = s) (hS : s ∉ ((pre ++ v :: rest).map (·.2)).tail) (h1 : 1 ≤ s.1) (h2 : s.1 < 62) (h3 : s.2 < 62)
    (zw : ByteArray) (hz : bs zw = bs v.1 ++ [97 + (c : Int)])
    (hm7 : KM encPair w7 4 bm ((pre ++ v :: rest).length + 1) (putK (seenF ((pre ++ v :: rest).map (·.2)).tail) s (.bool true))) (hg7 : World.grownBy wr w7 (some bm)) (hd : Dr w7 w8)
    (hq9 : QO w9 W.heap.size v9 (rest ++ [(zw, s)])) (hg9 : World.grownBy w8 w9 qv.ownBlock) (hat : v9.ownBlock = qv.ownBlock ∨ ∃ g, v9.ownBlock = some g ∧ w8.heap.size ≤ g) : InI k g dead W bk bt bT t bm bv J pre v (c + 1) (rest ++ [(zw, s)]) v9 w9 := by
  have e : pre ++ v :: (rest ++ [(zw, s)]) = (pre ++ v :: rest) ++ [(zw, s)] := by simp
  have ht : (((pre ++ v :: rest) ++ [(zw, s)]).map (·.2)).tail = ((pre ++ v :: rest).map (·.2)).tail ++ [s] := by
    rw [List.map_append]
    cases pre <;> simp
  have h0 : ∀ x ∈ (pre ++ v :: rest).map (·.2), x = (0, 0) ∨ x ∈ ((pre ++ v :: rest).map (·.2)).tail := by
    have hr : ∃ r, (pre ++ v :: rest).map (·.2) = (0, 0) :: r := by
      obtain ⟨r, hr1, hr2⟩ := h.bp.root
      have hr3 := (h.bp.ok r hr1).1
      rw [hr2] at hr3
      -- the first of a sorted list is the least
      have hso := h.bp.sorted
      have hT : List.map toW pre ++ toW v :: List.map toW rest = (pre ++ v :: rest).map toW := by simp
      rw [hT] at hso hr1
      cases hl : pre ++ v :: rest with
      | nil => simp at hl
      | cons y ys =>
        rw [hl, List.map_cons] at hso hr1
        rw [List.map_cons]
        rw [List.mem_cons] at hr1
        rcases hr1 with e1 | e1
        · refine ⟨ys.map (·.2), ?_⟩
          have : y.2 = r.2 := by rw [e1]; rfl
          rw [this, ← hr3]; rfl
        · have h5 := (List.pairwise_cons.1 hso).1 r e1
          rw [hr2] at h5
          have h6 : lessL (toW y).1 [] = false := by
            unfold lessL
            split
            · rename_i e2
              rw [List.eq_nil_of_length_eq_zero e2]; rfl
            · simp
          rw [h6] at h5; cases h5
    obtain ⟨r, hr⟩ := hr
    rw [hr]
    intro x hx
    rw [List.mem_cons] at hx
    exact hx
  have hnew : s ∉ (pre ++ v :: rest).map (·.2) := fun hx => by
    rcases h0 s hx with e1 | e1
    · rw [e1] at h1; exact absurd h1 (by decide)
    · exact hS e1
  have hzs : zw.size = v.1.size + 1 := by
    have := congrArg List.length hz
    rw [bs_len, List.length_append, bs_len] at this
    exact this
  have hmc : ∀ o, wr.heap[bm]? = some o → ∀ cs t f, o ≠ .cells cs t f := fun o ho cs t f e1 => by
    obtain ⟨D, ⟨es, clock, hb, _⟩, _⟩ := h.m
    rw [hb] at ho
    injection ho with ho
    subst ho
    cases e1
  have hbv : bv ≠ bm := fun e1 => by subst e1; exact hmc _ h.vrow _ _ _ rfl
  have hqm : qv.ownBlock ≠ some bm := fun e1 => by
    obtain ⟨b, off, cap, cur, hq⟩ := h.q
    rw [hq.val] at e1
    injection e1 with e1
    subst e1
    exact hmc _ hq.row _ _ _ rfl
  have hz8 := hd.size
  have hz7 := hg7.size
  have hz9 := hg9.size
  have hlow : ∀ i, i < W.heap.size → some i ≠ qv.ownBlock := fun i hi e1 => by have := (h.q.lt e1.symm).1; omega
  have hmv : ∀ i, i < wr.heap.size → i ≠ bm → some i ≠ qv.ownBlock → w9.heap[i]? = wr.heap[i]? := fun i hi h4 h5 => by
    refine (hg9.block i (by omega) h5).trans ?_
    obtain ⟨m, rfl⟩ := hd
    exact hg7.block i hi (fun e1 => h4 (by injection e1))
  have hmlow := h.mlow
  have hsz := h.size
  have hbl : Below W.heap.size wr w9 := by
    obtain ⟨m, rfl⟩ := hd
    exact ⟨hg9.os.trans hg7.os, hg9.tape.trans hg7.tape, hg9.output.trans hg7.output, by omega, fun i hi => hmv i (by omega) (by omega) (hlow i hi)⟩
  refine ⟨?_, ?_, fun x hx => ?_, hq9, fun e1 => ?_, ?_, h.mlow, (hmv bv (Array.getElem?_eq_some_iff.1 h.vrow).1 hbv (fun e1 => h.qn e1.symm)).trans h.vrow, h.vlow, hJ _ _ _ h.j hbl, ?_, ?_, h.row.of_block (hbl.block bT hbT), by omega⟩
  · rw [List.map_append]
    have := h.bp.push hc
    rw [show (toW v).2 = v.2 from rfl, hs] at this
    rw [show (List.map toW [(zw, s)]) = [((toW v).1 ++ [97 + (c : Int)], s)] from by rw [List.map_singleton]; unfold toW; rw [hz]]
    exact this
  · rw [e, List.map_append, List.nodup_append]
    exact ⟨h.nd, by simp, fun a ha b hb => by simp at hb; subst hb; intro e1; subst e1; exact hnew ha⟩
  · rw [e, List.mem_append, List.mem_singleton] at hx
    rw [e, List.length_append, List.length_singleton]
    rcases hx with hx | rfl
    · have := h.rng x hx; omega
    · have := (h.rng v (by simp)).2.2
      exact ⟨h2, h3, by show zw.size ≤ _; omega⟩
  · rcases hat with e2 | ⟨g2, e2, hg2⟩
    · rw [e2] at e1; exact h.qn e1
    · rw [e2] at e1
      injection e1 with e1
      have := (Array.getElem?_eq_some_iff.1 h.vrow).1
      omega
  · rw [e, ht, ← seenF_put, List.length_append, List.length_singleton]
    refine hm7.heap ?_
    have hb7 : bm < w7.heap.size := hm7.lt
    refine (hg9.block bm (by omega) (fun e1 => hqm e1.symm)).trans ?_
    obtain ⟨m, rfl⟩ := hd
    rfl
  · exact (World.cell?_of_block (a := ⟨bk, 0, none⟩) (hbl.block _ hbk)).trans h.cbk
  · exact (World.cell?_of_block (a := ⟨bt, 0, none⟩) (hbl.block _ hbt)).trans h.cbt
theorem InI.done {k : Nat} {g : Nat → Int} {dead : Nat × Nat → Prop} {W : World} {bk bt bT t bm bv : Nat} {J : List Vis → World → Prop} {pre : List Vis} {v : Vis} {rest : List Vis} {qv : Value} {wr : World}
    (h : InI k g dead W bk bt bT t bm bv J pre v k rest qv wr) : ItI k g dead W bk bt bT t bm J (pre ++ [v]) rest qv wr := by
  have e : pre ++ [v] ++ rest = pre ++ v :: rest := by simp
  refine ⟨?_, by rw [e]; exact h.nd, by rw [e]; exact h.rng, h.q, by rw [e]; exact h.m, h.mlow, h.j, h.cbk, h.cbt, h.row, h.size⟩
  rw [List.map_append]
  exact h.bp.done

set_option maxRecDepth 100000 in
set_option maxHeartbeats 1600000 in
theorem iter_ok (n k bk bt bT t : Nat) (g : Nat → Int) (dead : Nat × Nat → Prop) (w : World) (hk1 : 1 ≤ k) (hk4 : k ≤ 4) (hg : Steps2 g) (hdd : ∀ s c, s.1 < 62 → s.2 < 62 → c < k → step2 g s c = (61, 61) → dead (61, 61))
    (hbk : w.cell? ⟨bk, 0, none⟩ = some (.int .i64 (k : Int))) (hbt : w.cell? ⟨bt, 0, none⟩ = some (.pointer (some ⟨bT, 0, none⟩))) (hr : Rw w bT t 496 g) (hbkl : bk < w.heap.size) (hbtl : bt < w.heap.size) :
    IterOk (α := Vis) n Try.prog 79 #[.pointer (some ⟨bk, 0, none⟩), .pointer (some ⟨bt, 0, none⟩)] (fun x => #[.string x.1, .agg #[.int .i64 (x.2.1 : Int), .int .i64 (x.2.2 : Int)]])
      (fun b => b = bk ∨ b = bt ∨ b = bT) (fun xs => BF k (step2 g) (0, 0) dead (xs.map toW) []) (fun pre => ∃ D v Q, pre = D ++ [v] ∧ BF k (step2 g) (0, 0) dead (D.map toW) (toW v :: Q)) w := by
  intro l J Jx W hsz hold hJ hJx hY h0
  obtain ⟨i0, hi0, hz0, hz1, hz2⟩ := info_parts Try.infoVisit
  have HI0 := Lib.hid (And.intro hi0 (And.intro hz0 (And.intro hz1 hz2)))
  clear hi0 hz0 hz1 hz2
  obtain ⟨R, hR⟩ : ∃ R : Ending → World → Prop, R = fun e W' => (∃ v, e = .returned v) ∧ ((∃ xs, (fun xs : List Vis => BF k (step2 g) (0, 0) dead (xs.map toW) []) xs ∧ J xs W') ∨ (∃ pre, (fun pre => ∃ D v Q, pre = D ++ [v] ∧ BF k (step2 g) (0, 0) dead (D.map toW) (toW v :: Q)) pre ∧ Jx pre W')) := ⟨_, rfl⟩
  rw [← hR]
  have HRR := Lib.hid hR
  clear hR
  have hrl := hr.lt
  have HK : Hid (W.cell? ⟨bk, 0, none⟩ = some (.int .i64 (k : Int))) := (World.cell?_of_block (a := ⟨bk, 0, none⟩) (hold bk hbkl)).trans hbk
  have HT : Hid (W.cell? ⟨bt, 0, none⟩ = some (.pointer (some ⟨bT, 0, none⟩))) := (World.cell?_of_block (a := ⟨bt, 0, none⟩) (hold bt hbtl)).trans hbt
  have HR : Hid (Rw W bT t 496 g) := hr.of_block (hold bT hrl)
  have HLT : Hid (bk < W.heap.size ∧ bt < W.heap.size ∧ bT < W.heap.size) := ⟨by omega, by omega, by omega⟩
  have HY := Lib.hid hY
  have HJ := Lib.hid hJ
  have HJX := Lib.hid hJx
  have HG := Lib.hid hg
  have HDD := Lib.hid hdd
  have H0 := Lib.hid h0
  clear hbk hbt hr hbkl hbtl hrl hsz hold hY hJ hJx hg hdd h0 w
  have hmm := @run_makeMap Try.prog
  show Calls Try.prog 79 #[.func (.yield l) #[] #[], .pointer (some ⟨bk, 0, none⟩), .pointer (some ⟨bt, 0, none⟩)] W _
  go_enter Try.func79, Try.ntmps79
  go_wp2
  clear hmm
  have hst : ItI k g dead W bk bt bT t (W.heap.size + 1) J [] [((⟨#[]⟩ : ByteArray), (0, 0))] (.slice (some ⟨W.heap.size, 0, none⟩) 1 1) ((W.alloc (.cells #[.string ⟨#[]⟩, .int .i64 0, .int .i64 0] 118)).alloc (.map #[] 0)) := by
    have hb : Below W.heap.size W ((W.alloc (.cells #[.string ⟨#[]⟩, .int .i64 0, .int .i64 0] 118)).alloc (.map #[] 0)) := ((Below.refl _ W).alloc (Nat.le_refl _) _).alloc (by simp) _
    have hm := KM.made encPair (W.alloc (.cells #[.string ⟨#[]⟩, .int .i64 0, .int .i64 0] 118)) 4
    rw [show (W.alloc (.cells #[.string ⟨#[]⟩, .int .i64 0, .int .i64 0] 118)).heap.size = W.heap.size + 1 from by simp] at hm
    refine ⟨BF.init, by simp, fun y hy => by
      rw [List.nil_append, List.mem_singleton] at hy
      subst hy
      exact ⟨Nat.zero_lt_succ _, Nat.zero_lt_succ _, Nat.zero_le _⟩, ⟨W.heap.size, 0, 1, #[.string ⟨#[]⟩, .int .i64 0, .int .i64 0], rfl, Nat.le_refl _, ?_, by simp, by simp, fun j u hu => ?_⟩, hm.mono (by simp), Nat.le_succ _, HJ.out _ _ _ H0.out hb, ?_, ?_, HR.out.below hb HLT.out.2.2, hb.size⟩
    · show ((W.heap.push _).push _)[W.heap.size]? = _
      rw [Array.getElem?_push, if_neg (by simp), Array.getElem?_push, if_pos rfl]
    · rw [Nat.zero_add, ← hu, List.getElem?_toArray]; rfl
    · exact (World.cell?_of_block (a := ⟨bk, 0, none⟩) (hb.block _ HLT.out.1)).trans HK.out
    · exact (World.cell?_of_block (a := ⟨bt, 0, none⟩) (hb.block _ HLT.out.2.1)).trans HT.out
  generalize (W.alloc (.cells #[.string ⟨#[]⟩, .int .i64 0, .int .i64 0] 118)).alloc (.map #[] 0) = W0 at hst ⊢
  generalize W.heap.size + 1 = bm at hst ⊢
  have HST := Lib.hid hst; clear hst
  go_loopg [4] 4000 (fun gk qv wr => ∃ pre rest, gk = 4000 - pre.length ∧ Hid (ItI k g dead W bk bt bT t bm J pre rest qv wr))
  case atStart => exact ⟨[], _, rfl, HST⟩
  case round =>
    obtain ⟨pre, rest, hgk, HI⟩ := hrel
    have HGK := Lib.hid hgk; clear hgk
    clear HST
    cases rest with
    | nil =>
      obtain ⟨b, off, cap, cur, hq⟩ := HI.out.q
      have hqv := hq.val
      rw [List.length_nil] at hqv
      clear hq
      subst hqv
      go_wp2
      refine bodyPost_ret (results_none rfl _ _ _) rfl ?_
      rw [HRR.out]
      exact ⟨⟨_, rfl⟩, .inl ⟨pre, HI.out.bf, HI.out.j⟩⟩
    | cons x rest =>
      obtain ⟨b, off, cap, rfl, hcap, hbB, hbl, c0, c1, c2, hrest⟩ := HI.out.q.cells
      obtain ⟨o2, ho2⟩ : ∃ o2, o2 = if cap = 1 then off else off + 3 := ⟨_, rfl⟩
      rw [← ho2] at hrest
      have HO2 := Lib.hid ho2; clear ho2
      have HREST := Lib.hid hrest; clear hrest
      obtain ⟨m, hm⟩ : ∃ m, m = rest.length := ⟨_, rfl⟩
      rw [← hm] at hcap
      have HM := Lib.hid hm
      have hlen : (pre ++ x :: rest).length ≤ 3844 := by
        have := pairs_lt HI.out.nd (fun y hy => by
          obtain ⟨z, hz, rfl⟩ := List.mem_map.1 hy
          exact ⟨(HI.out.rng z hz).1, (HI.out.rng z hz).2.1⟩)
        simpa using this
      have hm2 : m ≤ 4000 := by rw [hm]; simp at hlen; omega
      rw [← hm]
      clear hm
      obtain ⟨wo, rfl⟩ : ∃ wo : World, wo = wr := ⟨_, rfl⟩
      go_upto_region 5 with (fail)
      clear c0 c1 c2
      rw [show (if cap = 1 then some (⟨b, off, none⟩ : Addr) else some ⟨b, off + 3, none⟩) = some ⟨b, o2, none⟩ from by rw [HO2.out]; split <;> rfl]
      have HB1 : Hid (Below wo.heap.size wo (wo.alloc (.cells #[.string x.1, .int .i64 (x.2.1 : Int), .int .i64 (x.2.2 : Int)] 118))) := (Below.refl _ _).alloc (Nat.le_refl _) _
      have hv1 : (wo.alloc (.cells #[.string x.1, .int .i64 (x.2.1 : Int), .int .i64 (x.2.2 : Int)] 118)).heap[wo.heap.size]? = some (.cells #[.string x.1, .int .i64 (x.2.1 : Int), .int .i64 (x.2.2 : Int)] 118 (0, 0)) := heap_alloc_last _ _
      generalize wo.alloc (.cells #[.string x.1, .int .i64 (x.2.1 : Int), .int .i64 (x.2.2 : Int)] 118) = W1 at HB1 hv1 ⊢
      have v0 : W1.cell? ⟨wo.heap.size, 0, none⟩ = some (.string x.1) := by rw [cell_of_row _ _ _ _ _ _ hv1]; rfl
      have v1 : W1.cell? ⟨wo.heap.size, 1, none⟩ = some (.int .i64 (x.2.1 : Int)) := by rw [cell_of_row _ _ _ _ _ _ hv1]; rfl
      have v2 : W1.cell? ⟨wo.heap.size, 2, none⟩ = some (.int .i64 (x.2.2 : Int)) := by rw [cell_of_row _ _ _ _ _ _ hv1]; rfl
      have HV1 := Lib.hid hv1
      clear hv1
      have hbw := HI.out.size
      obtain ⟨fn, tmps, assign, body, hy, hR5⟩ := HY.out pre x W1 (HJ.out _ _ _ HI.out.j (HB1.out.mono hbw))
      refine (wpIn_wide (n := n + 1)).1 ?_
      gi_wp2
      refine hR5.mono ?_
      rintro e W2 (⟨rfl, hJ2, hk2⟩ | ⟨rfl, hx2⟩)
      · have HJ2 := Lib.hid hJ2; clear hJ2
        have HK2 := Lib.hid hk2; clear hk2
        clear v0 v1 v2 hy hR5
        have hkc : W2.cell? ⟨bk, 0, none⟩ = some (.int .i64 (k : Int)) := (World.cell?_of_block (a := ⟨bk, 0, none⟩) (HK2.out.same bk (Nat.lt_of_lt_of_le HLT.out.1 (Nat.le_trans hbw HB1.out.size)) (.inl (.inl rfl)))).trans ((World.cell?_of_block (a := ⟨bk, 0, none⟩) (HB1.out.block bk (Nat.lt_of_lt_of_le HLT.out.1 hbw))).trans HI.out.cbk)
        gi_wp2
        go_wp2
        clear hkc
        have HIN : Hid (InI k g dead W bk bt bT t bm wo.heap.size J pre x 0 rest (.slice (some ⟨b, o2, none⟩) m (cap - 1)) W2) := by
          rw [HM.out]
          exact InI.start HI.out HREST.out HB1.out HV1.out HK2.out HJ2.out HLT.out.1 HLT.out.2.1
        generalize Value.slice (some ⟨b, o2, none⟩) m (cap - 1) = qv2 at HIN ⊢
        go_loopw [4, 28] (fun qv c wr => ∃ (ci : Nat) (rs : List Vis), ci ≤ k ∧ c = .int .i64 (ci : Int) ∧ Hid (InI k g dead W bk bt bT t bm wo.heap.size J pre x ci rs qv wr)) (fun _ c _ => k - (intOf c).toNat)
        case atStart => exact ⟨0, rest, by omega, by go_num, HIN⟩
        case round =>
          obtain ⟨ci, rs, hci, rfl, HC⟩ := hrel
          clear HIN
          by_cases hlt : ci < k
          · have hpx := HC.out.rng x (by simp)
            obtain ⟨x1, y1, hx1, hy1, hx2, hx3, hy3, hst⟩ := HG.out.at_ hpx.1 hpx.2.1 (c := ci) (by omega)
            have HAF : Hid (∀ V, Rw V bT t 496 g → Calls Try.prog 52 #[.pointer (some ⟨bT, 0, none⟩), .agg #[.int .i64 (x.2.1 : Int), .int .i64 (x.2.2 : Int)], .int .i64 (ci : Int)] V fun e w' =>
                e = .returned (.agg #[.int .i64 (x1 : Int), .int .i64 (y1 : Int)]) ∧ Below V.heap.size V w') := fun V hV => by
              have := after_any bT t x.2.1 x.2.2 ci g V hV hpx.1 hpx.2.1 (by omega)
              rw [hx1, hy1] at this
              exact this
            have hcbt := HC.out.cbt
            have hvr := HC.out.vrow
            have v0 := cell_of_row _ _ 0 _ _ _ hvr
            have v1 : wr.cell? ⟨wo.heap.size, 1, none⟩ = some (.int .i64 (x.2.1 : Int)) := by rw [cell_of_row _ _ _ _ _ _ hvr]; rfl
            have v2 : wr.cell? ⟨wo.heap.size, 2, none⟩ = some (.int .i64 (x.2.2 : Int)) := by rw [cell_of_row _ _ _ _ _ _ hvr]; rfl
            clear hvr v0
            have HST2 := Lib.hid hst
            clear hx1 hy1 hst hpx
            obtain ⟨wq, rfl⟩ : ∃ wq : World, wq = wr := ⟨_, rfl⟩
            go_upto_region 10 with (go_at_call 52; refine (HAF.out _ HC.out.row).mono ?_; rintro e W5 ⟨rfl, hb5⟩)
            have hB6 : Below wq.heap.size wq (W5.alloc (.cells #[.int .i64 (x1 : Int), .int .i64 (y1 : Int)] 80)) := hb5.alloc hb5.size _
            have hn6 : (W5.alloc (.cells #[.int .i64 (x1 : Int), .int .i64 (y1 : Int)] 80)).heap[W5.heap.size]? = some (.cells #[.int .i64 (x1 : Int), .int .i64 (y1 : Int)] 80 (0, 0)) := heap_alloc_last _ _
            have hz5 := hb5.size
            generalize W5.alloc (.cells #[.int .i64 (x1 : Int), .int .i64 (y1 : Int)] 80) = W6 at hB6 hn6 ⊢
            generalize W5.heap.size = bn at hn6 hz5 ⊢
            have HC6 := Lib.hid (HC.out.carry HJ.out hB6 HLT.out.1 HLT.out.2.1)
            have n0 : W6.cell? ⟨bn, 0, none⟩ = some (.int .i64 (x1 : Int)) := by rw [cell_of_row _ _ _ _ _ _ hn6]; rfl
            have n1 : W6.cell? ⟨bn, 1, none⟩ = some (.int .i64 (y1 : Int)) := by rw [cell_of_row _ _ _ _ _ _ hn6]; rfl
            have HN6 := Lib.hid hn6
            clear hn6 hcbt v1 v2 hb5 hB6
            by_cases hA : x1 = 61 ∧ y1 = 61
            · obtain ⟨rfl, rfl⟩ := hA
              go_wp2
              have HN := Lib.hid (HC6.out.skip HST2.out (.inl (by rw [← HST2.out]; exact (HST2.out.symm ▸ HDD.out x.2 ci (HC6.out.rng x (by simp)).1 (HC6.out.rng x (by simp)).2.1 hlt HST2.out))))
              exact ⟨⟨ci + 1, rs, by omega, by go_num, HN⟩, by simp [intOf]; omega⟩
            · have hAb : ((x1 : Int) == 61 && (y1 : Int) == 61) = false := by
                rw [Bool.and_eq_false_iff]
                by_cases e : x1 = 61
                · exact .inr (by simp; omega)
                · exact .inl (by simp; omega)
              have heq := fun V => run_equalIn_pt V (x1 : Int) (y1 : Int) 61 61
              rw [hAb] at heq
              have HAB := Lib.hid hAb
              clear hA hAb
              by_cases hS : (x1, y1) ∈ ((pre ++ x :: rs).map (·.2)).tail
              · have hlk := run_lookB W6 120 Try.underlying120 bm _ _ HC6.out.m (x := (x1, y1)) ⟨by show x1 ≤ 1000; omega, by show y1 ≤ 1000; omega⟩ true (by unfold seenF; rw [if_pos hS]; rfl)
                simp only [encPair] at hlk
                have HS := Lib.hid hS
                clear hS
                go_wp2
                have HN := Lib.hid (HC6.out.skip HST2.out (.inr HS.out))
                exact ⟨⟨ci + 1, rs, by omega, by go_num, HN⟩, by simp [intOf]; omega⟩
              · have hlk := run_lookB W6 120 Try.underlying120 bm _ _ HC6.out.m (x := (x1, y1)) ⟨by show x1 ≤ 1000; omega, by show y1 ≤ 1000; omega⟩ false (by unfold seenF; rw [if_neg hS]; rfl)
                simp only [encPair] at hlk
                have HS := Lib.hid hS
                clear hS
                go_upto_region 11 with (fail)
                clear heq hlk
                have hvl := HC6.out.vrow
                have hbv1 := (Array.getElem?_eq_some_iff.1 hvl).1
                have hx1b : x1 ≤ 1000 ∧ y1 ≤ 1000 := ⟨by omega, by omega⟩
                have hlen2 : (pre ++ x :: rs).length ≤ 3844 := by
                  have := pairs_lt HC6.out.nd (fun y hy => by
                    obtain ⟨z, hz, rfl⟩ := List.mem_map.1 hy
                    exact ⟨(HC6.out.rng z hz).1, (HC6.out.rng z hz).2.1⟩)
                  simpa using this
                have HL2 := Lib.hid hlen2
                have HX1 := Lib.hid hx1b
                clear hvl hlen2 hx1b
                go_upto_region 12 with (refine storeK_law _ rfl (.tmp 44) (.tmp 45) (.const (.bool true)) 120 rfl 4 Try.underlying120 bm _ _ rfl HC6.out.m (Nat.le_trans HL2.out (by omega)) (k := (x1, y1)) HX1.out rfl (.bool true) rfl (.bool true) (plainElem_bool Try.underlying4 true) ?_; intro w7 hm7 hg7)
                have hvne : wo.heap.size ≠ bm := fun e => by
                  have h1 := HC6.out.m
                  obtain ⟨D, ⟨es, clock, hb, _⟩, _⟩ := h1
                  have h2 := HC6.out.vrow
                  rw [e, hb] at h2
                  cases h2
                have hnne : bn ≠ bm := fun e => by
                  have h1 := HC6.out.m
                  obtain ⟨D, ⟨es, clock, hb, _⟩, _⟩ := h1
                  have h2 := HN6.out
                  rw [e, hb] at h2
                  cases h2
                have hv7 : w7.heap[wo.heap.size]? = some (.cells #[.string x.1, .int .i64 (x.2.1 : Int), .int .i64 (x.2.2 : Int)] 118 (0, 0)) := (hg7.block _ hbv1 (fun e => hvne (by injection e))).trans HC6.out.vrow
                have hn7 : w7.heap[bn]? = some (.cells #[.int .i64 (x1 : Int), .int .i64 (y1 : Int)] 80 (0, 0)) := (hg7.block _ (Array.getElem?_eq_some_iff.1 HN6.out).1 (fun e => hnne (by injection e))).trans HN6.out
                have w0 : w7.cell? ⟨wo.heap.size, 0, none⟩ = some (.string x.1) := by rw [cell_of_row _ _ _ _ _ _ hv7]; rfl
                have m0 : w7.cell? ⟨bn, 0, none⟩ = some (.int .i64 (x1 : Int)) := by rw [cell_of_row _ _ _ _ _ _ hn7]; rfl
                have m1 : w7.cell? ⟨bn, 1, none⟩ = some (.int .i64 (y1 : Int)) := by rw [cell_of_row _ _ _ _ _ _ hn7]; rfl
                have hcv := fun V => conv_letter V (c := ci) (by omega)
                have hxs := (HC6.out.rng x (by simp)).2.2
                have hzc : (chr (97 + ci)).size = 1 := rfl
                have hzz : x.1.size + (chr (97 + ci)).size ≤ 9223372036854775807 := by have := HL2.out; omega
                have hqb : u4.ownBlock ≠ some bm := fun e1 => by
                  obtain ⟨b, off, cap, cur, hq⟩ := HC6.out.q
                  obtain ⟨D, ⟨es, clock, hb, _⟩, _⟩ := HC6.out.m
                  rw [hq.val] at e1
                  injection e1 with e1
                  have h2 := hq.row
                  rw [show b = bm from e1, hb] at h2
                  cases h2
                have HQ7 : Hid (QO w7 W.heap.size u4 rs) := HC6.out.q.kept (w' := w7) (fun i hi => hg7.block i (HC6.out.q.lt hi).2 (fun e => hqb (by rw [hi, e])))
                have HRL : Hid (rs.length ≤ 1000000) := by have h1 := HL2.out; rw [Hid]; simp at h1; omega
                have HB7 : Hid (W.heap.size ≤ w7.heap.size) := Nat.le_trans HC6.out.size hg7.size
                have HBY := Lib.hid (fun V => byteOf_any ci V (by omega))
                have HG7 := Lib.hid hg7
                have HM7 := Lib.hid hm7
                have HZ := Lib.hid hzc
                have hadd := fun V => run_string_add_sum (P := Try.prog) (w := V) x.1 (chr (97 + ci)) hzz
                clear hv7 hn7 hg7 hm7 hxs hqb hzz hzc hvne hnne n0 n1
                go_region_law (first
                  | (refine qpush_step rfl (.tmp 46) (.tmp 55) rfl W.heap.size i0 HI0.out _ rs (x.1 ++ chr (97 + ci), (x1, y1)) w7.heap.size (by rfl) (by rfl) (heap_alloc_last w7 _) (HQ7.out.drewAlloc _) HRL.out (Nat.le_trans HB7.out (by simp)) ?_; intro v9 w9 hq9 hg9 hat9)
                  | (go_simp; go_at_call 53; refine (HBY.out _).mono ?_; rintro e w8 ⟨rfl, rfl⟩))
                all_goals
                  clear hcv hadd w0 m0 m1
                  go_wp2
                  have HIN := Lib.hid (InI.push HC6.out HJ.out HLT.out.1 HLT.out.2.1 HLT.out.2.2 hlt HST2.out HS.out hx2 hx3 hy3 (x.1 ++ chr (97 + ci)) (by rw [bs_append, bs_chr (97 + ci) (by omega)]; simp) HM7.out HG7.out (w8 := w7.drew) ⟨1, rfl⟩ hq9 (grown_da hg9) (hat9.imp id (fun ⟨g2, e1, h2⟩ => ⟨g2, e1, by simp at h2; exact Nat.le_trans (Nat.le_succ _) h2⟩)))
                  clear hq9 hg9 hat9
                  exact ⟨⟨ci + 1, _, by omega, by go_num, HIN⟩, by simp [intOf]; omega⟩
          · obtain rfl : ci = k := by omega
            have HD := Lib.hid HC.out.done
            have hl9 : (pre ++ [x]).length < 4000 := by simp at hlen ⊢; omega
            clear HC
            go_wp2
            go_roundg (4000 - (pre ++ [x]).length)
            case measure => rw [HGK.out]; simp at hl9 ⊢; omega
            case rel => exact ⟨pre ++ [x], rs, rfl, HD⟩
      · have HX2 := Lib.hid hx2; clear hx2
        clear v0 v1 v2 hy hR5
        gi_wp2
        go_wp2
        refine bodyPost_ret (results_none rfl _ _ _) rfl ?_
        rw [HRR.out]
        exact ⟨⟨_, rfl⟩, .inr ⟨pre ++ [x], ⟨pre, x, rest.map toW, rfl, HI.out.bf⟩, HX2.out⟩⟩
end Go.Proofs.Ytkemcmeagnggeaa
