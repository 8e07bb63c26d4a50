import Derived.Test.YtmnnehpoaedifaaJ00
import Derived.OpenShut
import Derived.Test.YtmnnehpoaedifaaJ01
import Derived.Test.YtmnnehpoaedifaaJ02
/- A slice of ints that came in, as the frame of a law's proof gives it. -/
namespace Go.Proofs.Ytmnnehpoaedifaa
open Go.RowKit

theorem lt_of_cell {w : World} {p : Addr} {v : Value} (h : w.cell? p = some v) : p.block < w.heap.size := by
  rcases Nat.lt_or_ge p.block w.heap.size with h' | h'
  · exact h'
  · exfalso
    have : w.heap[p.block]? = none := Array.getElem?_eq_none h'
    simp [World.cell?, this] at h
theorem Sl.of_row {w : World} {a : Option Addr} {len cap : Nat} {zs : List Int} (h : (a = none ∧ len = 0 ∧ cap = 0 ∧ zs = []) ∨
    ∃ x, a = some x ∧ len ≤ cap ∧ cap ≤ maxLen ∧ zs.length = cap ∧ (∀ i, i < zs.length → w.cell? (x.add i) = some (.int .i64 (zs.getD i 0))) ∧ ∀ n ∈ zs, (Lit.int .i64 n).wf = true) : Sl w a len cap (zs.take len) := by
  rcases h with ⟨rfl, rfl, rfl, rfl⟩ | ⟨x, rfl, h1, h2, h3, h4, _⟩
  · exact ⟨rfl, Nat.le_refl _, by omega, fun _ => ⟨rfl, rfl⟩, fun k hk => absurd hk (by simp), fun _ _ h _ => (by cases h)⟩
  · unfold maxLen at h2
    refine ⟨by rw [List.length_take]; omega, h1, by omega, fun h => (by cases h), fun k hk => ?_, fun b off he hl => ?_⟩
    · rw [List.length_take] at hk
      obtain ⟨b, off, rfl, hc⟩ := Go.ints_at h4 (by omega)
      refine ⟨b, off, rfl, ?_⟩
      rw [List.getElem?_take_of_lt (by omega), hc k (by omega), List.getD_eq_getElem?_getD]
    · obtain ⟨b', off', e, hc⟩ := Go.ints_at h4 (by omega)
      injection he with he
      rw [e] at he
      injection he with hb
      rw [← hb]
      exact lt_of_cell (hc 0 (by omega))
end Go.Proofs.Ytmnnehpoaedifaa
/- Plain mathematics of layer 2: colouring the conflicts, as the reference does it; over whatever relation of positions. -/
namespace Go.Proofs.Ytmnnehpoaedifaa

/-- The colours (0: none yet), and the positions that are to be looked at or have been. -/
structure BS where
  C : List Int
  Q : List Nat
/-- Position b is looked at from a. -/
def visit (cf : Nat → Nat → Bool) (a b : Nat) (s : BS) : Option BS :=
  if a = b ∨ cf (min a b) (max a b) = false then some s
  else if s.C[b]?.getD 0 = s.C[a]?.getD 0 then none
  else if s.C[b]?.getD 0 = 0 then some ⟨s.C.set b (3 - s.C[a]?.getD 0), s.Q ++ [b]⟩ else some s
def rowTo (cf : Nat → Nat → Bool) (a : Nat) : Nat → BS → Option BS
  | 0, s => some s
  | k + 1, s => (rowTo cf a k s).bind (visit cf a k)
def bfsTo (cf : Nat → Nat → Bool) (n : Nat) : Nat → Nat → BS → Option BS
  | 0, _, s => some s
  | t + 1, q, s => if q < s.Q.length then (rowTo cf (s.Q[q]?.getD 0) n s).bind (bfsTo cf n t (q + 1)) else some s
def firstTo (cf : Nat → Nat → Bool) (n : Nat) : Nat → Option (List Int)
  | 0 => some (List.replicate n 0)
  | k + 1 => (firstTo cf n k).bind fun C => if C[k]?.getD 0 ≠ 0 then some C else (bfsTo cf n (n + 1) 0 ⟨C.set k 1, [k]⟩).map BS.C
theorem rowTo_none {cf : Nat → Nat → Bool} {a k j : Nat} {s : BS} (h : k ≤ j) (hn : rowTo cf a k s = none) : rowTo cf a j s = none := by
  induction j with
  | zero => rw [show k = 0 from by omega] at hn; exact hn
  | succ j ih =>
    by_cases e : k = j + 1
    · rw [← e]; exact hn
    · rw [rowTo, ih (by omega)]; rfl
theorem firstTo_none {cf : Nat → Nat → Bool} {n k j : Nat} (h : k ≤ j) (hn : firstTo cf n k = none) : firstTo cf n j = none := by
  induction j with
  | zero => rw [show k = 0 from by omega] at hn; exact hn
  | succ j ih =>
    by_cases e : k = j + 1
    · rw [← e]; exact hn
    · rw [firstTo, ih (by omega)]; rfl
/-- What holds of a state. -/
structure BInv (n : Nat) (s : BS) : Prop where
  len : s.C.length = n
  lo : ∀ i, i < n → 0 ≤ s.C[i]?.getD 0
  hi : ∀ i, i < n → s.C[i]?.getD 0 ≤ 2
  nodup : s.Q.Nodup
  lt : ∀ b ∈ s.Q, b < n
  col : ∀ b ∈ s.Q, s.C[b]?.getD 0 ≠ 0
theorem BInv.at_ {n : Nat} {s : BS} (h : BInv n s) {q : Nat} (hq : q < s.Q.length) : s.Q[q]?.getD 0 < n ∧ s.C[s.Q[q]?.getD 0]?.getD 0 ≠ 0 := by
  have hm : s.Q[q]?.getD 0 ∈ s.Q := by
    rw [List.getElem?_eq_getElem hq]; exact List.getElem_mem _
  exact ⟨h.lt _ hm, h.col _ hm⟩
theorem BInv.start {n k : Nat} {C : List Int} (hl : C.length = n) (h0 : ∀ i, i < n → 0 ≤ C[i]?.getD 0 ∧ C[i]?.getD 0 ≤ 2) (hk : k < n) : BInv n ⟨C.set k 1, [k]⟩ := by
  have hget : ∀ i, i < n → (C.set k 1)[i]?.getD 0 = if i = k then 1 else C[i]?.getD 0 := fun i hi => by
    by_cases e : i = k
    · subst e
      rw [List.getElem?_set_self (by omega), if_pos rfl]; rfl
    · rw [List.getElem?_set_ne (by omega), if_neg e]
  refine ⟨by simp [hl], fun i hi => ?_, fun i hi => ?_, by simp, fun b hb => ?_, fun b hb => ?_⟩
  · show 0 ≤ (C.set k 1)[i]?.getD 0
    rw [hget i hi]; split
    · decide
    · exact (h0 i hi).1
  · show (C.set k 1)[i]?.getD 0 ≤ 2
    rw [hget i hi]; split
    · decide
    · exact (h0 i hi).2
  · rw [List.mem_singleton.1 hb]; exact hk
  · rw [List.mem_singleton.1 hb]
    show (C.set k 1)[k]?.getD 0 ≠ 0
    rw [hget k hk, if_pos rfl]; decide
theorem BInv.add {n a b : Nat} {s : BS} (h : BInv n s) (ha : a < n) (hb : b < n) (hac : s.C[a]?.getD 0 ≠ 0) (hbc : s.C[b]?.getD 0 = 0) : BInv n ⟨s.C.set b (3 - s.C[a]?.getD 0), s.Q ++ [b]⟩ := by
  have hl := h.len
  have hget : ∀ i, i < n → (s.C.set b (3 - s.C[a]?.getD 0))[i]?.getD 0 = if i = b then 3 - s.C[a]?.getD 0 else s.C[i]?.getD 0 := fun i hi => by
    by_cases e : i = b
    · subst e
      rw [List.getElem?_set_self (by omega), if_pos rfl]; rfl
    · rw [List.getElem?_set_ne (by omega), if_neg e]
  have h1 := h.lo a ha
  have h2 := h.hi a ha
  refine ⟨by simp [hl], fun i hi => ?_, fun i hi => ?_, ?_, fun x hx => ?_, fun x hx => ?_⟩
  · show 0 ≤ (s.C.set b (3 - s.C[a]?.getD 0))[i]?.getD 0
    rw [hget i hi]; split
    · omega
    · exact h.lo i hi
  · show (s.C.set b (3 - s.C[a]?.getD 0))[i]?.getD 0 ≤ 2
    rw [hget i hi]; split
    · omega
    · exact h.hi i hi
  · show (s.Q ++ [b]).Nodup
    rw [List.nodup_append]
    refine ⟨h.nodup, by simp, fun x hx y hy => ?_⟩
    rw [List.mem_singleton.1 hy]
    intro e
    subst e
    exact h.col x hx hbc
  · rcases List.mem_append.1 hx with hx | hx
    · exact h.lt x hx
    · rw [List.mem_singleton.1 hx]; exact hb
  · have hxn : x < n := by
      rcases List.mem_append.1 hx with hx | hx
      · exact h.lt x hx
      · rw [List.mem_singleton.1 hx]; exact hb
    show (s.C.set b (3 - s.C[a]?.getD 0))[x]?.getD 0 ≠ 0
    rw [hget x hxn]
    split
    · omega
    · rename_i hne
      rcases List.mem_append.1 hx with hx | hx
      · exact h.col x hx
      · exact absurd (List.mem_singleton.1 hx) hne
theorem nodup_len : ∀ (k : Nat) (l : List Nat), l.Nodup → (∀ x ∈ l, x < k) → l.length ≤ k := by
  intro k
  induction k with
  | zero =>
    intro l _ h
    cases l with
    | nil => simp
    | cons x l => exact absurd (h x (by simp)) (by omega)
  | succ k ih =>
    intro l hn h
    by_cases hk : k ∈ l
    · have h1 := ih (l.erase k) (hn.erase k) (fun x hx => by
        have h2 := (List.Nodup.mem_erase_iff hn).1 hx
        have := h x h2.2
        have := h2.1
        omega)
      rw [List.length_erase_of_mem hk] at h1
      omega
    · have h1 := ih l hn (fun x hx => by
        have := h x hx
        have : x ≠ k := fun e => hk (e ▸ hx)
        omega)
      omega
theorem BInv.short {n : Nat} {s : BS} (h : BInv n s) : s.Q.length ≤ n := nodup_len n s.Q h.nodup h.lt
end Go.Proofs.Ytmnnehpoaedifaa
/- What the statements' side computes, in the words of plain mathematics (layer 2). -/
namespace Go.Proofs.Ytmnnehpoaedifaa

theorem getD_at {zs : List Int} {i : Nat} (h : i < zs.length) : zs[i]?.getD 0 = zs[i] := by rw [List.getElem?_eq_getElem h]; rfl
theorem asc_lt {zs : List Int} (h : ascB zs = true) {i j : Nat} (hij : i < j) (hj : j < zs.length) : zs[i]?.getD 0 < zs[j]?.getD 0 := by
  induction j with
  | zero => omega
  | succ j ih =>
    have h1 := (allB_iff.1 h) j (by omega)
    simp only [decide_eq_true_eq] at h1
    by_cases e : i = j
    · subst e; exact h1
    · have := ih (by omega) (by omega); omega
theorem ascB_iff {zs : List Int} : ascB zs = true ↔ zs.Pairwise (· < ·) := by
  constructor
  · intro h
    rw [List.pairwise_iff_getElem]
    intro i j hi hj hij
    have := asc_lt h hij hj
    rw [getD_at hi, getD_at hj] at this
    exact this
  · intro h
    rw [List.pairwise_iff_getElem] at h
    refine allB_iff.2 fun j hj => ?_
    have := h j (j + 1) (by omega) (by omega) (by omega)
    rw [decide_eq_true_eq, getD_at (by omega), getD_at (by omega)]
    exact this
theorem hasB_iff {zs : List Int} {x : Int} : hasB zs x = true ↔ x ∈ zs := by unfold hasB; exact List.contains_iff_mem
theorem hasB_take {zs : List Int} {k : Nat} {x : Int} : hasB (zs.take k) x = true ↔ ∃ j, j < k ∧ j < zs.length ∧ zs[j]?.getD 0 = x := by
  rw [hasB_iff, List.mem_take_iff_getElem]
  constructor
  · rintro ⟨j, hj, rfl⟩
    exact ⟨j, by omega, by omega, getD_at (by omega)⟩
  · rintro ⟨j, h1, h2, h3⟩
    exact ⟨j, by omega, by rw [← getD_at h2]; exact h3⟩
/-- An order: different numbers from 1 to n. -/
structure Ord (zs : List Int) : Prop where
  diff : Diff zs
  lo : ∀ i, i < zs.length → 1 ≤ zs[i]?.getD 0
  hi : ∀ i, i < zs.length → zs[i]?.getD 0 ≤ zs.length
theorem ordB_iff {zs : List Int} {m : Int} : ordB zs m = true ↔ Ord zs ∧ (zs.length : Int) ≤ m := by
  have hall : (List.range zs.length).all (okAt zs) = true ↔ Ord zs := by
    rw [List.all_eq_true]
    constructor
    · intro h
      have h' : ∀ i, i < zs.length → okAt zs i = true := fun i hi => h i (List.mem_range.2 hi)
      refine ⟨fun i j hi hj e => ?_, fun i hi => ?_, fun i hi => ?_⟩
      · have hno : ∀ a b, a < b → b < zs.length → zs[a]?.getD 0 = zs[b]?.getD 0 → False := fun a b hab hb e => by
          have h1 := h' b hb
          unfold okAt at h1
          simp only [Bool.and_eq_true, Bool.not_eq_true'] at h1
          have : hasB (zs.take b) (zs[b]?.getD 0) = true := hasB_take.2 ⟨a, hab, by omega, e⟩
          rw [h1.2] at this
          cases this
        rcases Nat.lt_trichotomy i j with h1 | h1 | h1
        · exact (hno i j h1 hj e).elim
        · exact h1
        · exact (hno j i h1 hi e.symm).elim
      · have h1 := h' i hi
        unfold okAt at h1
        simp only [Bool.and_eq_true, decide_eq_true_eq] at h1
        exact h1.1.1
      · have h1 := h' i hi
        unfold okAt at h1
        simp only [Bool.and_eq_true, decide_eq_true_eq] at h1
        exact h1.1.2
    · intro h i hi
      have hi := List.mem_range.1 hi
      unfold okAt
      simp only [Bool.and_eq_true, decide_eq_true_eq, Bool.not_eq_true']
      refine ⟨⟨h.lo i hi, h.hi i hi⟩, ?_⟩
      rw [Bool.eq_false_iff, Ne, hasB_take]
      rintro ⟨j, h1, h2, h3⟩
      have := h.diff j i h2 hi h3
      omega
  unfold ordB
  rw [Bool.and_eq_true, hall, decide_eq_true_eq]
theorem atB_iff {zs : List Int} {n : Int} : atB zs n = true ↔ Diff zs ∧ ∀ i, i < zs.length → 0 ≤ zs[i]?.getD 0 ∧ zs[i]?.getD 0 < n := by
  unfold atB
  rw [allB_iff]
  constructor
  · intro h'
    refine ⟨fun i j hi hj e => ?_, fun i hi => ?_⟩
    · have hno : ∀ a b, a < b → b < zs.length → zs[a]?.getD 0 = zs[b]?.getD 0 → False := fun a b hab hb e => by
        have h1 := h' b hb
        unfold posAt at h1
        simp only [Bool.and_eq_true, Bool.not_eq_true'] at h1
        have : hasB (zs.take b) (zs[b]?.getD 0) = true := hasB_take.2 ⟨a, hab, by omega, e⟩
        rw [h1.2] at this
        cases this
      rcases Nat.lt_trichotomy i j with h1 | h1 | h1
      · exact (hno i j h1 hj e).elim
      · exact h1
      · exact (hno j i h1 hi e.symm).elim
    · have h1 := h' i hi
      unfold posAt at h1
      simp only [Bool.and_eq_true, decide_eq_true_eq] at h1
      exact h1.1
  · rintro ⟨hd, hb⟩ i hi
    unfold posAt
    simp only [Bool.and_eq_true, decide_eq_true_eq, Bool.not_eq_true']
    refine ⟨hb i hi, ?_⟩
    rw [Bool.eq_false_iff, Ne, hasB_take]
    rintro ⟨j, h1, h2, h3⟩
    have := hd j i h2 hi h3
    omega
theorem diff_of_asc {zs : List Int} (h : ascB zs = true) : Diff zs := fun i j hi hj e => by
  rcases Nat.lt_trichotomy i j with h1 | h1 | h1
  · have := asc_lt h h1 hj; omega
  · exact h1
  · have := asc_lt h h1 hi; omega
theorem bad_of_sblock {o l : List Int} (h : sblockB o l = true) : ∃ a b c, Bad o a b c := by
  unfold sblockB at h
  simp only [Bool.and_eq_true, decide_eq_true_eq, beq_iff_eq] at h
  obtain ⟨⟨⟨h1, h2⟩, h3⟩, h4, h5⟩ := h
  have hb := (atB_iff.1 h2).2
  have b0 := hb 0 (by omega)
  have b1 := hb 1 (by omega)
  have b2 := hb 2 (by omega)
  have a1 := asc_lt h3 (i := 0) (j := 1) (by omega) (by omega)
  have a2 := asc_lt h3 (i := 1) (j := 2) (by omega) (by omega)
  exact ⟨_, _, _, by omega, by omega, by omega, h4, h5⟩
theorem sblock_of_bad {o : List Int} {a b c : Nat} (h : Bad o a b c) : sblockB o [(a : Int), b, c] = true := by
  obtain ⟨h1, h2, h3, h4, h5⟩ := h
  have hasc : ascB [(a : Int), b, c] = true := by
    rw [ascB_iff]
    simp
    omega
  unfold sblockB
  simp only [Bool.and_eq_true, decide_eq_true_eq, beq_iff_eq]
  refine ⟨⟨⟨rfl, atB_iff.2 ⟨diff_of_asc hasc, fun i hi => ?_⟩⟩, hasc⟩, ?_, ?_⟩
  · simp at hi
    match i, hi with
    | 0, _ => simp; omega
    | 1, _ => simp; omega
    | 2, _ => simp; omega
  · simpa [elt] using h4
  · simpa [elt] using h5
/-- One stack sorts an order exactly if it has no block. -/
theorem oneStack_iff {o : List Int} (h : Diff o) : ascB (passOf o) = true ↔ Good o := by
  rw [ascB_iff]
  exact ⟨good_of_asc o h, asc_of_good o h⟩

/-! Queues -/
/-- No order has both lanes that sort and a block. -/
theorem lanes_once {o l b : List Int} {k : Int} (hk0 : 0 ≤ k) (h1 : lanesB o k l = true) (h2 : qblockB o k b = true) : False := by
  unfold lanesB at h1
  unfold qblockB at h2
  simp only [Bool.and_eq_true, decide_eq_true_eq] at h1 h2
  obtain ⟨hl, hlanes⟩ := h1
  obtain ⟨⟨⟨hk, hat⟩, hasc⟩, hdes⟩ := h2
  have hlane : ∀ i, i < l.length → laneOk o k l i = true := allB_iff.1 hlanes
  have hpos := (atB_iff.1 hat).2
  have hin : ∀ i, i < l.length → 0 ≤ l[i]?.getD 0 ∧ l[i]?.getD 0 < k := fun i hi => by
    have := hlane i hi
    unfold laneOk laneIn at this
    simp only [Bool.and_eq_true, decide_eq_true_eq] at this
    exact this.1
  have hdesc : ∀ i j, i < j → j < b.length → elt o (b[j]?.getD 0) < elt o (b[i]?.getD 0) := by
    intro i j hij hj
    induction j with
    | zero => omega
    | succ j ih =>
      have h := (allB_iff.1 hdes) j (by omega)
      unfold desAt at h
      simp only [decide_eq_true_eq] at h
      by_cases e : i = j
      · subst e; exact h
      · have := ih (by omega) (by omega); omega
  have := nodup_len k.toNat ((List.range b.length).map fun i => (l[(b[i]?.getD 0).toNat]?.getD 0).toNat) (by
    rw [List.nodup_iff_pairwise_ne, List.pairwise_map]
    refine List.Pairwise.imp_of_mem ?_ (List.pairwise_lt_range (n := b.length))
    intro i j hi hj hij e
    have hi := List.mem_range.1 hi
    have hj := List.mem_range.1 hj
    have pi := hpos i hi
    have pj := hpos j hj
    have qi := hin (b[i]?.getD 0).toNat (by omega)
    have qj := hin (b[j]?.getD 0).toNat (by omega)
    have hlt := asc_lt hasc hij hj
    have hd := hdesc i j hij hj
    have hok := hlane (b[j]?.getD 0).toNat (by omega)
    unfold laneOk at hok
    simp only [Bool.and_eq_true] at hok
    have hp := (allB_iff.1 hok.2) (b[i]?.getD 0).toNat (by omega)
    unfold pairOk at hp
    unfold elt at hd
    simp only [Bool.not_eq_true', Bool.and_eq_false_iff, decide_eq_false_iff_not] at hp
    rcases hp with hp | hp
    · exact hp (by omega)
    · exact hp hd) (by
    intro x hx
    obtain ⟨i, hi, rfl⟩ := List.mem_map.1 hx
    have hi := List.mem_range.1 hi
    have pi := hpos i hi
    have qi := hin (b[i]?.getD 0).toNat (by omega)
    omega)
  simp at this
  omega
end Go.Proofs.Ytmnnehpoaedifaa
