import Derived.Test.YtmnnehpoaedifaaJ03
import Derived.Test.YtmnnehpoaedifaaJ02
import Derived.Test.YtmnnehpoaedifaaJ07
import Derived.Test.YtmnnehpoaedifaaJ08
import Derived.Test.YtmnnehpoaedifaaJ04
import Derived.Test.YtmnnehpoaedifaaJ09
import Derived.Test.YtmnnehpoaedifaaJ05
import Derived.Test.YtmnnehpoaedifaaJ00
import Derived.Test.YtmnnehpoaedifaaJ01
import Derived.Test.YtmnnehpoaedifaaJ06
/- Plain mathematics of layer 2: Least is the length of the longest descending part. -/
namespace Go.Proofs.Ytmnnehpoaedifaa

def eAt (o : List Int) (i : Nat) : Int := endTo o (leastTo o i).1 i i
theorem least_at (o : List Int) (k j : Nat) (hj : j < k) (hk : k ≤ o.length) : (leastTo o k).1[j]?.getD 0 = eAt o j := by
  induction k with
  | zero => omega
  | succ k ih =>
    simp only [leastTo]
    by_cases e : j = k
    · subst e
      rw [List.getElem?_set_self (by rw [leastTo_len]; omega)]
      rfl
    · rw [List.getElem?_set_ne (by omega)]
      exact ih (by omega) (by omega)
theorem endTo_spec (o E : List Int) (i k : Nat) : 1 ≤ endTo o E i k ∧ (∀ j, j < k → o[i]?.getD 0 < o[j]?.getD 0 → E[j]?.getD 0 + 1 ≤ endTo o E i k) ∧
    (endTo o E i k = 1 ∨ ∃ j, j < k ∧ o[i]?.getD 0 < o[j]?.getD 0 ∧ endTo o E i k = E[j]?.getD 0 + 1) := by
  induction k with
  | zero => exact ⟨Int.le_refl _, fun j hj => by omega, .inl rfl⟩
  | succ k ih =>
    obtain ⟨h1, h2, h3⟩ := ih
    rw [endTo]
    split
    · rename_i hlt
      refine ⟨by omega, fun j hj hlt2 => ?_, ?_⟩
      · by_cases e : j = k
        · subst e; omega
        · have := h2 j (by omega) hlt2; omega
      · by_cases hm : endTo o E i k ≤ E[k]?.getD 0 + 1
        · right; exact ⟨k, by omega, hlt, by omega⟩
        · rw [show max (endTo o E i k) (E[k]?.getD 0 + 1) = endTo o E i k from by omega]
          rcases h3 with h3 | ⟨j, a, b, c⟩
          · exact .inl h3
          · exact .inr ⟨j, by omega, b, c⟩
    · rename_i hlt
      refine ⟨h1, fun j hj hlt2 => ?_, ?_⟩
      · by_cases e : j = k
        · subst e; exact absurd hlt2 hlt
        · exact h2 j (by omega) hlt2
      · rcases h3 with h3 | ⟨j, a, b, c⟩
        · exact .inl h3
        · exact .inr ⟨j, by omega, b, c⟩
theorem eAt_one (o : List Int) (i : Nat) : 1 ≤ eAt o i := (endTo_spec o _ i i).1
theorem eAt_step (o : List Int) {i j : Nat} (hi : i < o.length) (hj : j < i) (h : at0 o i < at0 o j) : eAt o j + 1 ≤ eAt o i := by
  have := (endTo_spec o (leastTo o i).1 i i).2.1 j hj h
  rw [least_at o i j hj (by omega)] at this
  exact this
theorem eAt_from (o : List Int) {i : Nat} (hi : i < o.length) : eAt o i = 1 ∨ ∃ j, j < i ∧ at0 o i < at0 o j ∧ eAt o i = eAt o j + 1 := by
  rcases (endTo_spec o (leastTo o i).1 i i).2.2 with h | ⟨j, a, b, c⟩
  · exact .inl h
  · right
    refine ⟨j, a, b, ?_⟩
    rw [least_at o i j a (by omega)] at c
    exact c
theorem least_ge (o : List Int) (k : Nat) : 1 ≤ (leastTo o k).2 ∧ ∀ i, i < k → eAt o i ≤ (leastTo o k).2 := by
  induction k with
  | zero => exact ⟨Int.le_refl _, fun i hi => by omega⟩
  | succ k ih =>
    obtain ⟨h1, h2⟩ := ih
    simp only [leastTo]
    refine ⟨by omega, fun i hi => ?_⟩
    by_cases e : i = k
    · subst e; show eAt o i ≤ _; unfold eAt; omega
    · have := h2 i (by omega); omega
theorem least_is (o : List Int) (k : Nat) : (leastTo o k).2 = 1 ∨ ∃ i, i < k ∧ eAt o i = (leastTo o k).2 := by
  induction k with
  | zero => exact .inl rfl
  | succ k ih =>
    simp only [leastTo]
    by_cases h : (leastTo o k).2 ≤ eAt o k
    · right
      refine ⟨k, by omega, ?_⟩
      show eAt o k = max _ (eAt o k)
      omega
    · rw [show max (leastTo o k).2 (endTo o (leastTo o k).1 k k) = (leastTo o k).2 from by show max _ (eAt o k) = _; omega]
      rcases ih with h2 | ⟨i, a, b⟩
      · exact .inl h2
      · exact .inr ⟨i, by omega, b⟩
/-- Ascending positions whose items descend. -/
def Desc (o : List Int) (l : List Nat) : Prop := l.Pairwise (fun i j => i < j ∧ at0 o j < at0 o i) ∧ ∀ i ∈ l, i < o.length
/-- Nothing that descends is longer than Least. -/
theorem desc_le (o : List Int) (l : List Nat) (h : Desc o l) : (l.length : Int) ≤ leastOf o := by
  -- the length of the part from its last position back
  have key : ∀ (l : List Nat) (x : Nat), (x :: l).Pairwise (fun i j => j < i ∧ at0 o i < at0 o j) → (∀ i ∈ x :: l, i < o.length) → ((x :: l).length : Int) ≤ eAt o x := by
    intro l
    induction l with
    | nil => intro x _ _; have := eAt_one o x; simpa using this
    | cons y l ih =>
      intro x hp hl
      have hx := List.pairwise_cons.1 hp
      have h1 := ih y hx.2 (fun i hi => hl i (List.mem_cons.2 (.inr hi)))
      have h2 := hx.1 y (by simp)
      have h3 := eAt_step o (hl x (by simp)) h2.1 h2.2
      simp only [List.length_cons] at *
      omega
  unfold leastOf
  have hg := least_ge o o.length
  rcases hr : l.reverse with _ | ⟨x, r⟩
  · have : l = [] := by simpa using hr
    rw [this]
    simp
    omega
  · have hp : (x :: r).Pairwise (fun i j => j < i ∧ at0 o i < at0 o j) := by
      rw [← hr, List.pairwise_reverse]
      exact h.1
    have hm : ∀ i ∈ x :: r, i < o.length := fun i hi => h.2 i (by rw [← List.mem_reverse, hr]; exact hi)
    have h1 := key r x hp hm
    rw [← hr, List.length_reverse] at h1
    have := hg.2 x (hm x (by simp))
    omega
/-- There is a descending part of that length. -/
theorem desc_least (o : List Int) (h : 0 < o.length) : ∃ l, Desc o l ∧ (l.length : Int) = leastOf o := by
  have key : ∀ (n : Nat) (i : Nat), i < n → i < o.length → ∃ r : List Nat, (i :: r).Pairwise (fun i j => j < i ∧ at0 o i < at0 o j) ∧ (∀ j ∈ i :: r, j < o.length) ∧ ((i :: r).length : Int) = eAt o i := by
    intro n
    induction n with
    | zero => intro i hi; omega
    | succ n ih =>
      intro i hin hi
      rcases eAt_from o hi with h1 | ⟨j, a, b, c⟩
      · exact ⟨[], by simp, by simpa using hi, by simp [h1]⟩
      · obtain ⟨r, p1, p2, p3⟩ := ih j (by omega) (by omega)
        refine ⟨j :: r, List.pairwise_cons.2 ⟨fun x hx => ?_, p1⟩, fun x hx => ?_, ?_⟩
        · rcases List.mem_cons.1 hx with rfl | hx
          · exact ⟨a, b⟩
          · have := (List.pairwise_cons.1 p1).1 x hx; omega
        · rcases List.mem_cons.1 hx with rfl | hx
          · exact hi
          · exact p2 x hx
        · simp only [List.length_cons] at *; omega
  have fin : ∀ i, i < o.length → eAt o i = leastOf o → ∃ l, Desc o l ∧ (l.length : Int) = leastOf o := by
    intro i hi he
    obtain ⟨r, p1, p2, p3⟩ := key (i + 1) i (by omega) hi
    refine ⟨(i :: r).reverse, ⟨?_, fun j hj => p2 j (by rw [List.mem_reverse] at hj; exact hj)⟩, by rw [List.length_reverse, p3, he]⟩
    rw [List.pairwise_reverse]
    exact p1
  rcases least_is o o.length with h1 | ⟨i, a, b⟩
  · have h2 := (least_ge o o.length).2 0 h
    have h3 := eAt_one o 0
    exact fin 0 h (by unfold leastOf; omega)
  · exact fin i a b
end Go.Proofs.Ytmnnehpoaedifaa
/- What the statements' side computes, in the words of plain mathematics: queues and two stacks. -/
namespace Go.Proofs.Ytmnnehpoaedifaa

/-- A block for k queues is a descending part of k + 1 items. -/
theorem desc_of_qblock {o b : List Int} {k : Int} (h : qblockB o k b = true) : ∃ l : List Nat, Desc o l ∧ (l.length : Int) = k + 1 := by
  unfold qblockB at h
  simp only [Bool.and_eq_true, decide_eq_true_eq] at h
  obtain ⟨⟨⟨hk, hat⟩, hasc⟩, hdes⟩ := h
  have hpos := (atB_iff.1 hat).2
  have hdesc : ∀ i j, i < j → j < b.length → elt o (b[j]?.getD 0) < elt o (b[i]?.getD 0) := by
    intro i j hij hj
    induction j with
    | zero => omega
    | succ j ih =>
      have h := (allB_iff.1 hdes) j (by omega)
      unfold desAt at h
      simp only [decide_eq_true_eq] at h
      by_cases e : i = j
      · subst e; exact h
      · have := ih (by omega) (by omega); omega
  refine ⟨(List.range b.length).map fun i => (b[i]?.getD 0).toNat, ⟨?_, fun x hx => ?_⟩, by simpa using hk⟩
  · rw [List.pairwise_map]
    refine List.Pairwise.imp_of_mem ?_ (List.pairwise_lt_range (n := b.length))
    intro i j hi hj hij
    have hi := List.mem_range.1 hi
    have hj := List.mem_range.1 hj
    have pi := hpos i hi
    have pj := hpos j hj
    have hlt := asc_lt hasc hij hj
    exact ⟨by omega, hdesc i j hij hj⟩
  · obtain ⟨i, hi, rfl⟩ := List.mem_map.1 hx
    have pi := hpos i (List.mem_range.1 hi)
    omega
theorem least_of_qblock {o b : List Int} {k : Int} (h : qblockB o k b = true) : k + 1 ≤ leastOf o := by
  obtain ⟨l, h1, h2⟩ := desc_of_qblock h
  have := desc_le o l h1
  omega
/-- A descending part of k + 1 positions is a block for k queues. -/
theorem qblock_of_desc {o : List Int} {l : List Nat} {k : Int} (h : Desc o l) (hl : (l.length : Int) = k + 1) : qblockB o k (l.map Int.ofNat) = true := by
  have hlen : (l.map Int.ofNat).length = l.length := by simp
  have hget : ∀ i (hi : i < l.length), (l.map Int.ofNat)[i]?.getD 0 = ((l[i] : Nat) : Int) := fun i hi => by
    rw [List.getElem?_map, List.getElem?_eq_getElem hi]; rfl
  have hp := List.pairwise_iff_getElem.1 h.1
  have hasc : ascB (l.map Int.ofNat) = true := by
    rw [ascB_iff, List.pairwise_map]
    exact List.Pairwise.imp (fun hh => Int.ofNat_lt.2 hh.1) h.1
  unfold qblockB
  simp only [Bool.and_eq_true, decide_eq_true_eq]
  refine ⟨⟨⟨by rw [hlen]; exact hl, atB_iff.2 ⟨diff_of_asc hasc, fun i hi => ?_⟩⟩, hasc⟩, allB_iff.2 fun i hi => ?_⟩
  · rw [hlen] at hi
    rw [hget i hi]
    have := h.2 l[i] (List.getElem_mem _)
    omega
  · rw [hlen] at hi
    unfold desAt
    rw [hget i (by omega), hget (i + 1) (by omega), decide_eq_true_eq]
    exact (hp i (i + 1) (by omega) (by omega) (by omega)).2
/-- Lanes that sort with k queues: Least is at most k. -/
theorem least_of_lanes {o d : List Int} {k : Int} (h0 : 1 ≤ k) (h : lanesB o k d = true) : leastOf o ≤ k := by
  rcases Int.lt_or_le k (leastOf o) with hlt | hle
  · exfalso
    rcases Nat.eq_zero_or_pos o.length with hz | hz
    · have : leastOf o = 1 := by unfold leastOf; rw [hz]; rfl
      omega
    · obtain ⟨l, h1, h2⟩ := desc_least o hz
      have hd : Desc o (l.take (k.toNat + 1)) := ⟨List.Pairwise.sublist (List.take_sublist _ _) h1.1, fun i hi => h1.2 i (List.mem_of_mem_take hi)⟩
      have hb := qblock_of_desc (k := k) hd (by rw [List.length_take]; omega)
      exact lanes_once (by omega) h hb
  · exact hle

/-! Two stacks -/
theorem confB_iff {o : List Int} {a b : Nat} (hab : a < b) : confB o a b = true ↔ Conf o a b := by
  unfold confB
  rw [Bool.not_eq_true', Bool.eq_false_iff, Ne, allB_iff]
  constructor
  · intro h
    rcases Classical.em (Conf o a b) with hc | hc
    · exact hc
    · exfalso
      refine h fun j hj => ?_
      rw [Bool.not_eq_true', Bool.eq_false_iff, Ne]
      unfold confAt
      rw [Bool.and_eq_true, decide_eq_true_eq, decide_eq_true_eq]
      rintro ⟨h1, h2⟩
      exact hc ⟨hab, b + 1 + j, hab, by omega, by omega, h1, h2⟩
  · rintro ⟨_, c, _, hbc, hcl, h1, h2⟩ h
    have := h (c - (b + 1)) (by omega)
    rw [show b + 1 + (c - (b + 1)) = c from by omega] at this
    unfold confAt at this
    rw [Bool.not_eq_true', Bool.and_eq_false_iff, decide_eq_false_iff_not, decide_eq_false_iff_not] at this
    rcases this with h3 | h3
    · exact h3 h1
    · exact h3 h2
theorem link_iff {o : List Int} {a b : Nat} : link (cfB o) a b ↔ a ≠ b ∧ Conf o (min a b) (max a b) := by
  unfold link cfB
  constructor
  · rintro ⟨h1, h2⟩
    exact ⟨h1, (confB_iff (by omega)).1 h2⟩
  · rintro ⟨h1, h2⟩
    exact ⟨h1, (confB_iff (by omega)).2 h2⟩
/-- Sides that sort give two colours. -/
theorem proper_of_sides {o d : List Int} (h : sidesB o d = true) : Proper (cfB o) o.length (fun i => decide (d[i]?.getD 0 = 0)) := by
  unfold sidesB at h
  simp only [Bool.and_eq_true, decide_eq_true_eq] at h
  intro a b ha hb hl
  obtain ⟨hne, hc⟩ := link_iff.1 hl
  have hp := sides_proper o d h.2 _ _ hc
  simp only [ne_eq, decide_eq_decide]
  rcases Nat.lt_or_ge a b with hab | hab
  · rw [Nat.min_eq_left (by omega), Nat.max_eq_right (by omega)] at hp
    exact hp
  · rw [Nat.min_eq_right (by omega), Nat.max_eq_left (by omega)] at hp
    exact fun e => hp e.symm
/-- Sides that keep conflicts apart sort. -/
theorem sides_of_proper {o d : List Int} {m : Int} (ho : ordB o m = true) (hl : d.length = o.length) (hin : ∀ i, i < o.length → d[i]?.getD 0 = 0 ∨ d[i]?.getD 0 = 1) (hp : ∀ a b, Conf o a b → d[a]?.getD 0 ≠ d[b]?.getD 0) : sidesB o d = true := by
  obtain ⟨ho, _⟩ := ordB_iff.1 ho
  unfold sidesB
  simp only [Bool.and_eq_true, decide_eq_true_eq]
  refine ⟨⟨hl, allB_iff.2 fun i hi => ?_⟩, sides_sort o d ho.diff (fun i hi => ⟨ho.lo i hi, ho.hi i hi⟩) fun a b hc e => ?_⟩
  · unfold sideIn
    simp only [Bool.and_eq_true, decide_eq_true_eq]
    rcases hin i hi with h | h <;> omega
  · have hc' := hc
    obtain ⟨hab, c, _, hbc, hcl, _⟩ := hc
    have := hp a b hc'
    rcases hin a (by omega) with h1 | h1 <;> rcases hin b (by omega) with h2 | h2 <;> omega
/-- The reference's colouring goes through exactly if there are two colours. -/
theorem twoB_iff {o : List Int} : twoB o = true ↔ ∃ f, Proper (cfB o) o.length f := by
  unfold twoB
  constructor
  · intro h
    rcases hf : firstTo (cfB o) o.length o.length with _ | C
    · rw [hf] at h; cases h
    · exact ⟨_, proper_of_first hf⟩
  · rintro ⟨f, hf⟩
    obtain ⟨C, h⟩ := first_of_proper hf o.length (Nat.le_refl _)
    rw [h]; rfl
/-- A block for two stacks leaves no two colours. -/
theorem no_proper_of_tblock {o l : List Int} {f : Nat → Bool} (h : tblockB o l = true) (hf : Proper (cfB o) o.length f) : False := by
  unfold tblockB at h
  simp only [Bool.and_eq_true, decide_eq_true_eq] at h
  obtain ⟨⟨⟨h1, h2⟩, h3⟩, h4⟩ := h
  obtain ⟨hd, hb⟩ := atB_iff.1 h3
  have hring := allB_iff.1 h4
  have hne : ∀ i j, i < l.length → j < l.length → i ≠ j → (l[i]?.getD 0).toNat ≠ (l[j]?.getD 0).toNat := fun i j hi hj hij e => by
    have bi := hb i hi
    have bj := hb j hj
    exact hij (hd i j hi hj (by omega))
  have hlink : ∀ i j, i < l.length → j < l.length → i ≠ j → j = (i + 1) % l.length → link (cfB o) (l[i]?.getD 0).toNat (l[j]?.getD 0).toNat := fun i j hi hj hij e => by
    have h := hring i hi
    unfold ringAt nextAt at h
    rw [← e] at h
    exact ⟨hne i j hi hj hij, h⟩
  refine ring_odd hf (fun i => (l[i]?.getD 0).toNat) l.length (by omega) (fun i hi => ?_) (fun i hi => ?_) ?_
  · have := hb i hi
    show (l[i]?.getD 0).toNat < o.length
    omega
  · exact hlink i (i + 1) (by omega) hi (by omega) (Nat.mod_eq_of_lt hi).symm
  · exact hlink (l.length - 1) 0 (by omega) (by omega) (by omega) (by rw [show l.length - 1 + 1 = l.length from by omega, Nat.mod_self])
end Go.Proofs.Ytmnnehpoaedifaa
/- Layer 2: what is to be shown of the program's functions, so that the laws follow. -/
namespace Go.Proofs.Ytmnnehpoaedifaa
open Go.RowKit

/-- awake answers true. -/
def AwakeOk : Prop := ∀ w : World, Calls Try.prog 22 #[] w fun e w' => e = .returned (.bool true) ∧ Below w.heap.size w w'
/-- Count. -/
def CountOk : Prop := ∀ (n : Int) (w : World), Calls Try.prog 39 #[.int .i64 n] w fun e w' =>
  ∃ c x : Int, e = .returned (.tuple #[.int .i64 c, .int .i64 x]) ∧ (0 ≤ n → n ≤ 30 → c = cat n.toNat ∧ x = 0) ∧ (¬ (0 ≤ n ∧ n ≤ 30) → c = 0 ∧ x = 2) ∧ Below w.heap.size w w'
/-- Sortable. -/
def SortableOk : Prop := ∀ (n k : Int) (w : World), Calls Try.prog 40 #[.int .i64 n, .int .i64 k] w fun e w' =>
  ∃ (v : Value) (x : Int) (zs : List Int), e = .returned (.tuple #[v, .int .i64 x]) ∧ Ow w' w.heap.size 3 v zs ∧ (0 ≤ n → n ≤ 30 → 0 ≤ k → k < cat n.toNat → zs = unrankF n.toNat n.toNat k.toNat 0 ∧ x = 0) ∧
    (¬ (0 ≤ n ∧ n ≤ 30 ∧ 0 ≤ k ∧ k < cat n.toNat) → zs = [] ∧ x = 2) ∧ Below w.heap.size w w'
/-- Stack. -/
def StackOk : Prop := ∀ (A : Option Addr) (n c : Nat) (o : List Int) (w : World), Sl w A n c o → Calls Try.prog 19 #[.slice A n c] w fun e w' =>
  ∃ (p : ByteArray) (v : Value) (x : Int) (b : List Int), e = .returned (.tuple #[.string p, v, .int .i64 x]) ∧ Ow w' w.heap.size 3 v b ∧ p.size ≤ 120 ∧ b.length ≤ 3 ∧
    (ordB o 60 = false → p = ⟨#[]⟩ ∧ b = [] ∧ x = 2) ∧
    (ordB o 60 = true → ascB (passOf o) = true → planB o p.data.toList = true ∧ b = [] ∧ x = 0) ∧
    (ordB o 60 = true → ascB (passOf o) = false → p = ⟨#[]⟩ ∧ sblockB o b = true ∧ x = 0) ∧ Below w.heap.size w w'
/-- CheckStack. -/
def checkStackOf (o : List Int) (p : ByteArray) (b : List Int) : Int :=
  if ordB o 60 = false then 2 else if (planB o p.data.toList = true ∧ b.length = 0) ∨ (p.size = 0 ∧ 0 < o.length ∧ sblockB o b = true) then 0 else 10
def CheckStackOk : Prop := ∀ (A B : Option Addr) (n c m d : Nat) (o b : List Int) (p : ByteArray) (w : World), Sl w A n c o → Sl w B m d b → p.size ≤ 1099511627776 → m ≤ 1099511627776 →
  Calls Try.prog 21 #[.slice A n c, .string p, .slice B m d] w fun e w' => e = .returned (.int .i64 (checkStackOf o p b)) ∧ Below w.heap.size w w'
/-- Queues. -/
def QueuesOk : Prop := ∀ (A : Option Addr) (n c : Nat) (o : List Int) (k : Int) (w : World), Sl w A n c o → Calls Try.prog 26 #[.slice A n c, .int .i64 k] w fun e w' =>
  ∃ (u v : Value) (x : Int) (l b : List Int), e = .returned (.tuple #[u, v, .int .i64 x]) ∧ Ow w' w.heap.size 3 u l ∧ Ow w' w.heap.size 3 v b ∧ l.length ≤ 60 ∧ b.length ≤ 61 ∧
    (¬ (ordB o 60 = true ∧ 1 ≤ k ∧ k ≤ 60) → l = [] ∧ b = [] ∧ x = 2) ∧
    (ordB o 60 = true → 1 ≤ k → k ≤ 60 → leastOf o ≤ k → lanesB o k l = true ∧ b = [] ∧ x = 0) ∧
    (ordB o 60 = true → 1 ≤ k → k ≤ 60 → k < leastOf o → l = [] ∧ qblockB o k b = true ∧ x = 0) ∧ Below w.heap.size w w'
/-- Least. -/
def LeastOk : Prop := ∀ (A : Option Addr) (n c : Nat) (o : List Int) (w : World), Sl w A n c o → Calls Try.prog 27 #[.slice A n c] w fun e w' =>
  ∃ m x : Int, e = .returned (.tuple #[.int .i64 m, .int .i64 x]) ∧ (ordB o 60 = false → m = 0 ∧ x = 2) ∧ (ordB o 60 = true → m = leastOf o ∧ x = 0) ∧ Below w.heap.size w w'
/-- CheckQueues. -/
def checkQueuesOf (o : List Int) (k : Int) (l b : List Int) : Int :=
  if ordB o 60 = true ∧ 1 ≤ k ∧ k ≤ 60 then if (lanesB o k l = true ∧ b.length = 0) ∨ (l.length = 0 ∧ 0 < o.length ∧ qblockB o k b = true) then 0 else 10 else 2
def CheckQueuesOk : Prop := ∀ (A B C : Option Addr) (n c m d r s : Nat) (o l b : List Int) (k : Int) (w : World), Sl w A n c o → Sl w B m d l → Sl w C r s b → m ≤ 1099511627776 → r ≤ 1099511627776 →
  Calls Try.prog 28 #[.slice A n c, .int .i64 k, .slice B m d, .slice C r s] w fun e w' => e = .returned (.int .i64 (checkQueuesOf o k l b)) ∧ Below w.heap.size w w'
/-- Stacks. -/
def StacksOk : Prop := ∀ (A : Option Addr) (n c : Nat) (o : List Int) (w : World), Sl w A n c o → Calls Try.prog 32 #[.slice A n c] w fun e w' =>
  ∃ (u v : Value) (x : Int) (s b : List Int), e = .returned (.tuple #[u, v, .int .i64 x]) ∧ Ow w' w.heap.size 3 u s ∧ Ow w' w.heap.size 3 v b ∧ s.length ≤ 60 ∧ b.length ≤ 121 ∧
    (ordB o 60 = false → s = [] ∧ b = [] ∧ x = 2) ∧
    (ordB o 60 = true → twoB o = true → sidesB o s = true ∧ b = [] ∧ x = 0) ∧
    (ordB o 60 = true → twoB o = false → s = [] ∧ tblockB o b = true ∧ x = 0) ∧ Below w.heap.size w w'
/-- Conflicts. -/
def ConflictsOk : Prop := ∀ (A : Option Addr) (n c : Nat) (o : List Int) (w : World), Sl w A n c o → Calls Try.prog 33 #[.slice A n c] w fun e w' =>
  ∃ (v : Value) (x : Int) (l : List (Nat × Nat)), e = .returned (.tuple #[v, .int .i64 x]) ∧ Ow2 w' w.heap.size 50 v l ∧ (ordB o 60 = false → l = [] ∧ x = 2) ∧ (ordB o 60 = true → l = confAll o n ∧ x = 0) ∧ Below w.heap.size w w'
/-- CheckStacks. -/
def checkStacksOf (o s b : List Int) : Int :=
  if ordB o 60 = false then 2 else if (sidesB o s = true ∧ b.length = 0) ∨ (s.length = 0 ∧ 0 < o.length ∧ tblockB o b = true) then 0 else 10
def CheckStacksOk : Prop := ∀ (A B C : Option Addr) (n c m d r s : Nat) (o l b : List Int) (w : World), Sl w A n c o → Sl w B m d l → Sl w C r s b → m ≤ 1099511627776 → r ≤ 1099511627776 →
  Calls Try.prog 34 #[.slice A n c, .slice B m d, .slice C r s] w fun e w' => e = .returned (.int .i64 (checkStacksOf o l b)) ∧ Below w.heap.size w w'
/-- Rank. -/
def RankFnOk : Prop := ∀ (A : Option Addr) (n c : Nat) (o : List Int) (w : World), Sl w A n c o → Calls Try.prog 44 #[.slice A n c] w fun e w' =>
  ∃ k x : Int, e = .returned (.tuple #[.int .i64 k, .int .i64 x]) ∧ (¬ (ordB o 60 = true ∧ n ≤ 30) → k = 0 ∧ x = 2) ∧ (ordB o 60 = true → n ≤ 30 → ascB (passOf o) = false → k = 0 ∧ x = 6) ∧
    (ordB o 60 = true → n ≤ 30 → ascB (passOf o) = true → k = rankF n o 0 ∧ x = 0) ∧ Below w.heap.size w w'
/-- Pass. -/
def PassOk : Prop := ∀ (A : Option Addr) (n c : Nat) (o : List Int) (w : World), Sl w A n c o → Calls Try.prog 45 #[.slice A n c] w fun e w' =>
  ∃ (v : Value) (x : Int) (l : List Int), e = .returned (.tuple #[v, .int .i64 x]) ∧ Ow w' w.heap.size 3 v l ∧ (ordB o 60 = false → l = [] ∧ x = 2) ∧ (ordB o 60 = true → l = passOf o ∧ x = 0) ∧ Below w.heap.size w w'

/-- list, on what it lists. -/
theorem list_sl (A : Option Addr) (n c : Nat) (zs : List Int) (w : World) (hs : Sl w A n c zs) (m : Nat) (o : List Int) (hm : m = min n 61) (ho : o = zs.take 61) :
    Calls Try.prog 18 #[.slice A n c] w fun e w' => ∃ (B : Option Addr) (d : Nat), e = .returned (.slice B m d) ∧ Sl w' B m d o ∧ Below w.heap.size w w' := by
  subst hm; subst ho
  refine (list_any A n c zs w hs).mono ?_
  rintro e w' ⟨v, rfl, hv, hb⟩
  obtain ⟨B, d, rfl, hsl⟩ := Sl.of_own hv (by omega)
  exact ⟨B, d, rfl, hsl, hb⟩
theorem list_has {w : World} {A : Option Addr} {n c : Nat} {zs : List Int} (hs : Sl w A n c zs) : ∃ (m : Nat) (o : List Int), m = min n 61 ∧ o = zs.take 61 ∧ o.length = m ∧ m ≤ 61 :=
  ⟨_, _, rfl, rfl, by rw [List.length_take, hs.len]; omega, by omega⟩
theorem eqlB_same (xs : List Int) : eqlB xs xs = true := by unfold eqlB; simp
theorem ints_same (A B : Option Addr) (xs : List Int) (n c d : Nat) (w : World) (hl : xs.length = n) (hn : n ≤ 1099511627776) (hr : Rd w A xs) (hs : Rd w B xs) :
    Calls Try.prog 42 #[.slice A n c, .slice B n d] w fun e w' => e = .returned (.bool true) ∧ Dr w w' := by
  refine (ints_any A B _ c _ d xs xs w hl hl hn hn hr hs).mono ?_
  rintro e w' ⟨rfl, hd⟩
  rw [eqlB_same]
  exact ⟨rfl, hd⟩
theorem Ow.sl_len {w : World} {B e n : Nat} {v : Value} {zs : List Int} (h : Ow w B e v zs) (hl : zs.length = n) (hn : n ≤ 1099511627776) : ∃ A c, v = .slice A n c ∧ Sl w A n c zs := by
  subst hl; exact h.sl hn
/-- Order, on a slice. -/
theorem order_sl (A : Option Addr) (n c : Nat) (zs : List Int) (w : World) (hs : Sl w A n c zs) (hn : n ≤ 1099511627776) (b : Bool) (hb : b = ordB zs 60) :
    Calls Try.prog 20 #[.slice A n c, .int .i64 60] w fun e w' => e = .returned (.bool b) ∧ Below w.heap.size w w' := by
  refine (order_any A n c zs 60 w hs.len hn hs.cap hs.rd).mono ?_
  rintro e w' ⟨rfl, hd⟩
  rw [hb]
  exact ⟨rfl, hd.below _⟩
end Go.Proofs.Ytmnnehpoaedifaa
