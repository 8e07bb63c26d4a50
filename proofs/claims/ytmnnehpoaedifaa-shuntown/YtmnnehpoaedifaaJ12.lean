import Derived.Test.YtmnnehpoaedifaaJ10
import Derived.Test.YtmnnehpoaedifaaJ07
import Derived.Test.YtmnnehpoaedifaaJ06
/- Plain mathematics of layer 2: how deep each item lies in its longest descent, and the descent that a trace finds. -/
namespace Go.Proofs.Ytmnnehpoaedifaa

/-- The depth of item i and the position before it, from the depths D of those before it, of which the first j are looked at. -/
def dEnd (o D : List Int) (i : Nat) : Nat → Int × Int
  | 0 => (0, 0)
  | j + 1 => if o[i]?.getD 0 < o[j]?.getD 0 ∧ (dEnd o D i j).1 < D[j]?.getD 0 + 1 then (D[j]?.getD 0 + 1, (j : Int)) else dEnd o D i j
def descTo (o : List Int) : Nat → List Int × List Int
  | 0 => (List.replicate o.length 0, List.replicate o.length 0)
  | i + 1 => ((descTo o i).1.set i (dEnd o (descTo o i).1 i i).1, (descTo o i).2.set i (dEnd o (descTo o i).1 i i).2)
def depthsOf (o : List Int) : List Int := (descTo o o.length).1
def beforeOf (o : List Int) : List Int := (descTo o o.length).2
theorem descTo_len (o : List Int) (k : Nat) : (descTo o k).1.length = o.length ∧ (descTo o k).2.length = o.length := by
  induction k with
  | zero => simp [descTo]
  | succ k ih => simp [descTo, ih]
theorem descTo_zero (o : List Int) (k i : Nat) (h : k ≤ i) (hi : i < o.length) : (descTo o k).1[i]?.getD 0 = 0 ∧ (descTo o k).2[i]?.getD 0 = 0 := by
  induction k with
  | zero => simp [descTo, hi]
  | succ k ih =>
    simp only [descTo]
    rw [List.getElem?_set_ne (by omega), List.getElem?_set_ne (by omega)]
    exact ih (by omega)
theorem set_same {l : List Int} {i : Nat} {x : Int} (h : l[i]?.getD 0 = x) (hi : i < l.length) : l.set i x = l := by
  rw [List.getElem?_eq_getElem hi, Option.getD_some] at h
  subst h
  exact List.set_getElem_self hi
/-- The depths are one less than the lengths; the position before is one of a longest descent. -/
theorem dEnd_spec (o : List Int) (i k : Nat) (hk : k ≤ i) (hi : i < o.length) (hD : ∀ j, j < i → (descTo o i).1[j]?.getD 0 + 1 = eAt o j) :
    (dEnd o (descTo o i).1 i k).1 + 1 = endTo o (leastTo o i).1 i k ∧
    (((dEnd o (descTo o i).1 i k).1 = 0 ∧ (dEnd o (descTo o i).1 i k).2 = 0) ∨ ∃ b : Nat, b < k ∧ (dEnd o (descTo o i).1 i k).2 = b ∧ o[i]?.getD 0 < o[b]?.getD 0 ∧ (dEnd o (descTo o i).1 i k).1 = (descTo o i).1[b]?.getD 0 + 1) := by
  induction k with
  | zero => exact ⟨by simp [dEnd, endTo], .inl ⟨rfl, rfl⟩⟩
  | succ k ih =>
    obtain ⟨h1, h2⟩ := ih (by omega)
    have hl : (leastTo o i).1[k]?.getD 0 = eAt o k := least_at o i k (by omega) (by omega)
    have hd := hD k (by omega)
    rw [dEnd, endTo, hl]
    by_cases hlt : o[i]?.getD 0 < o[k]?.getD 0
    · rw [if_pos hlt]
      by_cases hm : (dEnd o (descTo o i).1 i k).1 < (descTo o i).1[k]?.getD 0 + 1
      · rw [if_pos ⟨hlt, hm⟩]
        refine ⟨?_, .inr ⟨k, by omega, rfl, hlt, rfl⟩⟩
        show (descTo o i).1[k]?.getD 0 + 1 + 1 = _
        omega
      · rw [if_neg (fun h => hm h.2)]
        refine ⟨by omega, ?_⟩
        rcases h2 with h2 | ⟨b, a1, a2, a3, a4⟩
        · exact .inl h2
        · exact .inr ⟨b, by omega, a2, a3, a4⟩
    · rw [if_neg hlt, if_neg (fun h => hlt h.1)]
      refine ⟨h1, ?_⟩
      rcases h2 with h2 | ⟨b, a1, a2, a3, a4⟩
      · exact .inl h2
      · exact .inr ⟨b, by omega, a2, a3, a4⟩
structure DescInv (o D P : List Int) (k : Nat) : Prop where
  dep : ∀ j, j < k → D[j]?.getD 0 + 1 = eAt o j
  bef : ∀ j, j < k → (D[j]?.getD 0 = 0 ∧ P[j]?.getD 0 = 0) ∨ ∃ b : Nat, b < j ∧ P[j]?.getD 0 = b ∧ o[j]?.getD 0 < o[b]?.getD 0 ∧ D[j]?.getD 0 = D[b]?.getD 0 + 1
theorem desc_inv (o : List Int) (k : Nat) (hk : k ≤ o.length) : DescInv o (descTo o k).1 (descTo o k).2 k := by
  induction k with
  | zero => exact ⟨by intro j h; omega, by intro j h; omega⟩
  | succ k ih =>
    obtain ⟨h1, h2⟩ := ih (by omega)
    have hlen := descTo_len o k
    have hs := dEnd_spec o k k (Nat.le_refl _) (by omega) h1
    simp only [descTo]
    generalize hD : (descTo o k).1 = D at *
    generalize hP : (descTo o k).2 = P at *
    have e1 : ∀ x : Int, (D.set k x)[k]?.getD 0 = x := fun x => by rw [List.getElem?_set_self (by omega)]; rfl
    have e2 : ∀ x : Int, (P.set k x)[k]?.getD 0 = x := fun x => by rw [List.getElem?_set_self (by omega)]; rfl
    have e3 : ∀ (x : Int) (j : Nat), j < k → (D.set k x)[j]?.getD 0 = D[j]?.getD 0 := fun x j hj => by rw [List.getElem?_set_ne (by omega)]
    have e4 : ∀ (x : Int) (j : Nat), j < k → (P.set k x)[j]?.getD 0 = P[j]?.getD 0 := fun x j hj => by rw [List.getElem?_set_ne (by omega)]
    refine ⟨fun j hj => ?_, fun j hj => ?_⟩
    · by_cases e : j = k
      · subst e
        rw [e1, hs.1]
        rfl
      · rw [e3 _ j (by omega)]
        exact h1 j (by omega)
    · by_cases e : j = k
      · subst e
        rw [e1, e2]
        rcases hs.2 with h | ⟨b, a1, a2, a3, a4⟩
        · exact .inl h
        · exact .inr ⟨b, a1, a2, a3, by rw [e3 _ b a1]; exact a4⟩
      · rw [e3 _ j (by omega), e4 _ j (by omega)]
        rcases h2 j (by omega) with h | ⟨b, a1, a2, a3, a4⟩
        · exact .inl h
        · exact .inr ⟨b, a1, a2, a3, by rw [e3 _ b (by omega)]; exact a4⟩
theorem desc_all (o : List Int) : DescInv o (depthsOf o) (beforeOf o) o.length := desc_inv o o.length (Nat.le_refl _)
theorem depths_len (o : List Int) : (depthsOf o).length = o.length := (descTo_len o _).1
theorem befores_len (o : List Int) : (beforeOf o).length = o.length := (descTo_len o _).2
theorem depth_ge (o : List Int) {i : Nat} (hi : i < o.length) : 0 ≤ (depthsOf o)[i]?.getD 0 := by
  have := (desc_all o).dep i hi
  have := eAt_one o i
  omega
theorem eAt_le (o : List Int) (i : Nat) (hi : i < o.length) : eAt o i ≤ i + 1 := by
  have := (leastTo_bounds o i (by omega)).1
  have := (endTo_bounds o (leastTo o i).1 i i this).2
  exact this
theorem depth_le (o : List Int) {i : Nat} (hi : i < o.length) : (depthsOf o)[i]?.getD 0 ≤ i := by
  have := (desc_all o).dep i hi
  have := eAt_le o i hi
  omega
theorem before_rng (o : List Int) {i : Nat} (hi : i < o.length) : ∃ b : Nat, (beforeOf o)[i]?.getD 0 = b ∧ b ≤ i := by
  rcases (desc_all o).bef i hi with h | ⟨b, a1, a2, _⟩
  · exact ⟨0, h.2, by omega⟩
  · exact ⟨b, a2, by omega⟩
/-- A depth of k or more: then there is one of k. -/
theorem depth_hit (o : List Int) (k : Int) (hk : 0 ≤ k) : ∀ (t i : Nat), i ≤ t → i < o.length → k ≤ (depthsOf o)[i]?.getD 0 → ∃ j, j ≤ i ∧ (depthsOf o)[j]?.getD 0 = k := by
  intro t
  induction t with
  | zero =>
    intro i h1 h2 h3
    have := depth_le o h2
    exact ⟨i, Nat.le_refl _, by omega⟩
  | succ t ih =>
    intro i h1 h2 h3
    by_cases e : (depthsOf o)[i]?.getD 0 = k
    · exact ⟨i, Nat.le_refl _, e⟩
    · rcases (desc_all o).bef i h2 with h | ⟨b, a1, a2, a3, a4⟩
      · exact absurd h.1 (by omega)
      · obtain ⟨j, h4, h5⟩ := ih b (by omega) (by omega) (by omega)
        exact ⟨j, by omega, h5⟩
/-- No depth of k: lanes. -/
theorem lanes_of_depths (o : List Int) (k : Int) (hk : 1 ≤ k) (h : ∀ i, i < o.length → (depthsOf o)[i]?.getD 0 ≠ k) : lanesB o k (depthsOf o) = true := by
  have hlt : ∀ i, i < o.length → (depthsOf o)[i]?.getD 0 < k := fun i hi => by
    rcases Int.lt_or_le ((depthsOf o)[i]?.getD 0) k with h1 | h1
    · exact h1
    · obtain ⟨j, h2, h3⟩ := depth_hit o k (by omega) i i (Nat.le_refl _) hi h1
      exact absurd h3 (h j (by omega))
  unfold lanesB
  rw [Bool.and_eq_true, decide_eq_true_eq]
  refine ⟨depths_len o, allB_iff.2 fun i hi => ?_⟩
  rw [depths_len] at hi
  unfold laneOk laneIn
  simp only [Bool.and_eq_true, decide_eq_true_eq]
  refine ⟨⟨depth_ge o hi, hlt i hi⟩, allB_iff.2 fun j hj => ?_⟩
  unfold pairOk
  simp only [Bool.not_eq_true', Bool.and_eq_false_iff, decide_eq_false_iff_not]
  by_cases he : (depthsOf o)[j]?.getD 0 = (depthsOf o)[i]?.getD 0
  · right
    intro hlt'
    have h1 := (desc_all o).dep i hi
    have h2 := (desc_all o).dep j (by omega)
    have h3 := eAt_step o hi hj hlt'
    omega
  · exact .inl he
theorem least_of_depths (o : List Int) (k : Int) (hk : 1 ≤ k) (h : ∀ i, i < o.length → (depthsOf o)[i]?.getD 0 ≠ k) : leastOf o ≤ k := least_of_lanes hk (lanes_of_depths o k hk h)
/-- The position t steps before e. -/
def stepsAt (P : List Int) (e : Nat) : Nat → Nat
  | 0 => e
  | t + 1 => (P[stepsAt P e t]?.getD 0).toNat
def traceOf (P : List Int) (e n : Nat) : List Nat := (List.range n).map fun i => stepsAt P e (n - 1 - i)
/-- What stands in the block after m steps. -/
def traceTo (P : List Int) (e n m : Nat) : List Int := (List.range n).map fun i => if n ≤ m + i then (stepsAt P e (n - 1 - i) : Int) else 0
theorem traceTo_len (P : List Int) (e n m : Nat) : (traceTo P e n m).length = n := by simp [traceTo]
theorem traceTo_zero (P : List Int) (e n : Nat) : traceTo P e n 0 = List.replicate n 0 := by
  refine List.ext_getElem (by simp [traceTo]) fun i h1 h2 => ?_
  simp [traceTo] at h1
  simp [traceTo]
  omega
theorem traceTo_step (P : List Int) (e n m : Nat) (h : m < n) : (traceTo P e n m).set (n - 1 - m) (stepsAt P e m : Int) = traceTo P e n (m + 1) := by
  refine List.ext_getElem (by simp [traceTo]) fun i h1 h2 => ?_
  rw [List.getElem_set]
  simp only [traceTo, List.getElem_map, List.getElem_range]
  simp [traceTo] at h2
  by_cases hi : n - 1 - m = i
  · rw [if_pos hi, if_pos (by omega), show n - 1 - i = m from by omega]
  · rw [if_neg hi]
    by_cases h3 : n ≤ m + i
    · rw [if_pos h3, if_pos (by omega)]
    · rw [if_neg h3, if_neg (by omega)]
theorem traceTo_all (P : List Int) (e n : Nat) : traceTo P e n n = (traceOf P e n).map Int.ofNat := by
  unfold traceTo traceOf
  rw [List.map_map]
  refine List.map_congr_left fun i hi => ?_
  rw [if_pos (by omega)]
  rfl
theorem steps_rng (o : List Int) (e t : Nat) (h : e < o.length) : stepsAt (beforeOf o) e t ≤ e := by
  induction t with
  | zero => exact Nat.le_refl _
  | succ t ih =>
    obtain ⟨b, h1, h2⟩ := before_rng o (i := stepsAt (beforeOf o) e t) (by omega)
    rw [stepsAt, h1]
    omega
theorem steps_depth (o : List Int) (e : Nat) (h : e < o.length) (k : Nat) (hk : (depthsOf o)[e]?.getD 0 = k) (t : Nat) (ht : t ≤ k) : (depthsOf o)[stepsAt (beforeOf o) e t]?.getD 0 = (k : Int) - t := by
  induction t with
  | zero => rw [stepsAt, hk]; simp
  | succ t ih =>
    have hr := steps_rng o e t h
    have hi := ih (by omega)
    rcases (desc_all o).bef (stepsAt (beforeOf o) e t) (by omega) with h1 | ⟨b, a1, a2, a3, a4⟩
    · rw [h1.1] at hi; omega
    · rw [stepsAt, a2]
      simp only [Int.toNat_natCast]
      omega
theorem steps_next (o : List Int) (e : Nat) (h : e < o.length) (k : Nat) (hk : (depthsOf o)[e]?.getD 0 = k) (t : Nat) (ht : t < k) :
    stepsAt (beforeOf o) e (t + 1) < stepsAt (beforeOf o) e t ∧ at0 o (stepsAt (beforeOf o) e t) < at0 o (stepsAt (beforeOf o) e (t + 1)) := by
  have hr := steps_rng o e t h
  have hi := steps_depth o e h k hk t (by omega)
  rcases (desc_all o).bef (stepsAt (beforeOf o) e t) (by omega) with h1 | ⟨b, a1, a2, a3, a4⟩
  · rw [h1.1] at hi; omega
  · rw [stepsAt, a2]
    simp only [Int.toNat_natCast]
    exact ⟨a1, a3⟩
theorem steps_far (o : List Int) (e : Nat) (h : e < o.length) (k : Nat) (hk : (depthsOf o)[e]?.getD 0 = k) (s d : Nat) (ht : s + d + 1 ≤ k) :
    stepsAt (beforeOf o) e (s + d + 1) < stepsAt (beforeOf o) e s ∧ at0 o (stepsAt (beforeOf o) e s) < at0 o (stepsAt (beforeOf o) e (s + d + 1)) := by
  induction d with
  | zero => exact steps_next o e h k hk s (by omega)
  | succ d ih =>
    have h1 := ih (by omega)
    have h2 := steps_next o e h k hk (s + d + 1) (by omega)
    rw [show s + (d + 1) + 1 = s + d + 1 + 1 from by omega]
    exact ⟨by omega, by omega⟩
/-- The trace from a depth of k is a block for k queues. -/
theorem trace_block (o : List Int) (e : Nat) (h : e < o.length) (k : Nat) (hk : (depthsOf o)[e]?.getD 0 = k) : qblockB o k ((traceOf (beforeOf o) e (k + 1)).map Int.ofNat) = true := by
  refine qblock_of_desc ⟨?_, fun i hi => ?_⟩ (by simp [traceOf])
  · unfold traceOf
    rw [List.pairwise_map]
    refine List.Pairwise.imp_of_mem ?_ (List.pairwise_lt_range (n := k + 1))
    intro i j hi hj hij
    have hi := List.mem_range.1 hi
    have hj := List.mem_range.1 hj
    have := steps_far o e h k hk (k + 1 - 1 - j) (j - i - 1) (by omega)
    rw [show k + 1 - 1 - j + (j - i - 1) + 1 = k + 1 - 1 - i from by omega] at this
    exact this
  · obtain ⟨t, _, rfl⟩ := List.mem_map.1 hi
    have := steps_rng o e (k + 1 - 1 - t) h
    omega
theorem least_gt_depth (o : List Int) (e : Nat) (h : e < o.length) (k : Int) (hk : (depthsOf o)[e]?.getD 0 = k) : k < leastOf o := by
  have h1 := (desc_all o).dep e h
  have h2 := (least_ge o o.length).2 e h
  unfold leastOf
  omega
/-- Least, item by item. -/
theorem least_next (o : List Int) (k : Nat) (hk : k < o.length) : (leastTo o (k + 1)).2 = max (leastTo o k).2 ((depthsOf o)[k]?.getD 0 + 1) := by
  rw [(desc_all o).dep k hk]
  rfl
end Go.Proofs.Ytmnnehpoaedifaa
/- Plain mathematics of layer 2: conflicts by the smallest item after a position. -/
namespace Go.Proofs.Ytmnnehpoaedifaa

/-- The smallest of the last t items, n + 1 if there is none. -/
def lowF (o : List Int) : Nat → Int
  | 0 => (o.length : Int) + 1
  | t + 1 => min (lowF o t) (o[o.length - 1 - t]?.getD 0)
theorem lowF_lt (o : List Int) (x : Int) (hx : x ≤ o.length) (t : Nat) (ht : t ≤ o.length) : lowF o t < x ↔ ∃ c, o.length - t ≤ c ∧ c < o.length ∧ o[c]?.getD 0 < x := by
  induction t with
  | zero =>
    constructor
    · intro h; simp [lowF] at h; omega
    · rintro ⟨c, h1, h2, _⟩; omega
  | succ t ih =>
    have ih := ih (by omega)
    rw [lowF]
    constructor
    · intro h
      by_cases h1 : lowF o t < x
      · obtain ⟨c, a, b, d⟩ := ih.1 h1
        exact ⟨c, by omega, b, d⟩
      · exact ⟨o.length - 1 - t, by omega, by omega, by omega⟩
    · rintro ⟨c, h1, h2, h3⟩
      by_cases h4 : c = o.length - 1 - t
      · subst h4; omega
      · have := ih.2 ⟨c, by omega, h2, h3⟩
        omega
theorem lowF_le (o : List Int) (t : Nat) : lowF o t ≤ (o.length : Int) + 1 := by
  induction t with
  | zero => exact Int.le_refl _
  | succ t ih => rw [lowF]; omega
/-- The list of these, position by position. -/
def lows (o : List Int) : List Int := (List.range o.length).map fun i => lowF o (o.length - 1 - i)
def lowsTo (o : List Int) (m : Nat) : List Int := (List.range o.length).map fun i => if o.length ≤ m + i then lowF o (o.length - 1 - i) else 0
theorem lowsTo_len (o : List Int) (m : Nat) : (lowsTo o m).length = o.length := by simp [lowsTo]
theorem lows_len (o : List Int) : (lows o).length = o.length := by simp [lows]
theorem lowsTo_zero (o : List Int) : lowsTo o 0 = List.replicate o.length 0 := by
  refine List.ext_getElem (by simp [lowsTo]) fun i h1 h2 => ?_
  simp [lowsTo] at h1
  simp [lowsTo]
  omega
theorem lowsTo_step (o : List Int) (m : Nat) (h : m < o.length) : (lowsTo o m).set (o.length - 1 - m) (lowF o m) = lowsTo o (m + 1) := by
  refine List.ext_getElem (by simp [lowsTo]) fun i h1 h2 => ?_
  rw [List.getElem_set]
  simp only [lowsTo, List.getElem_map, List.getElem_range]
  simp [lowsTo] at h2
  by_cases hi : o.length - 1 - m = i
  · rw [if_pos hi, if_pos (by omega), show o.length - 1 - i = m from by omega]
  · rw [if_neg hi]
    by_cases h3 : o.length ≤ m + i
    · rw [if_pos h3, if_pos (by omega)]
    · rw [if_neg h3, if_neg (by omega)]
theorem lowsTo_all (o : List Int) : lowsTo o o.length = lows o := by
  unfold lowsTo lows
  refine List.map_congr_left fun i hi => ?_
  rw [if_pos (by omega)]
theorem lows_at (o : List Int) {b : Nat} (hb : b < o.length) : (lows o)[b]?.getD 0 = lowF o (o.length - 1 - b) := by
  unfold lows
  rw [List.getElem?_map, List.getElem?_range hb]
  rfl
/-- Two positions are in conflict. -/
theorem conf_low {o : List Int} (h : Ord o) {a b : Nat} (ha : a < o.length) (hb : b < o.length) :
    confB o a b = (decide (o[a]?.getD 0 < o[b]?.getD 0) && decide ((lows o)[b]?.getD 0 < o[a]?.getD 0)) := by
  have hlow := lowF_lt o (o[a]?.getD 0) (h.hi a ha) (o.length - 1 - b) (by omega)
  rw [lows_at o hb]
  have hc : confB o a b = true ↔ (o[a]?.getD 0 < o[b]?.getD 0 ∧ lowF o (o.length - 1 - b) < o[a]?.getD 0) := by
    rw [hlow]
    unfold confB
    rw [Bool.not_eq_true', Bool.eq_false_iff, Ne, allB_iff]
    constructor
    · intro hn
      rcases Classical.em (∃ j, j < o.length - (b + 1) ∧ confAt o a b (b + 1 + j) = true) with ⟨j, hj, h1⟩ | he
      · unfold confAt at h1
        simp only [Bool.and_eq_true, decide_eq_true_eq] at h1
        exact ⟨h1.2, b + 1 + j, by omega, by omega, h1.1⟩
      · exfalso
        refine hn fun j hj => ?_
        rcases hx : confAt o a b (b + 1 + j) with _ | _
        · rfl
        · exact absurd ⟨j, hj, hx⟩ he
    · rintro ⟨h1, c, h2, h3, h4⟩ hall
      have := hall (c - (b + 1)) (by omega)
      rw [show b + 1 + (c - (b + 1)) = c from by omega] at this
      unfold confAt at this
      simp only [Bool.not_eq_true', Bool.and_eq_false_iff, decide_eq_false_iff_not] at this
      rcases this with h5 | h5
      · exact h5 h4
      · exact h5 h1
  rw [Bool.eq_iff_iff, hc]
  simp
end Go.Proofs.Ytmnnehpoaedifaa
/- Contract of package shunt: isOrder; arrays that are local to a call. -/
namespace Go.Proofs.Ytmnnehpoaedifaa
open Go.RowKit

/-- Block g is an array of n cells that reads as f. -/
structure Ar (w : World) (g n : Nat) (f : Nat → Value) : Prop where
  cell : ∀ i, i < n → w.cell? ⟨g, i, none⟩ = some (f i)
  free : ∀ i, i < n → w.frozen? ⟨g, i, none⟩ = false
  lt : g < w.heap.size
theorem Ar.put {w : World} {g n : Nat} {f f' : Nat → Value} (h : Ar w g n f) (j : Nat) (x : Value) (hj : j < n) (hf : ∀ i, i < n → f' i = if i = j then x else f i) : Ar (w.setCell ⟨g, j, none⟩ x) g n f' := by
  refine ⟨fun i hi => ?_, fun i hi => by rw [World.frozen?_setCell]; exact h.free i hi, by simpa using h.lt⟩
  by_cases e : i = j
  · subst e
    rw [World.cell?_setCell_same' _ _ _ (by rw [h.cell i hi]; rfl), hf i hi, if_pos rfl]
  · rw [World.cell?_setCell_other w ⟨g, j, none⟩ ⟨g, i, none⟩ x (fun e' => by injection e' with _ e2; omega), hf i hi, if_neg e]
    exact h.cell i hi
theorem Ar.made (w : World) {n t : Nat} {x : Value} {arr : Array Value} (h : arr = Array.replicate n x) : Ar (w.alloc (.cells arr t)) w.heap.size n (fun _ => x) := by
  subst h
  refine ⟨fun i hi => ?_, fun i hi => by simp, by simp⟩
  simp [hi]
theorem Ar.drewN {w : World} {g n : Nat} {f : Nat → Value} (h : Ar w g n f) (k : Nat) : Ar (w.drewN k) g n f := ⟨h.cell, h.free, h.lt⟩
theorem ordB_long {zs : List Int} {m : Int} (h : m < zs.length) : false = ordB zs m := by
  unfold ordB
  rw [decide_eq_false (by omega), Bool.and_false]

set_option maxHeartbeats 1600000 in
theorem isOrder_any (A : Option Addr) (n c : Nat) (zs : List Int) (w : World) (hs : Sl w A n c zs) :
    Calls Try.prog 52 #[.slice A n c] w fun e w' => e = .returned (.bool (ordB zs 60)) ∧ Below w.heap.size w w' := by
  have hcap := hs.cap
  have hbig := hs.big
  have HS := Lib.hid hs; clear hs
  by_cases h60 : n ≤ 60
  · have g0 : decide ((n : Int) > 60) = false := by simp; omega
    go_enter Try.func52, Try.ntmps52
    go_wp2
    have HA0 : Hid (Ar _ _ 61 _) := Ar.made w (n := 61) (t := 84) (x := .bool false) (arr := #[.bool false, .bool false, .bool false, .bool false, .bool false, .bool false, .bool false, .bool false, .bool false, .bool false, .bool false, .bool false, .bool false, .bool false, .bool false, .bool false, .bool false, .bool false, .bool false, .bool false, .bool false, .bool false, .bool false, .bool false, .bool false, .bool false, .bool false, .bool false, .bool false, .bool false, .bool false, .bool false, .bool false, .bool false, .bool false, .bool false, .bool false, .bool false, .bool false, .bool false, .bool false, .bool false, .bool false, .bool false, .bool false, .bool false, .bool false, .bool false, .bool false, .bool false, .bool false, .bool false, .bool false, .bool false, .bool false, .bool false, .bool false, .bool false, .bool false, .bool false, .bool false]) rfl
    go_loopw [5, 11] (fun _ i w' => ∃ k : Nat, k ≤ n ∧ i = .int .i64 k ∧ Hid (∀ j, j < k → okAt zs j = true) ∧ Hid (Ar w' w.heap.size 61 (fun j => .bool (hasB (zs.take k) (j : Int)))) ∧ Below w.heap.size w w') (fun _ i _ => n - (intOf i).toNat)
    case atStart => exact ⟨0, by omega, by go_num, fun j hj => absurd hj (by omega), HA0, (Below.refl _ _).alloc (Nat.le_refl _) _⟩
    case round =>
      obtain ⟨k, hk, rfl, HOK, HA, hW⟩ := hrel
      have hsz := hW.size
      by_cases hlt : k < n
      · obtain ⟨b0, off0, rfl, hcx⟩ := HS.out.at_ hlt
        have hb0 := HS.out.old b0 off0 rfl (by omega)
        have hcxr := (hW.cell (p := ⟨b0, off0 + k, none⟩) hb0).trans hcx
        clear hcx
        obtain ⟨x, hx⟩ : ∃ x, x = zs[k]?.getD 0 := ⟨_, rfl⟩
        rw [← hx] at hcxr
        have HX := Lib.hid hx; clear hx
        by_cases h1 : x < 1
        · have g1 : decide (x < 1) = true := by simpa using h1
          have HB : Hid (false = ordB zs 60) := ordB_bad (k := k) (by rw [HS.out.len]; exact hlt) (by unfold okAt; rw [← HX.out, decide_eq_false (by omega)]; rfl)
          go_wp2
          go_ret
          exact ⟨bend HB.out, hW⟩
        · have g1 : decide (x < 1) = false := by simpa using h1
          by_cases h2 : x > n
          · have g2 : decide (x > (n : Int)) = true := by simpa using h2
            have HB : Hid (false = ordB zs 60) := ordB_bad (k := k) (by rw [HS.out.len]; exact hlt) (by unfold okAt; rw [← HX.out, HS.out.len, decide_eq_false (p := x ≤ (n : Int)) (by omega), Bool.and_false, Bool.false_and])
            go_wp2
            go_ret
            exact ⟨bend HB.out, hW⟩
          · have g2 : decide (x > (n : Int)) = false := by simpa using h2
            obtain ⟨z, rfl⟩ : ∃ z : Nat, x = z := ⟨x.toNat, by omega⟩
            have hz1 : 1 ≤ z := by omega
            have hz2 : z ≤ n := by omega
            have hz3 : z < 61 := by omega
            have hcz := HA.out.cell z hz3
            have hfz := HA.out.free z hz3
            clear h1 h2
            cases hh : hasB (zs.take k) (z : Int) with
            | true =>
              rw [hh] at hcz
              have HB : Hid (false = ordB zs 60) := ordB_bad (k := k) (by rw [HS.out.len]; exact hlt) (by unfold okAt; rw [← HX.out, hh]; simp)
              have HH := Lib.hid hh; clear hh
              go_wp2
              go_ret
              exact ⟨bend HB.out, hW⟩
            | false =>
              rw [hh] at hcz
              have HN : Hid (∀ j, j < k + 1 → okAt zs j = true) := ok_step HOK.out (by unfold okAt; rw [← HX.out, hh, HS.out.len, decide_eq_true (by omega), decide_eq_true (by omega)]; rfl)
              have HP : Hid (Ar (wr.setCell ⟨w.heap.size, z, none⟩ (.bool true)) w.heap.size 61 (fun j => .bool (hasB (zs.take (k + 1)) (j : Int)))) := by
                refine HA.out.put z _ hz3 fun j _ => ?_
                have hl : k < zs.length := by rw [HS.out.len]; exact hlt
                by_cases e : j = z
                · subst e
                  rw [if_pos rfl, has_stop (zs.take (k + 1)) (j : Int) k (by rw [List.length_take]; omega) (by rw [List.getElem?_take_of_lt (by omega)]; exact HX.out.symm)]
                · rw [if_neg e]
                  congr 1
                  cases hj : hasB (zs.take k) (j : Int) with
                  | true => rw [hasB_take] at hj ⊢; obtain ⟨i, a, b, c⟩ := hj; exact ⟨i, by omega, b, c⟩
                  | false => exact has_step zs (j : Int) k hl hj (fun e' => e (by have := HX.out; omega))
              have HH := Lib.hid hh; clear hh
              go_wp2
              go_roundw
              case rel => exact ⟨k + 1, by omega, by go_num, HN, HP, hW.setCell (p := ⟨w.heap.size, z, none⟩) (Nat.le_refl _) _⟩
              case measure => simp [intOf]; omega
      · have hkn : k = n := by omega
        subst hkn
        have HB : Hid (true = ordB zs 60) := by
          have := ordB_good (zs := zs) (m := 60) HS.out.len HOK.out
          rw [Hid, ← this, decide_eq_true (by omega)]
        go_wp2
        go_ret
        exact ⟨bend HB.out, hW⟩
  · have g0 : decide ((n : Int) > 60) = true := by simp; omega
    have HB : Hid (false = ordB zs 60) := ordB_long (by rw [HS.out.len]; omega)
    go_enter Try.func52, Try.ntmps52
    go_wp2
    go_ret
    exact ⟨bend HB.out, Below.refl _ _⟩
end Go.Proofs.Ytmnnehpoaedifaa
/- Contract of package shunt: findBlock. -/
namespace Go.Proofs.Ytmnnehpoaedifaa
open Go.RowKit

/-- Three numbers in a new block. -/
theorem Ow.tri (w : World) (B e : Nat) (x y z : Int) (hB : B ≤ w.heap.size) : Ow (w.alloc (.cells #[.int .i64 x, .int .i64 y, .int .i64 z] e)) B e (.slice (some ⟨w.heap.size, 0, none⟩) 3 3) [x, y, z] := by
  have h := World.ownsRow_lit (base := B) (e := e) (size := 1) w #[.int .i64 x, .int .i64 y, .int .i64 z] 3 hB (by unfold maxLen; omega) rfl
  simpa [Ow] using h

/-- What findBlock hands back. -/
def FoundB (w : World) (B : Nat) (zs : List Int) (v : Value) : Prop :=
  (v = .slice none 0 0 ∧ Good zs) ∨ ∃ (g a b c : Nat), v = .slice (some ⟨g, 0, none⟩) 3 3 ∧ Ow w B 3 v [(a : Int), b, c] ∧ Bad zs a b c

set_option maxHeartbeats 1600000 in
theorem findBlock_any (A : Option Addr) (n c : Nat) (zs : List Int) (w : World) (hs : Sl w A n c zs) (hn : n ≤ 1000) :
    Calls Try.prog 53 #[.slice A n c] w fun e w' => ∃ v, e = .returned v ∧ FoundB w' w.heap.size zs v ∧ Below w.heap.size w w' := by
  have HS := Lib.hid hs; clear hs
  go_enter Try.func53, Try.ntmps53
  go_wp2
  go_loopw [3, 4, 5, 8] (fun _ _ _ i w' => ∃ a : Nat, a ≤ n ∧ i = .int .i64 a ∧ Hid (∀ a' b' c', a' < a → ¬ Bad zs a' b' c') ∧ Dr w w') (fun _ _ _ i _ => n - (intOf i).toNat)
  case atStart => exact ⟨0, by omega, by go_num, fun a' b' c' h => by omega, Dr.refl _⟩
  case round =>
    obtain ⟨a, ha, rfl, HA, hW⟩ := hrel
    by_cases hlt : a < n
    · obtain ⟨wa, rfl⟩ : ∃ wo : World, wo = wr := ⟨_, rfl⟩
      go_wp2
      go_loopw [4, 5] (fun j _ w' => ∃ b : Nat, a + 1 ≤ b ∧ b ≤ n ∧ j = .int .i64 b ∧ Hid (∀ b' c', b' < b → ¬ Bad zs a b' c') ∧ Dr w w') (fun j _ _ => n - (intOf j).toNat)
      case atStart => exact ⟨a + 1, by omega, by omega, by go_num, fun b' c' h hb => by have := hb.1; omega, hW⟩
      case round =>
        obtain ⟨b, hab, hb, rfl, HB, hV⟩ := hrel
        by_cases hlb : b < n
        · obtain ⟨wb, rfl⟩ : ∃ wo : World, wo = wr := ⟨_, rfl⟩
          go_wp2
          go_loopw [5] (fun j w' => ∃ x : Nat, b + 1 ≤ x ∧ x ≤ n ∧ j = .int .i64 x ∧ Hid (∀ c', c' < x → ¬ Bad zs a b c') ∧ Dr w w') (fun j _ => n - (intOf j).toNat)
          case atStart => exact ⟨b + 1, by omega, by omega, by go_num, fun c' h hc => by have := hc.2.1; omega, hV⟩
          case round =>
            obtain ⟨x, hbx, hx, rfl, HC, hU⟩ := hrel
            by_cases hlx : x < n
            · obtain ⟨bb, off, rfl, hc⟩ := HS.out.cells (by omega)
              have hcx := (hU.cell _).trans (hc x hlx)
              have hca := (hU.cell _).trans (hc a hlt)
              have hcb := (hU.cell _).trans (hc b hlb)
              clear hc
              have HBAD : Hid (Bad zs a b x ↔ (zs[x]?.getD 0 < zs[a]?.getD 0 ∧ zs[a]?.getD 0 < zs[b]?.getD 0)) := by
                unfold Bad
                rw [Hid, HS.out.len]
                constructor
                · intro h; exact h.2.2.2
                · intro h; exact ⟨by omega, by omega, by omega, h⟩
              generalize zs[x]?.getD 0 = zx at *
              generalize zs[a]?.getD 0 = za at *
              generalize zs[b]?.getD 0 = zb at *
              by_cases h1 : zx < za
              · have g1 : decide (zx < za) = true := by simpa using h1
                by_cases h2 : za < zb
                · have g2 : decide (za < zb) = true := by simpa using h2
                  have HBB : Hid (Bad zs a b x) := HBAD.out.2 ⟨h1, h2⟩
                  clear h1 h2
                  go_wp2
                  go_quiet (fail)
                  go_wp2
                  go_ret
                  have hd := hU.more nq
                  have hbl := hd.below w.heap.size
                  exact ⟨_, rfl, .inr ⟨_, a, b, x, rfl, Ow.tri _ _ _ _ _ _ hbl.size, HBB.out⟩, hbl.alloc hbl.size _⟩
                · have g2 : decide (za < zb) = false := by simpa using h2
                  have HN : Hid (∀ c', c' < x + 1 → ¬ Bad zs a b c') := fun c' h => by
                    by_cases e : c' = x
                    · subst e; intro hb; exact h2 (HBAD.out.1 hb).2
                    · exact HC.out c' (by omega)
                  clear h1 h2
                  go_wp2
                  go_quiet (fail)
                  go_wp2
                  go_roundw
                  case rel => exact ⟨x + 1, by omega, by omega, by go_num, HN, hU.more _⟩
                  case measure => simp [intOf]; omega
              · have g1 : decide (zx < za) = false := by simpa using h1
                have HN : Hid (∀ c', c' < x + 1 → ¬ Bad zs a b c') := fun c' h => by
                  by_cases e : c' = x
                  · subst e; intro hb; exact h1 (HBAD.out.1 hb).1
                  · exact HC.out c' (by omega)
                clear h1
                go_wp2
                go_quiet (fail)
                go_wp2
                go_roundw
                case rel => exact ⟨x + 1, by omega, by omega, by go_num, HN, hU.more _⟩
                case measure => simp [intOf]; omega
            · go_wp2
              go_roundw
              case rel =>
                refine ⟨b + 1, by omega, by omega, by go_num, fun b' c' h => ?_, hU⟩
                by_cases e : b' = b
                · subst e
                  intro hbad
                  have := hbad.2.2.1
                  rw [HS.out.len] at this
                  exact HC.out c' (by omega) hbad
                · exact HB.out b' c' (by omega)
              case measure => simp [intOf]; omega
        · go_wp2
          go_roundw
          case rel =>
            refine ⟨a + 1, by omega, by go_num, fun a' b' c' h => ?_, hV⟩
            by_cases e : a' = a
            · subst e
              intro hbad
              have h1 := hbad.2.2.1
              have h2 := hbad.2.1
              rw [HS.out.len] at h1
              exact HB.out b' c' (by omega) hbad
            · exact HA.out a' b' c' (by omega)
          case measure => simp [intOf]; omega
    · have HG : Hid (Good zs) := fun a' b' c' hbad => by
        have h1 := hbad.2.2.1
        have h2 := hbad.2.1
        have h3 := hbad.1
        rw [HS.out.len] at h1
        exact HA.out a' b' c' (by omega) hbad
      go_wp2
      go_ret
      exact ⟨_, rfl, .inl ⟨rfl, HG.out⟩, hW.below _⟩
end Go.Proofs.Ytmnnehpoaedifaa
