import Derived.Test.YtmnnehpoaedifaaJ01
/- Plain mathematics of layer 2: a plan that sorts leaves no block; a pass leads to ascending items exactly if there is no block. -/
namespace Go.Proofs.Ytmnnehpoaedifaa

/-- Three positions that one stack can't sort. -/
def Bad (o : List Int) (a b c : Nat) : Prop := a < b ∧ b < c ∧ c < o.length ∧ o[c]?.getD 0 < o[a]?.getD 0 ∧ o[a]?.getD 0 < o[b]?.getD 0
def Good (o : List Int) : Prop := ∀ a b c, ¬ Bad o a b c
/-- Different numbers. -/
def Diff (o : List Int) : Prop := ∀ i j, i < o.length → j < o.length → o[i]?.getD 0 = o[j]?.getD 0 → i = j
def at0 (o : List Int) (i : Nat) : Int := o[i]?.getD 0

/-! A pass -/
/-- The positions on the stack (its top first) and those that have left, after k items. -/
def popP (o : List Int) (x : Int) : List Nat → List Nat → List Nat × List Nat
  | out, [] => (out, [])
  | out, t :: r => if at0 o t < x then popP o x (out ++ [t]) r else (out, t :: r)
def stepP (o : List Int) (s : List Nat × List Nat) (k : Nat) : List Nat × List Nat := ((popP o (at0 o k) s.1 s.2).1, k :: (popP o (at0 o k) s.1 s.2).2)
def toP (o : List Int) : Nat → List Nat × List Nat
  | 0 => ([], [])
  | k + 1 => stepP o (toP o k) k
theorem popP_map (o : List Int) (x : Int) (out r : List Nat) : popR x (out.map (at0 o)) (r.map (at0 o)) = ((popP o x out r).1.map (at0 o), (popP o x out r).2.map (at0 o)) := by
  induction r generalizing out with
  | nil => rfl
  | cons t r ih =>
    simp only [List.map_cons, popR, popP]
    split
    · have := ih (out ++ [t])
      simp only [List.map_append, List.map_cons, List.map_nil] at this
      exact this
    · rfl
theorem toP_map (o : List Int) (k : Nat) (hk : k ≤ o.length) : passTo o k = ((toP o k).1.map (at0 o), (toP o k).2.map (at0 o)) := by
  induction k with
  | zero => rfl
  | succ k ih =>
    rw [passTo_succ o k (by omega), ih (by omega)]
    unfold passStep
    rw [popP_map]
    rfl
/-- What popP does: it moves a beginning of the stack, all of it smaller than x, and what is left on top is not smaller. -/
theorem popP_spec (o : List Int) (x : Int) (out r : List Nat) : ∃ m r', r = m ++ r' ∧ popP o x out r = (out ++ m, r') ∧ (∀ t ∈ m, at0 o t < x) ∧ (∀ t s, r' = t :: s → ¬ at0 o t < x) := by
  induction r generalizing out with
  | nil => exact ⟨[], [], rfl, by simp [popP], by simp, by simp⟩
  | cons t r ih =>
    by_cases h : at0 o t < x
    · obtain ⟨m, r', h1, h2, h3, h4⟩ := ih (out ++ [t])
      refine ⟨t :: m, r', by rw [h1]; rfl, ?_, ?_, h4⟩
      · rw [popP, if_pos h, h2]; simp
      · intro s hs
        rcases List.mem_cons.1 hs with rfl | hs
        · exact h
        · exact h3 s hs
    · refine ⟨[], t :: r, rfl, ?_, by simp, ?_⟩
      · rw [popP, if_neg h]; simp
      · intro t' s e; injection e with e1 _; subst e1; exact h
/-- All positions below k, each once. -/
theorem toP_mem (o : List Int) (k i : Nat) : (i ∈ (toP o k).1 ∨ i ∈ (toP o k).2) ↔ i < k := by
  induction k with
  | zero => simp [toP]
  | succ k ih =>
    obtain ⟨m, r', h1, h2, _, _⟩ := popP_spec o (at0 o k) (toP o k).1 (toP o k).2
    simp only [toP, stepP, h2, List.mem_append, List.mem_cons]
    rw [h1] at ih
    rw [List.mem_append] at ih
    constructor
    · rintro ((h | h) | (h | h))
      · have := ih.1 (.inl h); omega
      · have := ih.1 (.inr (.inl h)); omega
      · omega
      · have := ih.1 (.inr (.inr h)); omega
    · intro h
      by_cases e : i = k
      · exact .inr (.inl e)
      · rcases ih.2 (by omega) with h | h | h
        · exact .inl (.inl h)
        · exact .inl (.inr h)
        · exact .inr (.inr h)
theorem toP_grows (o : List Int) (k j : Nat) (h : k ≤ j) : ∃ v, (toP o j).1 = (toP o k).1 ++ v := by
  induction j with
  | zero => exact ⟨[], by rw [show k = 0 from by omega]; simp⟩
  | succ j ih =>
    by_cases e : k = j + 1
    · exact ⟨[], by rw [e]; simp⟩
    · obtain ⟨v, hv⟩ := ih (by omega)
      obtain ⟨m, r', _, h2, _, _⟩ := popP_spec o (at0 o j) (toP o j).1 (toP o j).2
      exact ⟨v ++ m, by simp only [toP, stepP, h2]; rw [hv]; simp⟩
/-- The stack is ascending, its top first, if the numbers differ. -/
theorem toP_stack (o : List Int) (hd : Diff o) (k : Nat) (hk : k ≤ o.length) : (toP o k).2.Pairwise (fun s t => at0 o s < at0 o t) := by
  induction k with
  | zero => simp [toP]
  | succ k ih =>
    have ih := ih (by omega)
    obtain ⟨m, r', h1, h2, h3, h4⟩ := popP_spec o (at0 o k) (toP o k).1 (toP o k).2
    simp only [toP, stepP, h2]
    rw [h1] at ih
    have hr := (List.pairwise_append.1 ih).2.1
    refine List.pairwise_cons.2 ⟨fun t ht => ?_, hr⟩
    cases r' with
    | nil => cases ht
    | cons u s =>
      have hu := h4 u s rfl
      have hul : u < k := (toP_mem o k u).1 (.inr (by rw [h1]; simp))
      have hne : at0 o u ≠ at0 o k := fun e => by
        have := hd u k (by omega) (by omega) e
        omega
      rcases List.mem_cons.1 ht with rfl | ht
      · omega
      · have := (List.pairwise_cons.1 hr).1 t ht; omega
/-- If a pass leads to ascending items, there is no block. -/
theorem good_of_asc (o : List Int) (hd : Diff o) (h : (passOf o).Pairwise (· < ·)) : Good o := by
  rintro a b c ⟨hab, hbc, hc, h1, h2⟩
  unfold passOf at h
  rw [toP_map o o.length (Nat.le_refl _)] at h
  have ha : a ∈ (toP o (b + 1)).1 := by
    obtain ⟨m, r', e1, e2, _, e4⟩ := popP_spec o (at0 o b) (toP o b).1 (toP o b).2
    have hs := toP_stack o hd b (by omega)
    simp only [toP, stepP, e2]
    rcases (toP_mem o b a).2 hab with hm | hm
    · exact List.mem_append.2 (.inl hm)
    · rw [e1] at hm hs
      rcases List.mem_append.1 hm with hm | hm
      · exact List.mem_append.2 (.inr hm)
      · exfalso
        have hr := (List.pairwise_append.1 hs).2.1
        cases r' with
        | nil => cases hm
        | cons u s =>
          have hu := e4 u s rfl
          have hab' : at0 o a < at0 o b := h2
          rcases List.mem_cons.1 hm with e | hm
          · subst e; exact hu hab'
          · have := (List.pairwise_cons.1 hr).1 a hm; omega
  obtain ⟨v, hv⟩ := toP_grows o (b + 1) o.length (by omega)
  rw [hv, List.map_append, List.append_assoc] at h
  have h3 := (List.pairwise_append.1 h).2.2 (at0 o a) (List.mem_map.2 ⟨a, ha, rfl⟩)
  have hc' : c ∈ v ∨ c ∈ (toP o o.length).2 := by
    rcases (toP_mem o o.length c).2 hc with hm | hm
    · rw [hv] at hm
      rcases List.mem_append.1 hm with hm | hm
      · have := (toP_mem o (b + 1) c).1 (.inl hm); omega
      · exact .inl hm
    · exact .inr hm
  have h4 := h3 (at0 o c) (by
    rw [List.mem_append, List.mem_map, List.mem_map]
    rcases hc' with hm | hm
    · exact .inl ⟨c, hm, rfl⟩
    · exact .inr ⟨c, hm, rfl⟩)
  have h5 : at0 o c < at0 o a := h1
  omega
/-- What holds after k items of an order without a block. -/
structure PassInv (o : List Int) (k : Nat) : Prop where
  out : (toP o k).1.Pairwise (fun s t => at0 o s < at0 o t)
  stack : ∀ s ∈ (toP o k).1, ∀ t ∈ (toP o k).2, at0 o s < at0 o t
  later : ∀ s ∈ (toP o k).1, ∀ t, k ≤ t → t < o.length → at0 o s < at0 o t
theorem pass_inv (o : List Int) (hd : Diff o) (hg : Good o) (k : Nat) (hk : k ≤ o.length) : PassInv o k := by
  induction k with
  | zero => exact ⟨by simp [toP], by simp [toP], by simp [toP]⟩
  | succ k ih =>
    obtain ⟨i1, i2, i3⟩ := ih (by omega)
    obtain ⟨m, r', e1, e2, e3, e4⟩ := popP_spec o (at0 o k) (toP o k).1 (toP o k).2
    have hs := toP_stack o hd k (by omega)
    have hs' := toP_stack o hd (k + 1) hk
    have hmem := fun i => (toP_mem o k i).1
    rw [e1] at hs i2
    simp only [toP, stepP, e2] at hs'
    have hm := List.pairwise_append.1 hs
    have ho : (toP o (k + 1)).1 = (toP o k).1 ++ m := by simp only [toP, stepP, e2]
    have hr : (toP o (k + 1)).2 = k :: r' := by simp only [toP, stepP, e2]
    refine ⟨?_, ?_, ?_⟩
    · rw [ho]
      exact List.pairwise_append.2 ⟨i1, hm.1, fun s hs t ht => i2 s hs t (List.mem_append.2 (.inl ht))⟩
    · rw [ho, hr]
      intro s hs2 t ht
      rcases List.mem_append.1 hs2 with h | h
      · rcases List.mem_cons.1 ht with rfl | ht
        · exact i3 s h t (Nat.le_refl _) (by omega)
        · exact i2 s h t (List.mem_append.2 (.inr ht))
      · rcases List.mem_cons.1 ht with rfl | ht
        · exact e3 s h
        · exact hm.2.2 s h t ht
    · rw [ho]
      intro s hs2 t ht htl
      rcases List.mem_append.1 hs2 with h | h
      · exact i3 s h t (by omega) htl
      · have hsk : s < k := hmem s (.inr (by rw [e1]; exact List.mem_append.2 (.inl h)))
        have hx := e3 s h
        have hb := hg s k t
        have hne : at0 o s ≠ at0 o t := fun e => by
          have := hd s t (by omega) htl e
          omega
        rcases Int.lt_or_le (at0 o s) (at0 o t) with h5 | h5
        · exact h5
        · exact absurd ⟨hsk, by omega, htl, by show at0 o t < at0 o s; omega, hx⟩ hb
/-- If there is no block, a pass leads to ascending items. -/
theorem asc_of_good (o : List Int) (hd : Diff o) (hg : Good o) : (passOf o).Pairwise (· < ·) := by
  obtain ⟨h1, h2, _⟩ := pass_inv o hd hg o.length (Nat.le_refl _)
  have h3 := toP_stack o hd o.length (Nat.le_refl _)
  unfold passOf
  rw [toP_map o o.length (Nat.le_refl _)]
  refine List.pairwise_append.2 ⟨List.pairwise_map.2 h1, List.pairwise_map.2 h3, fun x hx y hy => ?_⟩
  obtain ⟨s, hs, rfl⟩ := List.mem_map.1 hx
  obtain ⟨t, ht, rfl⟩ := List.mem_map.1 hy
  exact h2 s hs t ht
end Go.Proofs.Ytmnnehpoaedifaa
/- Plain mathematics of layer 2: plans of one stack; what a plan sorts has no block. -/
namespace Go.Proofs.Ytmnnehpoaedifaa

/-- One step of a plan, 105 (push) or 111 (pop): the stack (its top first), the next position, the item wanted next; none: it fails. -/
def planStep (o : List Int) (s : List Int × Nat × Nat) (ch : UInt8) : Option (List Int × Nat × Nat) :=
  if ch.toNat = 105 ∧ s.2.1 < o.length then some (o[s.2.1]?.getD 0 :: s.1, s.2.1 + 1, s.2.2)
  else match s.1 with
    | t :: r => if ch.toNat = 111 ∧ t = s.2.2 then some (r, s.2.1, s.2.2 + 1) else none
    | [] => none
def planTo (o : List Int) (p : List UInt8) (k : Nat) : Option (List Int × Nat × Nat) := (p.take k).foldlM (planStep o) ([], 0, 1)
def planB (o : List Int) (p : List UInt8) : Bool := decide (p.length = 2 * o.length) && (planTo o p p.length).isSome
theorem planTo_succ (o : List Int) (p : List UInt8) (k : Nat) (hk : k < p.length) : planTo o p (k + 1) = (planTo o p k).bind fun s => planStep o s p[k] := by
  unfold planTo
  rw [List.take_succ_eq_append_getElem hk, List.foldlM_append]
  rcases List.foldlM (planStep o) ([], 0, 1) (List.take k p) with _ | s
  · rfl
  · simp [List.foldlM]
theorem planTo_none (o : List Int) (p : List UInt8) (k j : Nat) (hkj : k ≤ j) (hj : j ≤ p.length) (h : planTo o p k = none) : planTo o p j = none := by
  induction j with
  | zero => rw [show k = 0 from by omega] at h; exact h
  | succ j ih =>
    by_cases e : k = j + 1
    · rw [← e]; exact h
    · rw [planTo_succ o p j (by omega), ih (by omega) (by omega)]; rfl

/-- What the positions say of a state: those on the stack (its top first), the others of the first nx have left. -/
structure PlanJ (o : List Int) (r : List Int) (nx wa : Nat) (ps : List Nat) : Prop where
  map : r = ps.map (at0 o)
  desc : ps.Pairwise (fun i j => j < i)
  lt : ∀ i ∈ ps, i < nx
  gone : ∀ i, i < nx → i ∈ ps ∨ at0 o i < wa
theorem PlanJ.start (o : List Int) : PlanJ o [] 0 1 [] := ⟨rfl, List.Pairwise.nil, by simp, by intro i h; omega⟩
theorem planStep_cases {o : List Int} {r r' : List Int} {nx wa nx' wa' : Nat} {ch : UInt8} (h : planStep o (r, nx, wa) ch = some (r', nx', wa')) :
    (nx < o.length ∧ r' = at0 o nx :: r ∧ nx' = nx + 1 ∧ wa' = wa) ∨ (r = (wa : Int) :: r' ∧ nx' = nx ∧ wa' = wa + 1) := by
  unfold planStep at h
  split at h
  · rename_i h1
    simp only [Option.some.injEq, Prod.mk.injEq] at h
    exact .inl ⟨h1.2, h.1.symm, h.2.1.symm, h.2.2.symm⟩
  · split at h
    · rename_i t s hr
      split at h
      · rename_i h2
        simp only [Option.some.injEq, Prod.mk.injEq] at h
        obtain ⟨rfl, rfl, rfl⟩ := h
        refine .inr ⟨?_, rfl, rfl⟩
        have hr' : r = t :: s := hr
        have ht : t = (wa : Int) := h2.2
        rw [hr', ht]
      · cases h
    · cases h
theorem PlanJ.step {o : List Int} {r r' : List Int} {nx wa nx' wa' : Nat} {ps : List Nat} {ch : UInt8} (hj : PlanJ o r nx wa ps) (h : planStep o (r, nx, wa) ch = some (r', nx', wa')) : ∃ ps', PlanJ o r' nx' wa' ps' := by
  obtain ⟨h1, h2, h3, h4⟩ := hj
  rcases planStep_cases h with ⟨_, rfl, rfl, rfl⟩ | ⟨hr, rfl, rfl⟩
  · refine ⟨nx :: ps, by rw [h1]; rfl, List.pairwise_cons.2 ⟨fun i hi => h3 i hi, h2⟩, fun i hi => ?_, fun i hi => ?_⟩
    · rcases List.mem_cons.1 hi with rfl | hi
      · omega
      · have := h3 i hi; omega
    · by_cases e : i = nx
      · exact .inl (by rw [e]; simp)
      · rcases h4 i (by omega) with h | h
        · exact .inl (List.mem_cons.2 (.inr h))
        · exact .inr h
  · cases ps with
    | nil => rw [hr] at h1; cases h1
    | cons p ps =>
      rw [hr] at h1
      simp only [List.map_cons, List.cons.injEq] at h1
      refine ⟨ps, h1.2, (List.pairwise_cons.1 h2).2, fun i hi => h3 i (List.mem_cons.2 (.inr hi)), fun i hi => ?_⟩
      rcases h4 i hi with h | h
      · rcases List.mem_cons.1 h with rfl | h
        · right; omega
        · exact .inl h
      · right; omega
/-- The stack of a state from which the rest of the plan goes through to the end is ascending, its top first, from the wanted item on. -/
theorem rest_asc (o : List Int) (p : List UInt8) : ∀ (r : List Int) (nx wa nx' wa' : Nat), p.foldlM (planStep o) (r, nx, wa) = some ([], nx', wa') → r.Pairwise (· < ·) ∧ ∀ x ∈ r, (wa : Int) ≤ x := by
  induction p with
  | nil =>
    intro r nx wa nx' wa' h
    simp only [List.foldlM_nil, pure, Option.some.injEq, Prod.mk.injEq] at h
    rw [h.1]
    exact ⟨List.Pairwise.nil, by simp⟩
  | cons ch p ih =>
    intro r nx wa nx' wa' h
    rw [List.foldlM_cons] at h
    rcases hs : planStep o (r, nx, wa) ch with _ | ⟨r1, nx1, wa1⟩
    · rw [hs] at h; cases h
    · rw [hs] at h
      have h' := ih r1 nx1 wa1 nx' wa' h
      rcases planStep_cases hs with ⟨_, rfl, rfl, rfl⟩ | ⟨hr, rfl, rfl⟩
      · exact ⟨(List.pairwise_cons.1 h'.1).2, fun x hx => h'.2 x (List.mem_cons.2 (.inr hx))⟩
      · rw [hr]
        refine ⟨List.pairwise_cons.2 ⟨fun x hx => ?_, h'.1⟩, fun x hx => ?_⟩
        · have := h'.2 x hx; omega
        · rcases List.mem_cons.1 hx with rfl | hx
          · exact Int.le_refl _
          · have := h'.2 x hx; omega
/-- Counting: pushes, pops, steps. -/
theorem plan_count (o : List Int) (p : List UInt8) : ∀ (r : List Int) (nx wa : Nat) (r' : List Int) (nx' wa' : Nat), nx ≤ o.length → p.foldlM (planStep o) (r, nx, wa) = some (r', nx', wa') →
    nx' ≤ o.length ∧ nx' + wa' = nx + wa + p.length ∧ r'.length + wa' + nx = r.length + wa + nx' := by
  induction p with
  | nil =>
    intro r nx wa r' nx' wa' hn h
    simp only [List.foldlM_nil, pure, Option.some.injEq, Prod.mk.injEq] at h
    obtain ⟨rfl, rfl, rfl⟩ := h
    exact ⟨hn, by simp, rfl⟩
  | cons ch p ih =>
    intro r nx wa r' nx' wa' hn h
    rw [List.foldlM_cons] at h
    rcases hs : planStep o (r, nx, wa) ch with _ | ⟨r1, nx1, wa1⟩
    · rw [hs] at h; cases h
    · rw [hs] at h
      rcases planStep_cases hs with ⟨hlt, rfl, rfl, rfl⟩ | ⟨hr, rfl, rfl⟩
      · have := ih _ _ _ _ _ _ (by omega) h
        simp at this ⊢; omega
      · have := ih _ _ _ _ _ _ hn h
        rw [hr]
        simp at this ⊢; omega
/-- On the way there is a state just behind the push of position c. -/
theorem plan_push (o : List Int) (c : Nat) (p : List UInt8) : ∀ (r : List Int) (nx wa : Nat) (ps : List Nat) (r' : List Int) (nx' wa' : Nat), PlanJ o r nx wa ps → nx ≤ c → c < nx' → p.foldlM (planStep o) (r, nx, wa) = some (r', nx', wa') →
    ∃ (r1 : List Int) (wa1 : Nat) (ps1 : List Nat) (p1 : List UInt8), PlanJ o r1 c wa1 ps1 ∧ PlanJ o (at0 o c :: r1) (c + 1) wa1 (c :: ps1) ∧ p1.foldlM (planStep o) (at0 o c :: r1, c + 1, wa1) = some (r', nx', wa') := by
  induction p with
  | nil =>
    intro r nx wa ps r' nx' wa' _ h1 h2 h
    simp only [List.foldlM_nil, pure, Option.some.injEq, Prod.mk.injEq] at h
    omega
  | cons ch p ih =>
    intro r nx wa ps r' nx' wa' hj h1 h2 h
    rw [List.foldlM_cons] at h
    rcases hs : planStep o (r, nx, wa) ch with _ | ⟨r1, nx1, wa1⟩
    · rw [hs] at h; cases h
    · rw [hs] at h
      obtain ⟨ps', hj'⟩ := hj.step hs
      rcases planStep_cases hs with ⟨hlt, e1, e2, e3⟩ | ⟨hr, e2, e3⟩
      · by_cases e : nx = c
        · subst e
          subst e1 e2 e3
          refine ⟨r, wa1, ps, p, hj, ?_, h⟩
          refine ⟨by rw [hj.map]; rfl, List.pairwise_cons.2 ⟨fun i hi => hj.lt i hi, hj.desc⟩, fun i hi => ?_, fun i hi => ?_⟩
          · rcases List.mem_cons.1 hi with rfl | hi
            · omega
            · have := hj.lt i hi; omega
          · by_cases e : i = nx
            · exact .inl (by rw [e]; simp)
            · rcases hj.gone i (by omega) with h | h
              · exact .inl (List.mem_cons.2 (.inr h))
              · exact .inr h
        · exact ih _ _ _ _ _ _ _ hj' (by omega) h2 h
      · exact ih _ _ _ _ _ _ _ hj' (by omega) h2 h
/-- What a plan sorts has no block. -/
theorem good_of_plan (o : List Int) (p : List UInt8) (h : planB o p = true) : Good o := by
  rintro a b c ⟨hab, hbc, hc, h1, h2⟩
  unfold planB at h
  simp only [Bool.and_eq_true, decide_eq_true_eq] at h
  obtain ⟨hl, hs⟩ := h
  unfold planTo at hs
  rw [List.take_length] at hs
  rcases hf : List.foldlM (planStep o) ([], 0, 1) p with _ | ⟨r', nx', wa'⟩
  · rw [hf] at hs; cases hs
  · obtain ⟨c1, c2, c3⟩ := plan_count o p _ _ _ _ _ _ (by omega) hf
    simp at c3
    have hnx : nx' = o.length := by omega
    have hr : r' = [] := List.eq_nil_of_length_eq_zero (by omega)
    subst hr
    obtain ⟨r1, wa1, ps1, p1, j1, j2, hrest⟩ := plan_push o c p _ _ _ _ _ _ _ (PlanJ.start o) (by omega) (by omega) hf
    have hasc := rest_asc o p1 _ _ _ _ _ hrest
    have hcw := hasc.2 (at0 o c) (by simp)
    have h1' : at0 o c < at0 o a := h1
    have h2' : at0 o a < at0 o b := h2
    have ha : a ∈ ps1 := (j1.gone a (by omega)).resolve_right (by omega)
    have hb : b ∈ ps1 := (j1.gone b (by omega)).resolve_right (by omega)
    have hp := (List.pairwise_cons.1 hasc.1).2
    rw [j1.map] at hp
    have hp' := List.pairwise_map.1 hp
    have hboth := hp'.and j1.desc
    -- b stands above a
    have : ∀ l : List Nat, l.Pairwise (fun i j => at0 o i < at0 o j ∧ j < i) → a ∈ l → b ∈ l → at0 o b < at0 o a := by
      intro l
      induction l with
      | nil => intro _ h; cases h
      | cons x l ih =>
        intro hpw hA hB
        have hx := List.pairwise_cons.1 hpw
        rcases List.mem_cons.1 hA with ea | hA'
        · rcases List.mem_cons.1 hB with eb | hB'
          · omega
          · have := (hx.1 b hB').2; omega
        · rcases List.mem_cons.1 hB with eb | hB'
          · have := (hx.1 a hA').1; rw [eb]; exact this
          · exact ih hx.2 hA' hB'
    have := this ps1 (List.Pairwise.imp (fun h => ⟨h.1, h.2⟩) hboth) ha hb
    omega
end Go.Proofs.Ytmnnehpoaedifaa
/- Contract: OneStack. -/
namespace Go.Proofs.Ytmnnehpoaedifaa
open Go.RowKit

theorem Dr.below {w w' : World} (h : Dr w w') (B : Nat) : Below B w w' := by
  obtain ⟨n, rfl⟩ := h
  exact below_dn (Below.refl _ _) n

theorem oneStack_any (A : Option Addr) (n c : Nat) (zs : List Int) (w : World) (hs : Sl w A n c zs) (hbig : n ≤ 1099511627776) :
    Calls Try.prog 23 #[.slice A n c] w fun e w' => e = .returned (.bool (ascB (passOf zs))) ∧ Below w.heap.size w w' := by
  have HS := Lib.hid hs; clear hs
  have hpl : (passOf zs).length ≤ 1099511627776 := by rw [passOf_len, HS.out.len]; exact hbig
  go_enter Try.func23, Try.ntmps23
  go_wp2_with (go_at_call 46; refine (pass_any A n c zs w HS.out hbig).mono ?_; rintro e w1 ⟨v, rfl, ho, hb⟩; obtain ⟨A', c', rfl, hsl⟩ := ho.sl hpl)
  go_wp2_with (go_at_call 58; refine (ascending_any A' (passOf zs).length c' (passOf zs) w1 rfl hpl hsl.rd).mono ?_; rintro e w2 ⟨rfl, hd⟩)
  go_ret
  exact ⟨rfl, hb.trans (hd.below _)⟩

end Go.Proofs.Ytmnnehpoaedifaa
/- Contract: PlanSorts. -/
namespace Go.Proofs.Ytmnnehpoaedifaa
open Go.RowKit

theorem planTo_byte (o : List Int) (p : ByteArray) (k : Nat) (h : k < p.size) : planTo o p.data.toList (k + 1) = (planTo o p.data.toList k).bind fun s => planStep o s p[k] := by
  rw [planTo_succ o p.data.toList k (by simpa using h)]; rfl
/-- What holds of the state of a plan after k steps. -/
def PlanInv (o : List Int) (p : ByteArray) (k : Nat) (r : List Int) (nx wa : Nat) : Prop := planTo o p.data.toList k = some (r, nx, wa) ∧ nx ≤ o.length ∧ r.length ≤ nx ∧ wa ≤ k + 1 ∧ 1 ≤ wa
theorem PlanInv.push {o : List Int} {p : ByteArray} {k : Nat} {r : List Int} {nx wa : Nat} (h : PlanInv o p k r nx wa) (hk : k < p.size) (h1 : p[k].toNat = 105) (h2 : nx < o.length) : PlanInv o p (k + 1) (o[nx]?.getD 0 :: r) (nx + 1) wa := by
  obtain ⟨a, b, c, d, e⟩ := h
  refine ⟨?_, by omega, by simp; omega, by omega, e⟩
  rw [planTo_byte o p k hk, a]
  simp [planStep, h1, h2]
theorem PlanInv.pop {o : List Int} {p : ByteArray} {k : Nat} {t : Int} {r : List Int} {nx wa : Nat} (h : PlanInv o p k (t :: r) nx wa) (hk : k < p.size) (h1 : p[k].toNat = 111) (h2 : t = wa) : PlanInv o p (k + 1) r nx (wa + 1) := by
  obtain ⟨a, b, c, d, e⟩ := h
  refine ⟨?_, by omega, by simp at c; omega, by omega, by omega⟩
  rw [planTo_byte o p k hk, a]
  simp [planStep, h1, h2]
theorem PlanInv.fails {o : List Int} {p : ByteArray} {k : Nat} {r : List Int} {nx wa : Nat} (h : PlanInv o p k r nx wa) (hk : k < p.size) (hs : planStep o (r, nx, wa) p[k] = none) : false = planB o p.data.toList := by
  have hn : planTo o p.data.toList p.data.toList.length = none := by
    refine planTo_none o p.data.toList (k + 1) _ (by simp; omega) (Nat.le_refl _) ?_
    rw [planTo_byte o p k hk, h.1]
    exact hs
  unfold planB
  rw [hn]
  simp

set_option maxHeartbeats 1600000 in
theorem planSorts_any (A : Option Addr) (n c : Nat) (zs : List Int) (p : ByteArray) (w : World) (hs : Sl w A n c zs) (hbig : n ≤ 1099511627776) (hp : p.size ≤ 1099511627776) :
    Calls Try.prog 24 #[.slice A n c, .string p] w fun e w' => e = .returned (.bool (planB zs p.data.toList)) ∧ Below w.heap.size w w' := by
  have HS := Lib.hid hs; clear hs
  obtain ⟨i0, hi, hz0, hz1, hz2⟩ := info_parts Try.infoInt
  have HI : Hid (Try.prog.info? 3 = some i0 ∧ i0.zero = some (.int .i64 0) ∧ i0.size = 1 ∧ i0.bytes = 8) := ⟨hi, hz0, hz1, hz2⟩
  clear hi hz0 hz1 hz2
  by_cases h2n : p.size = 2 * n
  · have g0 : ((p.size : Int) != 2 * (n : Int)) = false := by simp; omega
    have HB0 : Hid (planB zs p.data.toList = (planTo zs p.data.toList p.data.toList.length).isSome) := by
      unfold planB; rw [Hid, HS.out.len]
      simp [h2n]
    have H2 := Lib.hid h2n; clear h2n
    go_enter Try.func24, Try.ntmps24
    go_wp2
    go_loopw [5, 6, 7, 8] (fun s nxt wnt i w' => ∃ (k : Nat) (r : List Int) (nx wa : Nat), k ≤ p.size ∧ i = .int .i64 k ∧ nxt = .int .i64 nx ∧ wnt = .int .i64 wa ∧ nx ≤ n ∧ wa ≤ k + 1 ∧ Hid (PlanInv zs p k r nx wa) ∧ Hid (Ow w' w.heap.size 3 s r.reverse) ∧ Below w.heap.size w w') (fun _ _ _ i _ => p.size - (intOf i).toNat)
    case atStart => exact ⟨0, [], 0, 1, by omega, rfl, rfl, rfl, by omega, by omega, ⟨rfl, by omega, by simp, by omega, by omega⟩, Ow.nil _ _ _, Below.refl _ _⟩
    case round =>
      obtain ⟨k, r, nx, wa, hk, rfl, rfl, rfl, hnx, hwa, HP, HT, hW⟩ := hrel
      have hsz := hW.size
      by_cases hlt : k < p.size
      · by_cases h105 : p[k].toNat = 105 ∧ nx < n
        · obtain ⟨hc, hx⟩ := h105
          have g1 : ((p[k].toNat : Int) == 105) = true := by rw [hc]; rfl
          obtain ⟨b0, off0, rfl, hcx⟩ := HS.out.at_ hx
          have hb0 := HS.out.old b0 off0 rfl (by omega)
          have hcxr := (hW.cell (p := ⟨b0, off0 + nx, none⟩) hb0).trans hcx
          clear hcx
          have HN := HP.out.push hlt hc (by rw [HS.out.len]; exact hx)
          have HNN := Lib.hid HN; clear HN
          clear hc
          have hrl : r.reverse.length ≤ 1099511627776 := by have := HP.out.2.2.1; rw [List.length_reverse]; omega
          go_wp2_with (at_builtin; go_must (refine push_law _ rfl (.tmp 32) (.tmp 37) 22 rfl w.heap.size 3 i0 Try.underlying22 HI.out _ r.reverse (zs[nx]?.getD 0) rfl rfl HT.out hrl hsz ?_); intro v1 w1 hv1 hg1 hat1; have HV1 := Lib.hid hv1; clear hv1; have HG1 := Lib.hid hg1; clear hg1; have HAT := Lib.hid hat1; clear hat1)
          go_roundw
          case rel => exact ⟨k + 1, _, nx + 1, wa, by omega, by go_num, by go_num, rfl, by omega, by omega, HNN, (by rw [Hid, List.reverse_cons]; exact HV1.out), hW.grown HG1.out hsz (fun j e => (HT.out.lt e).1)⟩
          case measure => simp [intOf]; omega
        · by_cases hd : p[k].toNat = 111
          · have g1 : ((p[k].toNat : Int) == 105) = false := by rw [hd]; rfl
            have g3 : ((p[k].toNat : Int) == 111) = true := by rw [hd]; rfl
            cases r with
            | nil =>
              have HB : Hid (false = planB zs p.data.toList) := HP.out.fails hlt (by unfold planStep; rw [if_neg (by rw [hd]; omega)])
              obtain ⟨A', c', rfl, _⟩ := HT.out.sl (by simp)
              have hl0 : ([] : List Int).reverse.length = 0 := rfl
              rw [hl0] at HT
              rw [hl0]
              clear hl0 hd h105
              go_wp2
              go_ret
              exact ⟨bend HB.out, hW⟩
            | cons t r =>
              have hrn := HP.out.2.2.1
              obtain ⟨g, cap, rfl, hcap, hgB, hgl, hcell⟩ := HT.out.form (by simp)
              obtain ⟨m, hm⟩ : ∃ m, r.length = m := ⟨_, rfl⟩
              have hct := hcell m (by simp; omega)
              rw [← hm, last_rev, hm] at hct
              have hlm : (t :: r).reverse.length = m + 1 := by simp; omega
              rw [hlm] at HT hcap
              rw [hlm]
              clear hcell
              simp only [List.length_cons] at hrn
              have hmb : m < n := by omega
              have HM := Lib.hid hm; clear hm
              have HLM := Lib.hid hlm; clear hlm
              by_cases ht : t = wa
              · have g4 : (t == (wa : Int)) = true := by simpa using ht
                have HNN := Lib.hid (HP.out.pop hlt hd ht)
                clear ht hd h105 hrn
                go_wp2
                go_roundw
                case rel =>
                  refine ⟨k + 1, r, nx, wa + 1, by omega, by go_num, rfl, by go_num, by omega, by omega, HNN, ?_, hW⟩
                  have h := HT.out
                  rw [List.reverse_cons] at h
                  have h' := h.pop (by rw [List.length_reverse, HM.out])
                  rw [List.length_reverse, HM.out] at h'
                  exact h'
                case measure => simp [intOf]; omega
              · have g4 : (t == (wa : Int)) = false := by simpa using ht
                have HB : Hid (false = planB zs p.data.toList) := HP.out.fails hlt (by unfold planStep; rw [if_neg (by rw [hd]; omega)]; simp [ht])
                clear ht hd h105 hrn
                go_wp2
                go_ret
                exact ⟨bend HB.out, hW⟩
          · have g3 : ((p[k].toNat : Int) == 111) = false := by simp; omega
            have HB : Hid (false = planB zs p.data.toList) := HP.out.fails hlt (by unfold planStep; rw [if_neg (by rw [HS.out.len]; exact h105)]; cases r <;> simp [hd])
            by_cases hc : p[k].toNat = 105
            · have g1 : ((p[k].toNat : Int) == 105) = true := by rw [hc]; rfl
              have hx : ¬ nx < n := fun h => h105 ⟨hc, h⟩
              clear hc hd h105
              go_wp2
              go_ret
              exact ⟨bend HB.out, hW⟩
            · have g1 : ((p[k].toNat : Int) == 105) = false := by simp; omega
              clear hc hd h105
              go_wp2
              go_ret
              exact ⟨bend HB.out, hW⟩
      · have HB : Hid (true = planB zs p.data.toList) := by
          rw [Hid, HB0.out, show p.data.toList.length = k from by simp; omega, HP.out.1]; rfl
        go_wp2
        go_ret
        exact ⟨bend HB.out, hW⟩
  · have g0 : ((p.size : Int) != 2 * (n : Int)) = true := by simp; omega
    have HB : Hid (false = planB zs p.data.toList) := by
      unfold planB; rw [Hid, HS.out.len]
      simp [h2n]
    clear h2n
    go_enter Try.func24, Try.ntmps24
    go_wp2
    go_ret
    exact ⟨bend HB.out, Below.refl _ _⟩
end Go.Proofs.Ytmnnehpoaedifaa
/- Plain mathematics of layer 2: orders made from any list. -/
namespace Go.Proofs.Ytmnnehpoaedifaa

/-- Item k of the list comes before item i: it is smaller, or equal and further to the front. -/
def beforeB (l : List Int) (i k : Nat) : Bool := decide (l[k]?.getD 0 < l[i]?.getD 0) || (decide (l[k]?.getD 0 = l[i]?.getD 0) && decide (k < i))
/-- 1 and the number of the items below k that come before item i. -/
def rankTo (l : List Int) (i k : Nat) : Nat := 1 + ((List.range k).filter (beforeB l i)).length
theorem rankTo_zero (l : List Int) (i : Nat) : rankTo l i 0 = 1 := rfl
theorem rankTo_yes {l : List Int} {i k : Nat} (h : beforeB l i k = true) : rankTo l i (k + 1) = rankTo l i k + 1 := by
  unfold rankTo
  rw [List.range_succ, List.filter_append]
  simp [h]
  omega
theorem rankTo_no {l : List Int} {i k : Nat} (h : beforeB l i k = false) : rankTo l i (k + 1) = rankTo l i k := by
  unfold rankTo
  rw [List.range_succ, List.filter_append]
  simp [h]
theorem rankTo_le (l : List Int) (i k : Nat) : rankTo l i k ≤ k + 1 := by
  unfold rankTo
  have := List.length_filter_le (beforeB l i) (List.range k)
  rw [List.length_range] at this
  omega
/-- The order of the first n items of a list. -/
def tameOf (l : List Int) (n : Nat) : List Int := (List.range n).map fun i => (rankTo l i n : Int)
theorem tameOf_len (l : List Int) (n : Nat) : (tameOf l n).length = n := by unfold tameOf; simp
theorem tameOf_at (l : List Int) (n i : Nat) (h : i < n) : (tameOf l n)[i]?.getD 0 = rankTo l i n := by
  unfold tameOf
  rw [List.getElem?_map, List.getElem?_range h]
  rfl
theorem tameOf_take (l : List Int) (n i : Nat) (h : i < n) : (tameOf l n).take (i + 1) = (tameOf l n).take i ++ [(rankTo l i n : Int)] := by
  rw [List.take_succ_eq_append_getElem (by rw [tameOf_len]; exact h)]
  have := tameOf_at l n i h
  rw [List.getElem?_eq_getElem (by rw [tameOf_len]; exact h), Option.getD_some] at this
  rw [this]

/-! The ranks are different numbers from 1 to n. -/
theorem before_irrefl (l : List Int) (i : Nat) : beforeB l i i = false := by unfold beforeB; simp
theorem before_trans {l : List Int} {a b c : Nat} (h1 : beforeB l b a = true) (h2 : beforeB l c b = true) : beforeB l c a = true := by
  unfold beforeB at *
  simp only [Bool.or_eq_true, Bool.and_eq_true, decide_eq_true_eq] at *
  omega
theorem before_total {l : List Int} {a b : Nat} (h : a ≠ b) : beforeB l b a = true ∨ beforeB l a b = true := by
  unfold beforeB
  simp only [Bool.or_eq_true, Bool.and_eq_true, decide_eq_true_eq]
  omega
theorem filter_lt {p q : Nat → Bool} {l : List Nat} (hpq : ∀ x, p x = true → q x = true) {y : Nat} (hy : y ∈ l) (hp : p y = false) (hq : q y = true) : (l.filter p).length < (l.filter q).length := by
  induction l with
  | nil => cases hy
  | cons a l ih =>
    have hle : (l.filter p).length ≤ (l.filter q).length := by
      clear ih hy
      induction l with
      | nil => simp
      | cons b l ih2 =>
        rw [List.filter_cons, List.filter_cons]
        by_cases hb : p b = true
        · rw [if_pos hb, if_pos (hpq b hb)]; simp; exact ih2
        · rw [if_neg hb]
          split
          · simp; omega
          · exact ih2
    rw [List.filter_cons, List.filter_cons]
    rcases List.mem_cons.1 hy with rfl | hm
    · rw [if_neg (by rw [hp]; simp), if_pos hq]; simp; omega
    · have := ih hm
      by_cases ha : p a = true
      · rw [if_pos ha, if_pos (hpq a ha)]; simp; exact this
      · rw [if_neg ha]
        split
        · simp; omega
        · exact this
theorem rank_lt {l : List Int} {n a b : Nat} (ha : a < n) (h : beforeB l b a = true) : rankTo l a n < rankTo l b n := by
  unfold rankTo
  have := filter_lt (p := beforeB l a) (q := beforeB l b) (l := List.range n) (fun x hx => before_trans hx h) (List.mem_range.2 ha) (before_irrefl l a) h
  omega
theorem rank_inj {l : List Int} {n a b : Nat} (ha : a < n) (hb : b < n) (h : rankTo l a n = rankTo l b n) : a = b := by
  by_cases e : a = b
  · exact e
  · rcases before_total (l := l) e with h1 | h1
    · have := rank_lt ha h1; omega
    · have := rank_lt hb h1; omega
theorem rank_le {l : List Int} {n a : Nat} (ha : a < n) : rankTo l a n ≤ n := by
  unfold rankTo
  have := filter_lt (p := beforeB l a) (q := fun _ => true) (l := List.range n) (fun _ _ => rfl) (List.mem_range.2 ha) (before_irrefl l a) rfl
  rw [List.filter_eq_self.2 (fun _ _ => rfl), List.length_range] at this
  omega
theorem rank_ge (l : List Int) (n a : Nat) : 1 ≤ rankTo l a n := by unfold rankTo; omega
end Go.Proofs.Ytmnnehpoaedifaa
