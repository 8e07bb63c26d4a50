import Derived.Test.YtcnjkdkkflpgnaaT18
/- Layer 8: the orders that layOut finds, as functions; what is so of them. -/
namespace Go.Proofs.Ytcnjkdkkflpgnaa
open Go.RowKit Go.Maps
set_option linter.unusedVariables false

/-- The orders after the first p exchanges of this order have been numbered; their numbers. -/
def exL (L : List (List Int)) (o : List Int) : Nat → List (List Int)
  | 0 => L
  | p + 1 => addO (exL L o p) (movedL o (p + 1) p)
def exN (L : List (List Int)) (o : List Int) (p : Nat) : Int := ((exL L o (p + 1)).idxOf (movedL o (p + 1) p) : Int)
def exR (L : List (List Int)) (o : List Int) (p : Nat) : List Int := (List.range p).map (exN L o)
/-- Order after order. -/
def layG (mm : Nat) : Nat → Nat → List (List Int) → List (List Int) → List (List Int) × List (List Int)
  | 0, _, L, R => (L, R)
  | f + 1, k, L, R => if k < L.length then layG mm f (k + 1) (exL L (ordAt L k) mm) (R ++ [exR L (ordAt L k) mm]) else (L, R)
def layF (m : Nat) : List (List Int) × List (List Int) := layG (m - 1) 50000 0 [o6] []
/-- The rolls that a shorter row does not have are at their places. -/
def TailO (m : Nat) (o : List Int) : Prop := ∀ j, m ≤ j → j < 6 → atI o j = (j : Int)
theorem addO_len (L : List (List Int)) (o : List Int) : L.length ≤ (addO L o).length := by
  unfold addO
  split
  · exact Nat.le_refl _
  · simp
theorem exL_len (L : List (List Int)) (o : List Int) : ∀ p, L.length ≤ (exL L o p).length
  | 0 => Nat.le_refl _
  | p + 1 => Nat.le_trans (exL_len L o p) (addO_len _ _)
theorem addO_at {L : List (List Int)} {o : List Int} {k : Nat} (hk : k < L.length) : ordAt (addO L o) k = ordAt L k := by
  unfold addO
  split
  · rfl
  · unfold ordAt
    rw [List.getElem?_append_left hk]
theorem exL_at {L : List (List Int)} {o : List Int} {k : Nat} (hk : k < L.length) : ∀ p, ordAt (exL L o p) k = ordAt L k
  | 0 => rfl
  | p + 1 => (addO_at (Nat.lt_of_lt_of_le hk (exL_len L o p))).trans (exL_at hk p)
theorem addO_mem {L : List (List Int)} {o : List Int} : o ∈ addO L o := by
  unfold addO
  split
  · assumption
  · simp
theorem addO_nodup {L : List (List Int)} {o : List Int} (h : L.Nodup) : (addO L o).Nodup := by
  unfold addO
  split
  · exact h
  · rename_i hn
    exact List.nodup_append.2 ⟨h, by simp, fun a ha b hb => by simp at hb; subst hb; exact fun e => hn (e ▸ ha)⟩
theorem addO_all {P : List Int → Prop} {L : List (List Int)} {o : List Int} (h : ∀ x ∈ L, P x) (ho : P o) : ∀ x ∈ addO L o, P x := by
  unfold addO
  split
  · exact h
  · intro x hx
    rw [List.mem_append, List.mem_singleton] at hx
    rcases hx with hx | rfl
    · exact h x hx
    · exact ho
theorem ordAt_idx {L : List (List Int)} {o : List Int} (h : o ∈ L) : L.idxOf o < L.length ∧ ordAt L (L.idxOf o) = o := by
  have hl := List.idxOf_lt_length_iff.2 h
  refine ⟨hl, ?_⟩
  unfold ordAt
  rw [List.getElem?_eq_getElem hl, Option.getD_some]
  exact List.getElem_idxOf hl
/-- An exchange leaves the other rolls at their places. -/
theorem witho_at {o : List Int} {p j : Nat} (hp : p < o.length) : atI (witho o p) j = if j < p then atI o j else atI o (j + 1) := by
  unfold witho atI
  by_cases h : j < p
  · rw [if_pos h, List.getElem?_append_left (by rw [List.length_take]; omega), List.getElem?_take, if_pos h]
  · rw [if_neg h, List.getElem?_append_right (by rw [List.length_take]; omega), List.length_take, List.getElem?_drop]
    congr 2
    omega
theorem exch_at {o : List Int} {p j : Nat} (ho : o.length = 6) (hp : p + 1 < 6) : atI (movedL o (p + 1) p) j = if j = p then atI o (p + 1) else if j = p + 1 then atI o p else atI o j := by
  have hw : (witho o (p + 1)).length = 5 := by rw [witho_len ho (by omega)]
  have ht : ((witho o (p + 1)).take p).length = p := by rw [List.length_take, hw]; omega
  have hw2 := fun k => witho_at (o := o) (p := p + 1) (j := k) (by omega)
  unfold movedL
  by_cases h1 : j < p
  · rw [if_neg (by omega), if_neg (by omega)]
    show (((witho o (p + 1)).take p ++ [atI o (p + 1)] ++ (witho o (p + 1)).drop p)[j]?).getD 0 = _
    rw [List.append_assoc, List.getElem?_append_left (by omega), List.getElem?_take, if_pos h1]
    exact (hw2 j).trans (if_pos (by omega))
  · by_cases h2 : j = p
    · rw [if_pos h2]
      show (((witho o (p + 1)).take p ++ [atI o (p + 1)] ++ (witho o (p + 1)).drop p)[j]?).getD 0 = _
      rw [List.append_assoc, List.getElem?_append_right (by omega), ht, h2, Nat.sub_self]
      rfl
    · rw [if_neg h2]
      show (((witho o (p + 1)).take p ++ [atI o (p + 1)] ++ (witho o (p + 1)).drop p)[j]?).getD 0 = _
      rw [List.getElem?_append_right (by rw [List.length_append, ht, List.length_singleton]; omega), List.length_append, ht, List.length_singleton, List.getElem?_drop, show p + (j - (p + 1)) = j - 1 by omega]
      refine (hw2 (j - 1)).trans ?_
      by_cases h3 : j = p + 1
      · rw [if_pos (by omega), if_pos h3, h3]; rfl
      · rw [if_neg (by omega), if_neg h3, show j - 1 + 1 = j by omega]
theorem TailO.exch {m : Nat} {o : List Int} (h : TailO m o) (ho : o.length = 6) (hm : m ≤ 6) {p : Nat} (hp : p + 1 < m) : TailO m (movedL o (p + 1) p) := fun j hj h6 => by
  rw [exch_at ho (by omega), if_neg (by omega), if_neg (by omega)]
  exact h j hj h6
theorem tail_o6 (m : Nat) : TailO m o6 := fun j _ h6 => o6_at j h6
end Go.Proofs.Ytcnjkdkkflpgnaa
/- Layer 8: layOut comes to an end, and what it ends with. -/
namespace Go.Proofs.Ytcnjkdkkflpgnaa
open Go.RowKit Go.Maps
set_option linter.unusedVariables false

theorem nodup_ltN : ∀ (n : Nat) (l : List Nat), l.Nodup → (∀ x ∈ l, x < n) → l.length ≤ n
  | 0, l, _, h => by
    cases l with
    | nil => exact Nat.le_refl _
    | cons x l => have := h x (by simp); omega
  | n + 1, l, hd, h => by
    have h1 := nodup_ltN n (l.erase n) (hd.erase n) (fun x hx => by
      have h2 := h x (List.mem_of_mem_erase hx)
      have h3 : x ≠ n := fun e => by subst e; exact (List.Nodup.not_mem_erase hd) hx
      omega)
    have h4 := List.length_erase (a := n) (l := l)
    split at h4 <;> omega
def codeO (o : List Int) : Nat := (atI o 0).toNat + 6 * ((atI o 1).toNat + 6 * ((atI o 2).toNat + 6 * ((atI o 3).toNat + 6 * ((atI o 4).toNat + 6 * (atI o 5).toNat))))
theorem FullO.digit {o : List Int} (h : FullO o) (k : Nat) : 0 ≤ atI o k ∧ atI o k < 6 := by
  unfold atI
  by_cases hk : k < o.length
  · rw [List.getElem?_eq_getElem hk, Option.getD_some]
    have hm : o[k] ∈ o6 := h.mem_iff.1 (List.getElem_mem hk)
    have hall : ∀ z ∈ o6, 0 ≤ z ∧ z < 6 := by decide
    exact hall _ hm
  · rw [List.getElem?_eq_none (by omega)]
    exact ⟨by decide, by decide⟩
theorem codeO_lt {o : List Int} (h : FullO o) : codeO o < 46656 := by
  have h0 := h.digit 0
  have h1 := h.digit 1
  have h2 := h.digit 2
  have h3 := h.digit 3
  have h4 := h.digit 4
  have h5 := h.digit 5
  unfold codeO
  omega
theorem digit_split {a b x y : Nat} (ha : a < 6) (hb : b < 6) (h : a + 6 * x = b + 6 * y) : a = b ∧ x = y := by omega
theorem toNat_inj {a b : Int} (ha : 0 ≤ a) (hb : 0 ≤ b) (h : a.toNat = b.toNat) : a = b := by omega
theorem FullO.digitN {o : List Int} (h : FullO o) (k : Nat) : (atI o k).toNat < 6 := by have := h.digit k; omega
theorem codeO_inj {o p : List Int} (h : FullO o) (hp : FullO p) (e : codeO o = codeO p) : o = p := by
  unfold codeO at e
  obtain ⟨e0, e⟩ := digit_split (h.digitN 0) (hp.digitN 0) e
  obtain ⟨e1, e⟩ := digit_split (h.digitN 1) (hp.digitN 1) e
  obtain ⟨e2, e⟩ := digit_split (h.digitN 2) (hp.digitN 2) e
  obtain ⟨e3, e⟩ := digit_split (h.digitN 3) (hp.digitN 3) e
  obtain ⟨e4, e5⟩ := digit_split (h.digitN 4) (hp.digitN 4) e
  refine oV_inj h.len hp.len ?_
  unfold oV
  rw [toNat_inj (h.digit 0).1 (hp.digit 0).1 e0, toNat_inj (h.digit 1).1 (hp.digit 1).1 e1, toNat_inj (h.digit 2).1 (hp.digit 2).1 e2, toNat_inj (h.digit 3).1 (hp.digit 3).1 e3, toNat_inj (h.digit 4).1 (hp.digit 4).1 e4, toNat_inj (h.digit 5).1 (hp.digit 5).1 e5]
theorem plI_val : ∀ {zs : List Int} {x : Int} {k : Nat}, plI zs x = some k → atI zs k = x
  | [], x, k, h => by cases h
  | z :: zs, x, k, h => by
    have h : (if z = x then some 0 else (plI zs x).map (· + 1)) = some k := h
    by_cases e : z = x
    · rw [if_pos e] at h; cases h; exact e
    · rw [if_neg e] at h
      cases hp : plI zs x with
      | none => rw [hp] at h; cases h
      | some j =>
        rw [hp] at h
        have := plI_val hp
        cases h
        exact this
theorem ixI_atI {zs : List Int} {x : Int} {k : Nat} (h : ixI zs x = (k : Int)) : atI zs k = x := by
  unfold ixI at h
  split at h
  · rename_i j hj
    have := plI_val hj
    have e : j = k := by omega
    rw [← e]; exact this
  · omega
theorem orders_le {L : List (List Int)} (hd : L.Nodup) (hf : ∀ o ∈ L, FullO o) : L.length ≤ 46656 := by
  have h1 := nodup_ltN 46656 (L.map codeO) (List.pairwise_map.2 (List.Pairwise.imp_of_mem (fun {a b} ha hb hab e => hab (codeO_inj (hf a ha) (hf b hb) e)) hd)) (fun x hx => by
    obtain ⟨y, hy, rfl⟩ := List.mem_map.1 hx
    exact codeO_lt (hf y hy))
  simpa using h1
/-- What holds after k orders have been gone through. -/
structure LayI (m : Nat) (L R : List (List Int)) (k : Nat) : Prop where
  len : R.length = k
  kle : k ≤ L.length
  nd : L.Nodup
  full : ∀ o ∈ L, FullO o
  tail : ∀ o ∈ L, TailO m o
  first : ordAt L 0 = o6
  pos : 0 < L.length
  row : ∀ i, i < k → (ordAt R i).length = m - 1 ∧ ∀ p, p < m - 1 → ∃ q : Nat, atI (ordAt R i) p = (q : Int) ∧ q < L.length ∧ ordAt L q = movedL (ordAt L i) (p + 1) p
theorem LayI.start (m : Nat) : LayI m [o6] [] 0 :=
  ⟨rfl, Nat.zero_le _, by simp, fun o ho => by rw [List.mem_singleton] at ho; subst ho; exact fullO_o6, fun o ho => by rw [List.mem_singleton] at ho; subst ho; exact tail_o6 m, rfl, by decide, fun i hi => absurd hi (Nat.not_lt_zero _)⟩
theorem exL_more {L : List (List Int)} {o : List Int} {p : Nat} : ∀ {q : Nat}, p ≤ q → (exL L o p).length ≤ (exL L o q).length ∧ ∀ k, k < (exL L o p).length → ordAt (exL L o q) k = ordAt (exL L o p) k
  | 0, h => by
    obtain rfl : p = 0 := by omega
    exact ⟨Nat.le_refl _, fun k _ => rfl⟩
  | q + 1, h => by
    by_cases e : p = q + 1
    · subst e
      exact ⟨Nat.le_refl _, fun k _ => rfl⟩
    · obtain ⟨h1, h2⟩ := exL_more (L := L) (o := o) (p := p) (q := q) (by omega)
      exact ⟨Nat.le_trans h1 (addO_len _ _), fun k hk => (addO_at (Nat.lt_of_lt_of_le hk h1)).trans (h2 k hk)⟩
theorem ordAt_mem {L : List (List Int)} {k : Nat} (hk : k < L.length) : ordAt L k ∈ L := by
  unfold ordAt
  rw [List.getElem?_eq_getElem hk]
  exact List.getElem_mem hk
theorem exL_all {m : Nat} {L : List (List Int)} {o : List Int} (hm : m ≤ 6) (hd : L.Nodup) (hf : ∀ o ∈ L, FullO o) (ht : ∀ o ∈ L, TailO m o) (ho : FullO o) (hot : TailO m o) : ∀ p, p ≤ m - 1 → (exL L o p).Nodup ∧ (∀ x ∈ exL L o p, FullO x) ∧ ∀ x ∈ exL L o p, TailO m x
  | 0, _ => ⟨hd, hf, ht⟩
  | p + 1, hp => by
    obtain ⟨h1, h2, h3⟩ := exL_all hm hd hf ht ho hot p (by omega)
    exact ⟨addO_nodup h1, addO_all h2 (ho.moved (by omega) p), addO_all h3 (hot.exch ho.len hm (by omega))⟩
theorem atI_mapN {n : Nat} {f : Nat → Int} {i : Nat} (h : i < n) : atI ((List.range n).map f) i = f i := by rw [atI_map, if_pos h]
theorem LayI.step {m : Nat} {L R : List (List Int)} {k : Nat} (h : LayI m L R k) (hm : m ≤ 6) (hk : k < L.length) : LayI m (exL L (ordAt L k) (m - 1)) (R ++ [exR L (ordAt L k) (m - 1)]) (k + 1) := by
  have ho := h.full _ (ordAt_mem hk)
  have hot := h.tail _ (ordAt_mem hk)
  have hle := exL_len L (ordAt L k) (m - 1)
  obtain ⟨a1, a2, a3⟩ := exL_all hm h.nd h.full h.tail ho hot (m - 1) (Nat.le_refl _)
  refine ⟨by rw [List.length_append, h.len]; rfl, by omega, a1, a2, a3, (exL_at h.pos (m - 1)).trans h.first, Nat.lt_of_lt_of_le h.pos hle, fun i hi => ?_⟩
  by_cases e : i = k
  · subst e
    have hr : ordAt (R ++ [exR L (ordAt L i) (m - 1)]) i = exR L (ordAt L i) (m - 1) := by
      unfold ordAt
      rw [List.getElem?_append_right (by rw [h.len]; exact Nat.le_refl _), h.len, Nat.sub_self]
      rfl
    rw [hr]
    refine ⟨by simp [exR], fun p hp => ?_⟩
    have bb : (exL L (ordAt L i) (p + 1)).idxOf (movedL (ordAt L i) (p + 1) p) < (exL L (ordAt L i) (p + 1)).length ∧ ordAt (exL L (ordAt L i) (p + 1)) ((exL L (ordAt L i) (p + 1)).idxOf (movedL (ordAt L i) (p + 1) p)) = movedL (ordAt L i) (p + 1) p := ordAt_idx (addO_mem (L := exL L (ordAt L i) p) (o := movedL (ordAt L i) (p + 1) p))
    obtain ⟨b1, b2⟩ := bb
    obtain ⟨c1, c2⟩ := exL_more (L := L) (o := ordAt L i) (p := p + 1) (q := m - 1) (by omega)
    refine ⟨(exL L (ordAt L i) (p + 1)).idxOf (movedL (ordAt L i) (p + 1) p), ?_, Nat.lt_of_lt_of_le b1 c1, ?_⟩
    · unfold exR
      rw [atI_mapN hp]
      rfl
    · rw [c2 _ b1, exL_at hk (m - 1)]
      exact b2
  · have hr : ordAt (R ++ [exR L (ordAt L k) (m - 1)]) i = ordAt R i := by
      unfold ordAt
      rw [List.getElem?_append_left (by rw [h.len]; omega)]
    rw [hr]
    obtain ⟨h1, h2⟩ := h.row i (by omega)
    refine ⟨h1, fun p hp => ?_⟩
    obtain ⟨q, e1, e2, e3⟩ := h2 p hp
    exact ⟨q, e1, Nat.lt_of_lt_of_le e2 hle, by rw [exL_at e2, exL_at (by omega : i < L.length)]; exact e3⟩
theorem layG_end {m : Nat} (hm : m ≤ 6) : ∀ f k L R, LayI m L R k → 46656 < f + k → LayI m (layG (m - 1) f k L R).1 (layG (m - 1) f k L R).2 (layG (m - 1) f k L R).1.length
  | 0, k, L, R, h, hf => by
    have := orders_le h.nd h.full
    have := h.kle
    omega
  | f + 1, k, L, R, h, hf => by
    unfold layG
    by_cases hk : k < L.length
    · rw [if_pos hk]
      exact layG_end hm f (k + 1) _ _ (h.step hm hk) (by omega)
    · rw [if_neg hk]
      have : L.length = k := by have := h.kle; omega
      show LayI m L R L.length
      rw [this]
      exact h
theorem LayI.laid {m : Nat} {L R : List (List Int)} (h : LayI m L R L.length) (h1 : 1 ≤ m) (hm : m ≤ 6) : LaidR m L R := by
  refine ⟨h1, hm, h.pos, h.len, fun k hk => ?_, fun k hk r hr => ?_⟩
  · obtain ⟨a, b⟩ := h.row k hk
    exact ⟨a, fun p hp => by obtain ⟨q, e1, e2, _⟩ := b p hp; exact ⟨q, e1, e2⟩⟩
  · obtain ⟨p, e, hp⟩ := (h.full _ (ordAt_mem hk)).place (r := r) (by omega)
    refine ⟨p, e, ?_⟩
    rcases Nat.lt_or_ge p m with hlt | hge
    · exact hlt
    · exfalso
      have ht := h.tail _ (ordAt_mem hk) p hge hp
      have hix : atI (ordAt L k) p = (r : Int) := ixI_atI e
      omega
theorem layF_laid {m : Nat} (h1 : 1 ≤ m) (hm : m ≤ 6) : LaidR m (layF m).1 (layF m).2 := (layG_end hm 50000 0 _ _ (LayI.start m) (by omega)).laid h1 hm
end Go.Proofs.Ytcnjkdkkflpgnaa
