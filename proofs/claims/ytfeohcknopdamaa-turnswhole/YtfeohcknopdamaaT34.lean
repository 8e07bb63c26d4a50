import Derived.Test.YtfeohcknopdamaaT16
import Derived.Test.YtfeohcknopdamaaT09
/- Layer 10: orders, their positions, adjacent orders; plain mathematics. -/
namespace Go.Proofs.Ytfeohcknopdamaa
set_option linter.unusedVariables false

def upTo (n : Nat) (l : List Int) : List Int := l.filter fun x => decide (x ≤ (n : Int))
def ixN (l : List Int) (x : Int) : Nat := l.findIdx fun y => decide (y = x)
/-- The position of an order. -/
def rkO : Nat → List Int → Nat
  | 0, _ => 0
  | n + 1, l => (n + 1) * rkO n (upTo n l) + dirN (n + 1) (decide (rkO n (upTo n l) % 2 = 0)) (ixN l ((n + 1 : Nat) : Int))
/-- An order of the numbers from 1 to n. -/
structure OrP (n : Nat) (l : List Int) : Prop where
  len : l.length = n
  rng : ∀ x, x ∈ l → 1 ≤ x ∧ x ≤ (n : Int)
  nd : l.Nodup
theorem mem_split {x : Int} {l : List Int} (h : x ∈ l) (hn : l.Nodup) : ∃ s t, l = s ++ x :: t ∧ x ∉ s ∧ x ∉ t ∧ (s ++ t).Nodup := by
  obtain ⟨s, t, rfl⟩ := List.append_of_mem h
  rw [List.nodup_append] at hn
  obtain ⟨h1, h2, h3⟩ := hn
  rw [List.nodup_cons] at h2
  refine ⟨s, t, rfl, fun hx => h3 x hx x (List.mem_cons_self ..) rfl, h2.1, ?_⟩
  rw [List.nodup_append]
  exact ⟨h1, h2.2, fun a ha b hb => h3 a ha b (List.mem_cons_of_mem _ hb)⟩
theorem pigeon : ∀ (n : Nat) (l : List Int), l.Nodup → (∀ x, x ∈ l → 1 ≤ x ∧ x ≤ (n : Int)) → l.length ≤ n
  | 0, l, _, h => by
    rcases l with _ | ⟨x, l⟩
    · exact Nat.le_refl _
    · have := h x (List.mem_cons_self ..); omega
  | n + 1, l, hn, h => by
    by_cases hm : ((n + 1 : Nat) : Int) ∈ l
    · obtain ⟨s, t, rfl, h1, h2, h3⟩ := mem_split hm hn
      have := pigeon n (s ++ t) h3 fun x hx => by
        have hx' : x ∈ s ++ ((n + 1 : Nat) : Int) :: t := by
          rw [List.mem_append] at hx ⊢
          rcases hx with hx | hx
          · exact .inl hx
          · exact .inr (List.mem_cons_of_mem _ hx)
        have h4 := h x hx'
        have h5 : x ≠ ((n + 1 : Nat) : Int) := by
          rintro rfl
          rw [List.mem_append] at hx
          rcases hx with hx | hx
          · exact h1 hx
          · exact h2 hx
        omega
      rw [List.length_append] at this
      rw [List.length_append, List.length_cons]; omega
    · have := pigeon n l hn fun x hx => by
        have h4 := h x hx
        have h5 : x ≠ ((n + 1 : Nat) : Int) := by rintro rfl; exact hm hx
        omega
      omega
theorem OrP.top {n : Nat} {l : List Int} (h : OrP (n + 1) l) : ((n + 1 : Nat) : Int) ∈ l := by
  by_cases hm : ((n + 1 : Nat) : Int) ∈ l
  · exact hm
  · have := pigeon n l h.nd fun x hx => by
      have h4 := h.rng x hx
      have h5 : x ≠ ((n + 1 : Nat) : Int) := by rintro rfl; exact hm hx
      omega
    have := h.len
    omega
theorem ixN_split {s t : List Int} {x : Int} (h : x ∉ s) : ixN (s ++ x :: t) x = s.length := by
  unfold ixN
  induction s with
  | nil => rw [List.nil_append, List.findIdx_cons, decide_eq_true rfl]; rfl
  | cons y s ih =>
    rw [List.mem_cons, not_or] at h
    rw [List.cons_append, List.findIdx_cons]
    have : decide (y = x) = false := decide_eq_false fun e => h.1 e.symm
    rw [this]
    simp only [cond_false, List.length_cons]
    rw [ih h.2]
theorem upTo_same {n : Nat} {l : List Int} (h : ∀ x, x ∈ l → x ≤ (n : Int)) : upTo n l = l := by
  unfold upTo
  rw [List.filter_eq_self]
  intro x hx
  exact decide_eq_true (h x hx)
theorem upTo_split {n : Nat} {s t : List Int} {x : Int} (h : (n : Int) < x) : upTo n (s ++ x :: t) = upTo n s ++ upTo n t := by
  unfold upTo
  rw [List.filter_append, List.filter_cons, if_neg (by rw [decide_eq_true_iff]; omega)]
theorem upTo_upTo {m n : Nat} (h : m ≤ n) (l : List Int) : upTo m (upTo n l) = upTo m l := by
  unfold upTo
  rw [List.filter_filter]
  congr 1
  funext x
  rw [Bool.eq_iff_iff, Bool.and_eq_true, decide_eq_true_iff, decide_eq_true_iff]
  omega
/-- An order is one of the smaller numbers with the greatest inserted. -/
theorem OrP.down {n : Nat} {l : List Int} (h : OrP (n + 1) l) : OrP n (upTo n l) ∧ ixN l ((n + 1 : Nat) : Int) ≤ n ∧ l = insI (upTo n l) (ixN l ((n + 1 : Nat) : Int)) ((n + 1 : Nat) : Int) ∧ upTo n l = l.take (ixN l ((n + 1 : Nat) : Int)) ++ l.drop (ixN l ((n + 1 : Nat) : Int) + 1) := by
  obtain ⟨s, t, e, h1, h2, h3⟩ := mem_split h.top h.nd
  have hr : ∀ x, x ∈ s ++ t → 1 ≤ x ∧ x ≤ (n : Int) := fun x hx => by
    have hx' : x ∈ l := by
      rw [e]
      rw [List.mem_append] at hx ⊢
      rcases hx with hx | hx
      · exact .inl hx
      · exact .inr (List.mem_cons_of_mem _ hx)
    have h4 := h.rng x hx'
    have h5 : x ≠ ((n + 1 : Nat) : Int) := by
      rintro rfl
      rw [List.mem_append] at hx
      rcases hx with hx | hx
      · exact h1 hx
      · exact h2 hx
    omega
  have hu : upTo n l = s ++ t := by
    rw [e, upTo_split (by omega), upTo_same fun x hx => (hr x (List.mem_append_left _ hx)).2, upTo_same fun x hx => (hr x (List.mem_append_right _ hx)).2]
  have hi : ixN l ((n + 1 : Nat) : Int) = s.length := by rw [e, ixN_split h1]
  have hl := h.len
  rw [e, List.length_append, List.length_cons] at hl
  rw [hu, hi]
  refine ⟨⟨by rw [List.length_append]; omega, hr, h3⟩, by omega, ?_, ?_⟩
  · rw [e]
    unfold insI
    rw [List.take_left', List.drop_left'] <;> rfl
  · rw [e, List.take_left' rfl]
    congr 1
    rw [show s ++ ((n + 1 : Nat) : Int) :: t = (s ++ [((n + 1 : Nat) : Int)]) ++ t by rw [List.append_assoc]; rfl, List.drop_left' (by rw [List.length_append]; rfl)]
theorem oN_len : ∀ n a, (oN n a).length = n
  | 0, _ => rfl
  | n + 1, a => by rw [oN, insI_len, oN_len n]
theorem insI_split {z : List Int} {p : Nat} (h : p ≤ z.length) (x : Int) : insI z p x = z.take p ++ x :: z.drop p := rfl
theorem OrP.up {n : Nat} {z : List Int} (h : OrP n z) (p : Nat) : OrP (n + 1) (insI z p ((n + 1 : Nat) : Int)) := by
  have hm : ∀ x, x ∈ z.take p ++ z.drop p → 1 ≤ x ∧ x ≤ (n : Int) := fun x hx => by rw [List.take_append_drop] at hx; exact h.rng x hx
  have hnd : (z.take p ++ z.drop p).Nodup := by rw [List.take_append_drop]; exact h.nd
  refine ⟨by rw [insI_len, h.len], fun x hx => ?_, ?_⟩
  · unfold insI at hx
    rw [List.mem_append, List.mem_cons] at hx
    rcases hx with hx | rfl | hx
    · have := hm x (List.mem_append_left _ hx); omega
    · omega
    · have := hm x (List.mem_append_right _ hx); omega
  · unfold insI
    rw [List.nodup_append] at hnd ⊢
    obtain ⟨h1, h2, h3⟩ := hnd
    refine ⟨h1, List.nodup_cons.2 ⟨fun hx => ?_, h2⟩, fun a ha b hb => ?_⟩
    · have := hm _ (List.mem_append_right _ hx); omega
    · rcases List.mem_cons.1 hb with rfl | hb
      · rintro rfl
        have := hm _ (List.mem_append_left _ ha); omega
      · exact h3 a ha b hb
theorem oN_or : ∀ n a, OrP n (oN n a)
  | 0, _ => ⟨rfl, fun x hx => by (cases hx), List.nodup_nil⟩
  | n + 1, a => (oN_or n (a / (n + 1))).up _
theorem up_parts {n : Nat} {z : List Int} (h : OrP n z) {p : Nat} (hp : p ≤ n) : upTo n (insI z p ((n + 1 : Nat) : Int)) = z ∧ ixN (insI z p ((n + 1 : Nat) : Int)) ((n + 1 : Nat) : Int) = p := by
  have hm : ∀ x, x ∈ z.take p ++ z.drop p → x ≤ (n : Int) := fun x hx => by rw [List.take_append_drop] at hx; exact (h.rng x hx).2
  unfold insI
  constructor
  · rw [upTo_split (by omega), upTo_same fun x hx => hm x (List.mem_append_left _ hx), upTo_same fun x hx => hm x (List.mem_append_right _ hx), List.take_append_drop]
  · rw [ixN_split, List.length_take, h.len, Nat.min_eq_left hp]
    intro hx
    have := hm _ (List.mem_append_left _ hx); omega
theorem rkO_oN : ∀ n a, a < fac n → rkO n (oN n a) = a
  | 0, a, h => by rw [fac] at h; show 0 = a; omega
  | n + 1, a, h => by
    rw [fac] at h
    have hq : a / (n + 1) < fac n := Nat.div_lt_of_lt_mul h
    obtain ⟨h1, h2⟩ := up_parts (oN_or n (a / (n + 1))) (placeN_le n a)
    rw [oN, rkO, h1, h2, rkO_oN n _ hq]
    have hr : a % (n + 1) < n + 1 := Nat.mod_lt a (Nat.succ_pos n)
    have h3 := Nat.div_add_mod a (n + 1)
    unfold placeN
    have h4 : dirN (n + 1) (decide (a / (n + 1) % 2 = 0)) (dirN (n + 1) (decide (a / (n + 1) % 2 = 0)) (a % (n + 1))) = a % (n + 1) := by
      unfold dirN
      split <;> omega
    rw [h4]
    exact h3
theorem oN_rkO : ∀ n l, OrP n l → oN n (rkO n l) = l ∧ rkO n l < fac n
  | 0, l, h => by
    rw [List.eq_nil_of_length_eq_zero h.len]
    exact ⟨rfl, Nat.one_pos⟩
  | n + 1, l, h => by
    obtain ⟨h1, h2, h3, _⟩ := h.down
    obtain ⟨i1, i2⟩ := oN_rkO n _ h1
    have hd : dirN (n + 1) (decide (rkO n (upTo n l) % 2 = 0)) (ixN l ((n + 1 : Nat) : Int)) < n + 1 := by unfold dirN; split <;> omega
    have e1 : rkO (n + 1) l / (n + 1) = rkO n (upTo n l) := by
      rw [rkO, Nat.mul_add_div (Nat.succ_pos n), Nat.div_eq_of_lt hd, Nat.add_zero]
    have e2 : rkO (n + 1) l % (n + 1) = dirN (n + 1) (decide (rkO n (upTo n l) % 2 = 0)) (ixN l ((n + 1 : Nat) : Int)) := by
      rw [rkO, Nat.mul_add_mod, Nat.mod_eq_of_lt hd]
    have e3 : placeN n (rkO (n + 1) l) = ixN l ((n + 1 : Nat) : Int) := by
      rw [placeN, e1, e2]
      unfold dirN
      split <;> omega
    refine ⟨?_, ?_⟩
    · rw [oN, e1, e3, i1, ← h3]
    · rw [rkO, fac]
      have := Nat.mul_le_mul_left (n + 1) (show rkO n (upTo n l) + 1 ≤ fac n from i2)
      rw [Nat.mul_add, Nat.mul_one] at this
      omega
/-- Positions t and t + 1 exchanged. -/
def Swp (xs ys : List Int) (t : Nat) : Prop := ys.length = xs.length ∧ t + 1 < xs.length ∧ atI ys t = atI xs (t + 1) ∧ atI ys (t + 1) = atI xs t ∧ ∀ j, j ≠ t → j ≠ t + 1 → atI ys j = atI xs j
theorem Swp.symm {xs ys : List Int} {t : Nat} (h : Swp xs ys t) : Swp ys xs t := ⟨h.1.symm, by rw [h.1]; exact h.2.1, h.2.2.2.1.symm, h.2.2.1.symm, fun j h1 h2 => (h.2.2.2.2 j h1 h2).symm⟩
theorem atI_over {xs : List Int} {j : Nat} (h : xs.length ≤ j) : atI xs j = 0 := by unfold atI; rw [List.getElem?_eq_none h]; rfl
theorem swp_ins {z : List Int} {p : Nat} (x : Int) (h : p < z.length) : Swp (insI z p x) (insI z (p + 1) x) p := by
  have hl := insI_len z
  refine ⟨by rw [hl, hl], by rw [hl]; omega, ?_, ?_, fun j h1 h2 => ?_⟩
  · rw [insI_at (by omega) (by omega), insI_at (by omega) (by omega), if_pos (by omega), if_neg (by omega), if_neg (by omega), Nat.add_sub_cancel]
  · rw [insI_at (by omega) (by omega), insI_at (by omega) (by omega), if_neg (by omega), if_pos (by omega), if_neg (by omega), if_pos rfl]
  · by_cases hj : j < z.length + 1
    · rw [insI_at (by omega) hj, insI_at (by omega) hj]
      by_cases h3 : j < p
      · rw [if_pos (by omega), if_pos h3]
      · rw [if_neg (by omega), if_neg h2, if_neg h3, if_neg h1]
    · rw [atI_over (by rw [hl]; omega), atI_over (by rw [hl]; omega)]
theorem swp_front {xs ys : List Int} {t : Nat} (x : Int) (h : Swp xs ys t) : Swp (insI xs 0 x) (insI ys 0 x) (t + 1) := by
  obtain ⟨h1, h2, h3, h4, h5⟩ := h
  refine ⟨by rw [insI_len, insI_len, h1], by rw [insI_len]; omega, ?_, ?_, fun j e1 e2 => ?_⟩
  · rw [insI_at (by omega) (by omega), insI_at (by omega) (by omega), if_neg (by omega), if_neg (by omega), if_neg (by omega), if_neg (by omega)]
    exact h3
  · rw [insI_at (by omega) (by omega), insI_at (by omega) (by omega), if_neg (by omega), if_neg (by omega), if_neg (by omega), if_neg (by omega)]
    exact h4
  · by_cases hj : j < xs.length + 1
    · rw [insI_at (Nat.zero_le _) (by omega), insI_at (Nat.zero_le _) hj, if_neg (Nat.not_lt_zero _), if_neg (Nat.not_lt_zero _)]
      by_cases h6 : j = 0
      · rw [if_pos h6, if_pos h6]
      · rw [if_neg h6, if_neg h6]; exact h5 _ (by omega) (by omega)
    · rw [atI_over (by rw [insI_len]; omega), atI_over (by rw [insI_len]; omega)]
theorem swp_end {xs ys : List Int} {t : Nat} (x : Int) (h : Swp xs ys t) : Swp (insI xs xs.length x) (insI ys xs.length x) t := by
  obtain ⟨h1, h2, h3, h4, h5⟩ := h
  refine ⟨by rw [insI_len, insI_len, h1], by rw [insI_len]; omega, ?_, ?_, fun j e1 e2 => ?_⟩
  · rw [insI_at (by omega) (by omega), insI_at (by omega) (by omega), if_pos (by omega), if_pos (by omega)]
    exact h3
  · rw [insI_at (by omega) (by omega), insI_at (by omega) (by omega), if_pos (by omega), if_pos (by omega)]
    exact h4
  · by_cases hj : j < xs.length + 1
    · rw [insI_at (by omega) (by omega), insI_at (by omega) hj]
      by_cases h6 : j < xs.length
      · rw [if_pos h6, if_pos h6]; exact h5 _ e1 e2
      · rw [if_neg h6, if_neg h6, if_pos (by omega), if_pos (by omega)]
    · rw [atI_over (by rw [insI_len]; omega), atI_over (by rw [insI_len]; omega)]
theorem oN_step : ∀ n a, a + 1 < fac n → ∃ t, Swp (oN n a) (oN n (a + 1)) t
  | 0, a, h => by rw [fac] at h; omega
  | n + 1, a, h => by
    rw [fac] at h
    have h1 := Nat.div_add_mod a (n + 1)
    have hr : a % (n + 1) < n + 1 := Nat.mod_lt a (Nat.succ_pos n)
    have hlen := oN_len n
    by_cases hc : a % (n + 1) + 1 < n + 1
    · have e1 : (a + 1) / (n + 1) = a / (n + 1) := by
        rw [show a + 1 = (n + 1) * (a / (n + 1)) + (a % (n + 1) + 1) by omega, Nat.mul_add_div (Nat.succ_pos n), Nat.div_eq_of_lt hc, Nat.add_zero]
      have e2 : (a + 1) % (n + 1) = a % (n + 1) + 1 := by
        rw [show a + 1 = (n + 1) * (a / (n + 1)) + (a % (n + 1) + 1) by omega, Nat.mul_add_mod, Nat.mod_eq_of_lt hc]
      rw [oN, oN, e1, placeN, placeN, e1, e2]
      generalize a / (n + 1) = q at *
      generalize a % (n + 1) = r at *
      rcases hd : decide (q % 2 = 0) with _ | _
      · show ∃ t, Swp (insI (oN n q) r _) (insI (oN n q) (r + 1) _) t
        exact ⟨r, swp_ins _ (by rw [hlen]; omega)⟩
      · show ∃ t, Swp (insI (oN n q) (n + 1 - 1 - r) _) (insI (oN n q) (n + 1 - 1 - (r + 1)) _) t
        rw [show n + 1 - 1 - r = n + 1 - 1 - (r + 1) + 1 by omega]
        exact ⟨_, (swp_ins _ (by rw [hlen]; omega)).symm⟩
    · have e1 : (a + 1) / (n + 1) = a / (n + 1) + 1 := by
        rw [show a + 1 = (n + 1) * (a / (n + 1) + 1) by rw [Nat.mul_add]; omega, Nat.mul_div_cancel_left _ (Nat.succ_pos n)]
      have e2 : (a + 1) % (n + 1) = 0 := by
        rw [show a + 1 = (n + 1) * (a / (n + 1) + 1) by rw [Nat.mul_add]; omega, Nat.mul_mod_right]
      have e3 : a % (n + 1) = n := by omega
      have hq : a / (n + 1) + 1 < fac n := by
        have : (n + 1) * (a / (n + 1) + 1) < (n + 1) * fac n := by rw [Nat.mul_add, Nat.mul_one]; omega
        exact Nat.lt_of_mul_lt_mul_left this
      obtain ⟨t, ht⟩ := oN_step n _ hq
      rw [oN, oN, e1, placeN, placeN, e1, e2, e3]
      generalize a / (n + 1) = q at *
      by_cases hp : q % 2 = 0
      · rw [decide_eq_true hp, decide_eq_false (by omega)]
        show ∃ t, Swp (insI (oN n q) (n + 1 - 1 - n) _) (insI (oN n (q + 1)) 0 _) t
        rw [show n + 1 - 1 - n = 0 by omega]
        exact ⟨t + 1, swp_front _ ht⟩
      · rw [decide_eq_false hp, decide_eq_true (by omega)]
        show ∃ t, Swp (insI (oN n q) n _) (insI (oN n (q + 1)) (n + 1 - 1 - 0) _) t
        have := swp_end ((n + 1 : Nat) : Int) ht
        rw [hlen] at this
        exact ⟨t, this⟩
end Go.Proofs.Ytfeohcknopdamaa
/- Layer 10: lists that are orders; the reference's Orders, isOrder. -/
namespace Go.Proofs.Ytfeohcknopdamaa
open Go.RowKit
set_option linter.unusedVariables false

/-- None of the first k is x. -/
def noneB (zs : List Int) (x : Int) (k : Nat) : Bool := allB (fun j => !(decide (atI zs j = x))) k
def ord1 (zs : List Int) (j : Nat) : Bool := (decide (1 ≤ atI zs j) && decide (atI zs j ≤ (zs.length : Int))) && noneB zs (atI zs j) j
/-- An order of at most 18 numbers. -/
def ordB (zs : List Int) : Bool := decide (zs.length ≤ 18) && allB (ord1 zs) zs.length
theorem noneB_iff {zs : List Int} {x : Int} {k : Nat} : noneB zs x k = true ↔ ∀ j, j < k → atI zs j ≠ x := by
  unfold noneB
  rw [allB_iff]
  constructor
  · intro h j hj e
    have := h j hj
    rw [decide_eq_true e] at this
    cases this
  · intro h j hj
    rw [decide_eq_false (h j hj)]; rfl
theorem noneB_succ {zs : List Int} {x : Int} {k : Nat} : noneB zs x (k + 1) = (noneB zs x k && !(decide (atI zs k = x))) := by
  rw [Bool.eq_iff_iff, Bool.and_eq_true, noneB_iff, noneB_iff]
  constructor
  · intro h
    exact ⟨fun j hj => h j (by omega), by rw [decide_eq_false (h k (by omega))]; rfl⟩
  · rintro ⟨h1, h2⟩ j hj
    by_cases e : j = k
    · subst e
      intro e2
      rw [decide_eq_true e2] at h2
      cases h2
    · exact h1 j (by omega)
theorem ord1_iff {zs : List Int} {j : Nat} : ord1 zs j = true ↔ (1 ≤ atI zs j ∧ atI zs j ≤ (zs.length : Int)) ∧ ∀ i, i < j → atI zs i ≠ atI zs j := by
  unfold ord1
  rw [Bool.and_eq_true, Bool.and_eq_true, decide_eq_true_iff, decide_eq_true_iff, noneB_iff]
theorem ordB_or {zs : List Int} (h : ordB zs = true) : OrP zs.length zs ∧ zs.length ≤ 18 := by
  rw [ordB, Bool.and_eq_true, decide_eq_true_iff, allB_iff] at h
  refine ⟨⟨rfl, fun x hx => ?_, ?_⟩, h.1⟩
  · obtain ⟨j, hj, rfl⟩ := List.getElem_of_mem hx
    have := (ord1_iff.1 (h.2 j hj)).1
    rwa [atI_get hj] at this
  · rw [List.nodup_iff_pairwise_ne, List.pairwise_iff_getElem]
    intro i j hi hj hij
    have := (ord1_iff.1 (h.2 j hj)).2 i hij
    rwa [atI_get hi, atI_get hj] at this
theorem or_ordB {n : Nat} {zs : List Int} (h : OrP n zs) (hn : n ≤ 18) : ordB zs = true := by
  have hl := h.len
  rw [ordB, Bool.and_eq_true, decide_eq_true_iff, allB_iff]
  refine ⟨by omega, fun j hj => ord1_iff.2 ⟨?_, fun i hi => ?_⟩⟩
  · have := h.rng _ (List.getElem_mem hj)
    rw [atI_get hj, hl]; exact this
  · have hnd := h.nd
    rw [List.nodup_iff_pairwise_ne, List.pairwise_iff_getElem] at hnd
    rw [atI_get (by omega), atI_get hj]
    exact hnd i j (by omega) hj hi
set_option maxRecDepth 100000 in
set_option maxHeartbeats 3200000 in
theorem ordersR_any (zs : List Int) (A : Option Addr) (n c : Nat) (w : World) (h : Sl w A n c zs) :
    Calls Try.prog 35 #[.slice A n c] w fun e w' => e = .returned (.bool (ordB zs)) ∧ Dr w w' := by
  have hbig := h.big
  have HL : Hid (zs.length = n) := h.len
  have HS := Lib.hid (fun V (hV : Dr w V) => h.below (hV.below w.heap.size) (Nat.le_refl _))
  have HBAD : Hid (∀ k, k < n → ord1 zs k = false → false = ordB zs) := fun k hk h => by
    rw [ordB, ← allB_bad (p := ord1 zs) (by rw [HL.out]; exact hk) h, Bool.and_false]
  have HGOOD : Hid ((∀ k, k < n → ord1 zs k = true) → decide ((n : Int) ≤ 18) = ordB zs) := fun h => by
    rw [ordB, ← allB_good (p := ord1 zs) (by rw [HL.out]; exact h), Bool.and_true, HL.out]
    by_cases h0 : n ≤ 18
    · rw [decide_eq_true h0, decide_eq_true (by omega)]
    · rw [decide_eq_false h0, decide_eq_false (by omega)]
  clear h
  go_enter Try.func35, Try.ntmps35
  go_wp2
  go_loopw [3] (fun i w' => ∃ k : Nat, k ≤ n ∧ i = .int .i64 (k : Int) ∧ Hid (∀ j, j < k → ord1 zs j = true) ∧ Hid (Dr w w')) (fun i _ => n - (intOf i).toNat)
  case atStart => exact ⟨0, Nat.zero_le _, by go_num, fun j hj => absurd hj (Nat.not_lt_zero _), Dr.refl _⟩
  case round =>
    obtain ⟨k, hk, rfl, HK, HD⟩ := hrel
    obtain ⟨wo, rfl⟩ : ∃ wo : World, wo = wr := ⟨_, rfl⟩
    by_cases hlt : k < n
    · have i1 : (k : Int) < (n : Int) := by omega
      have HBK := Lib.hid (HBAD.out k hlt)
      have HKS : Hid (ord1 zs k = true → ∀ j, j < k + 1 → ord1 zs j = true) := fun h j hj => by
        by_cases e : j = k
        · rw [e]; exact h
        · exact HK.out j (by omega)
      have hdef : ord1 zs k = ((decide (1 ≤ atI zs k) && decide (atI zs k ≤ (n : Int))) && noneB zs (atI zs k) k) := by rw [ord1, HL.out]
      obtain ⟨b, off, rfl, hcell⟩ := (HS.out wo HD.out).at_ hlt
      rw [show zs[k]?.getD 0 = atI zs k from rfl] at hcell
      obtain ⟨z, hz⟩ : ∃ z, z = atI zs k := ⟨_, rfl⟩
      rw [← hz] at hcell hdef
      have HZ := Lib.hid hz
      clear hz
      by_cases h1 : z < 1
      · have HX := Lib.hid (HBK.out (by rw [hdef, decide_eq_false (show ¬ 1 ≤ z by omega)]; rfl))
        have d1 : decide (z < 1) = true := decide_eq_true h1
        clear hdef HBK HKS
        go_wp2
        go_ret
        exact ⟨bend HX.out, HD.out⟩
      · have d1 : decide (z < 1) = false := decide_eq_false h1
        by_cases h2 : (n : Int) < z
        · have HX := Lib.hid (HBK.out (by rw [hdef, decide_eq_false (show ¬ z ≤ (n : Int) by omega), Bool.and_false]; rfl))
          have d2 : decide (z > (n : Int)) = true := decide_eq_true h2
          have d2' : decide ((n : Int) < z) = true := decide_eq_true h2
          clear hdef HBK HKS
          go_wp2
          go_ret
          exact ⟨bend HX.out, HD.out⟩
        · have d2 : decide (z > (n : Int)) = false := decide_eq_false h2
          have d2' : decide ((n : Int) < z) = false := decide_eq_false h2
          rw [decide_eq_true (show 1 ≤ z by omega), decide_eq_true (show z ≤ (n : Int) by omega), Bool.and_self, Bool.true_and] at hdef
          have HDEF := Lib.hid hdef
          clear hdef
          go_wp2
          go_loopw [4] (fun i w' => ∃ j : Nat, j ≤ k ∧ i = .int .i64 (j : Int) ∧ Hid (noneB zs z j = true) ∧ Hid (Dr w w')) (fun i _ => k - (intOf i).toNat)
          case atStart => exact ⟨0, Nat.zero_le _, by go_num, noneB_iff.2 fun j hj => absurd hj (Nat.not_lt_zero _), HD.out⟩
          case round =>
            obtain ⟨j, hj, rfl, HN, HD2⟩ := hrel
            obtain ⟨wi, rfl⟩ : ∃ wi : World, wi = wr := ⟨_, rfl⟩
            by_cases hjk : j < k
            · have i2 : (j : Int) < (k : Int) := by omega
              have i3 : (j : Int) < (n : Int) := by omega
              obtain ⟨b1, o1, eA, e1⟩ := (HS.out wi HD2.out).at_ (k := j) (by omega)
              cases eA
              obtain ⟨b2, o2, eA, e2⟩ := (HS.out wi HD2.out).at_ (k := k) (by omega)
              cases eA
              rw [show zs[j]?.getD 0 = atI zs j from rfl] at e1
              rw [show zs[k]?.getD 0 = atI zs k from rfl, ← HZ.out] at e2
              clear hcell
              by_cases hyz : atI zs j = z
              · have HX := Lib.hid (HBK.out (by
                  rw [HDEF.out, Bool.eq_false_iff, Ne, noneB_iff]
                  exact fun h => h j hjk hyz))
                rw [hyz] at e1
                have n1 : (z == z) = true := by simp
                clear hyz
                go_wp2
                go_quiet (fail)
                go_wp2
                go_ret
                exact ⟨bend HX.out, HD2.out.more _⟩
              · have HX : Hid (noneB zs z (j + 1) = true) := by rw [Hid, noneB_succ, HN.out, decide_eq_false hyz]; rfl
                have n1 : (atI zs j == z) = false := by rw [beq_eq_false_iff_ne]; exact hyz
                clear hyz
                generalize atI zs j = y at *
                go_wp2
                go_quiet (fail)
                go_wp2
                exact ⟨⟨j + 1, by omega, by go_num, HX.out, HD2.out.more _⟩, by simp [intOf]; omega⟩
            · have hjk2 : j = k := by omega
              have HX := Lib.hid (HKS.out (by rw [HDEF.out, ← hjk2]; exact HN.out))
              have i2 : ¬ (j : Int) < (k : Int) := by omega
              clear hjk2 hcell
              go_wp2
              exact ⟨⟨k + 1, by omega, by go_num, HX.out, HD2.out⟩, by simp [intOf]; omega⟩
    · have hkn : k = n := by omega
      have HX := Lib.hid (HGOOD.out (by rw [← hkn]; exact HK.out))
      have i1 : ¬ (k : Int) < (n : Int) := by omega
      clear hkn
      go_wp2
      go_ret
      exact ⟨bend HX.out, HD.out⟩
/-- A row of bools. -/
def rowB (n : Nat) (f : Nat → Bool) : Array Value := Array.ofFn (n := n) fun i => Value.bool (f i.val)
def Rb (w : World) (b t n : Nat) (f : Nat → Bool) : Prop := w.heap[b]? = some (.cells (rowB n f) t (0, 0))
theorem Rb.cell {w : World} {b t n : Nat} {f : Nat → Bool} (h : Rb w b t n f) {i : Nat} (hi : i < n) : w.cell? ⟨b, i, none⟩ = some (.bool (f i)) := by
  rw [cell_of_row w b i _ t (0, 0) h]
  unfold rowB
  rw [Array.getElem?_ofFn, dif_pos hi]
theorem Rb.free {w : World} {b t n : Nat} {f : Nat → Bool} (h : Rb w b t n f) (i : Nat) : w.frozen? ⟨b, i, none⟩ = false := by
  unfold Rb at h
  simp [World.frozen?, h]
theorem Rb.set {w : World} {b t n : Nat} {f g : Nat → Bool} (h : Rb w b t n f) {i : Nat} (x : Bool) (hg : ∀ j, g j = if j = i then x else f j) : Rb (w.setCell ⟨b, i, none⟩ (.bool x)) b t n g := by
  unfold Rb at h ⊢
  rw [heap_setCell_same w b i _ t _ h]
  congr 2
  apply Array.ext (by simp [rowB])
  intro j h1 h2
  by_cases e : j = i
  · subst e; simp [rowB, hg]
  · rw [Array.getElem_setIfInBounds_ne (by simpa [rowB] using h1) (fun e2 => e e2.symm)]; simp [rowB, hg, e]
theorem rowF19 : #[Value.bool false, .bool false, .bool false, .bool false, .bool false, .bool false, .bool false, .bool false, .bool false, .bool false, .bool false, .bool false, .bool false, .bool false, .bool false, .bool false, .bool false, .bool false, .bool false] = rowB 19 fun _ => false := by kernel_rfl
/-- Which numbers have been seen among the first k. -/
def seenF (zs : List Int) (k x : Nat) : Bool := !(noneB zs (x : Int) k)
set_option maxRecDepth 100000 in
set_option maxHeartbeats 3200000 in
theorem isOrder_any (zs : List Int) (A : Option Addr) (n c : Nat) (w : World) (h : Sl w A n c zs) :
    Calls Try.prog 64 #[.slice A n c] w fun e w' => e = .returned (.bool (ordB zs)) ∧ Below w.heap.size w w' := by
  have hbig := h.big
  have HL : Hid (zs.length = n) := h.len
  have HS := Lib.hid (fun V (hV : Below w.heap.size w V) => h.below hV (Nat.le_refl _))
  have hdef0 : ordB zs = (decide (n ≤ 18) && allB (ord1 zs) n) := by rw [ordB, h.len]
  clear h
  by_cases h18 : n ≤ 18
  · rw [decide_eq_true h18, Bool.true_and] at hdef0
    rw [hdef0]
    have HBAD : Hid (∀ k, k < n → ord1 zs k = false → false = allB (ord1 zs) n) := fun k hk h => allB_bad (p := ord1 zs) hk h
    have HGOOD : Hid ((∀ k, k < n → ord1 zs k = true) → true = allB (ord1 zs) n) := fun h => allB_good (p := ord1 zs) h
    clear hdef0
    generalize allB (ord1 zs) n = res at *
    have d0 : decide ((n : Int) > 18) = false := decide_eq_false (by omega)
    have d0' : decide (18 < (n : Int)) = false := decide_eq_false (by omega)
    have d0'' : decide (18 < n) = false := decide_eq_false (by omega)
    go_enter Try.func64, Try.ntmps64
    go_wp2
    rw [rowF19]
    have HR0 : Hid (Rb (w.alloc (.cells (rowB 19 fun _ => false) 81)) w.heap.size 81 19 (seenF zs 0)) := by
      rw [Hid, show seenF zs 0 = fun _ => false from funext fun x => by unfold seenF; rw [noneB_iff.2 fun j hj => absurd hj (Nat.not_lt_zero _)]; rfl]
      exact World.alloc_heap_new _ _
    have HB0 : Hid (Below w.heap.size w (w.alloc (.cells (rowB 19 fun _ => false) 81))) := (Below.refl _ w).alloc (Nat.le_refl _) _
    generalize w.alloc (.cells (rowB 19 fun _ => false) 81) = w0 at HR0 HB0 ⊢
    go_loopw [11] (fun i w' => ∃ k : Nat, k ≤ n ∧ i = .int .i64 (k : Int) ∧ Hid (∀ j, j < k → ord1 zs j = true) ∧ Hid (Rb w' w.heap.size 81 19 (seenF zs k)) ∧ Hid (Below w.heap.size w w')) (fun i _ => n - (intOf i).toNat)
    case atStart => exact ⟨0, Nat.zero_le _, by go_num, fun j hj => absurd hj (Nat.not_lt_zero _), HR0.out, HB0.out⟩
    case round =>
      obtain ⟨k, hk, rfl, HK, HR, HB⟩ := hrel
      obtain ⟨wo, rfl⟩ : ∃ wo : World, wo = wr := ⟨_, rfl⟩
      clear HR0 HB0
      by_cases hlt : k < n
      · have i1 : (k : Int) < (n : Int) := by omega
        have HBK := Lib.hid (HBAD.out k hlt)
        have HKS : Hid (ord1 zs k = true → ∀ j, j < k + 1 → ord1 zs j = true) := fun h j hj => by
          by_cases e : j = k
          · rw [e]; exact h
          · exact HK.out j (by omega)
        have hdef : ord1 zs k = ((decide (1 ≤ atI zs k) && decide (atI zs k ≤ (n : Int))) && noneB zs (atI zs k) k) := by rw [ord1, HL.out]
        obtain ⟨b, off, rfl, hcell⟩ := (HS.out wo HB.out).at_ hlt
        rw [show zs[k]?.getD 0 = atI zs k from rfl] at hcell
        obtain ⟨z, hz⟩ : ∃ z, z = atI zs k := ⟨_, rfl⟩
        rw [← hz] at hcell hdef
        have HZ := Lib.hid hz
        have HBT := Lib.hid (fun w => isBetween_any z 1 (n : Int) w)
        clear hz
        rcases hl : (decide (1 ≤ z) && decide (z ≤ (n : Int))) with _ | _
        · rw [hl] at HBT hdef
          have HX := Lib.hid (HBK.out (by rw [hdef]; rfl))
          clear hl hdef HBK HKS
          go_wp2_with (go_at_call 55; refine (HBT.out _).mono ?_; rintro e w1 ⟨rfl, rfl⟩)
          go_ret
          exact ⟨bend HX.out, HB.out⟩
        · rw [hl] at HBT hdef
          rw [Bool.and_eq_true, decide_eq_true_iff, decide_eq_true_iff] at hl
          obtain ⟨x, hzx⟩ : ∃ x : Nat, z = (x : Int) := ⟨z.toNat, by omega⟩
          rw [hzx] at hcell HBT hdef hl
          rw [Bool.true_and] at hdef
          have hx19 : x < 19 := by omega
          have f1 : (x : Int) < 19 := by omega
          have hc := HR.out.cell (i := x) hx19
          have hf := HR.out.free x
          have hsn : seenF zs k x = !(ord1 zs k) := by rw [seenF, ← hdef]
          have HZX : Hid (atI zs k = (x : Int)) := by rw [Hid, ← HZ.out, hzx]
          clear HZ
          rcases hod : ord1 zs k with _ | _
          · have HX := Lib.hid (HBK.out hod)
            rw [hsn, hod] at hc
            clear hl hdef HBK HKS hod hsn hzx
            have hc2 : wo.cell? ⟨w.heap.size, x, none⟩ = some (.bool true) := hc
            clear hc
            go_wp2_with (go_at_call 55; refine (HBT.out _).mono ?_; rintro e w1 ⟨rfl, rfl⟩)
            go_ret
            exact ⟨bend HX.out, HB.out⟩
          · have HX := Lib.hid (HKS.out hod)
            rw [hsn, hod] at hc
            have hc2 : wo.cell? ⟨w.heap.size, x, none⟩ = some (.bool false) := hc
            have HR2 : Hid (Rb (wo.setCell ⟨w.heap.size, x, none⟩ (.bool true)) w.heap.size 81 19 (seenF zs (k + 1))) := HR.out.set true fun j => by
              unfold seenF
              rw [noneB_succ, HZX.out]
              by_cases e : j = x
              · rw [if_pos e, e, decide_eq_true rfl]; simp
              · rw [if_neg e, decide_eq_false (by omega)]; simp
            clear hl hdef HBK HKS hod hsn hzx hc
            go_wp2_with (go_at_call 55; refine (HBT.out _).mono ?_; rintro e w1 ⟨rfl, rfl⟩)
            exact ⟨⟨k + 1, by omega, by go_num, HX.out, HR2.out, HB.out.setCell (p := ⟨w.heap.size, x, none⟩) (Nat.le_refl _) _⟩, by simp [intOf]; omega⟩
      · have hkn : k = n := by omega
        have HX := Lib.hid (HGOOD.out (by rw [← hkn]; exact HK.out))
        have i1 : ¬ (k : Int) < (n : Int) := by omega
        clear hkn
        go_wp2
        go_ret
        exact ⟨bend HX.out, HB.out⟩
  · rw [decide_eq_false h18, Bool.false_and] at hdef0
    rw [hdef0]
    have d0 : decide ((n : Int) > 18) = true := decide_eq_true (by omega)
    have d0' : decide (18 < (n : Int)) = true := decide_eq_true (by omega)
    clear hdef0
    go_enter Try.func64, Try.ntmps64
    go_wp2
    go_ret
    exact ⟨rfl, Below.refl _ _⟩
end Go.Proofs.Ytfeohcknopdamaa
