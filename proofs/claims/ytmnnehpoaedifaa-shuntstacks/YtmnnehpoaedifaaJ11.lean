import Derived.Test.YtmnnehpoaedifaaJ02
import Derived.Test.YtmnnehpoaedifaaJ04
import Derived.Test.YtmnnehpoaedifaaJ07
import Derived.Test.YtmnnehpoaedifaaJ10
import Derived.Test.YtmnnehpoaedifaaJ09
/- Plain mathematics of layer 2: rank and unrank are inverse, ascend, and run over the orders that one stack sorts. -/
namespace Go.Proofs.Ytmnnehpoaedifaa

/-- Different items from d + 1 to d + n, and no block. -/
structure GoodAt (o : List Int) (d : Nat) : Prop where
  diff : Diff o
  rng : ∀ i, i < o.length → (d : Int) + 1 ≤ at0 o i ∧ at0 o i ≤ (d : Int) + o.length
  good : Good o
theorem at_small {o : List Int} {f i : Nat} (h : i + 1 < f) : at0 ((o.take f).drop 1) i = at0 o (i + 1) := by
  unfold at0
  rw [List.getElem?_drop, List.getElem?_take_of_lt (by omega), Nat.add_comm]
theorem at_great {o : List Int} {f i : Nat} : at0 (o.drop f) i = at0 o (f + i) := by
  unfold at0
  rw [List.getElem?_drop]
theorem len_small {o : List Int} {f : Nat} (h : f ≤ o.length) : ((o.take f).drop 1).length = f - 1 := by simp; omega
theorem pig {o : List Int} (hd : Diff o) (s m K : Nat) (lo : Int) (hm : s + m ≤ o.length) (h : ∀ j, j < m → lo ≤ at0 o (s + j) ∧ at0 o (s + j) < lo + K) : m ≤ K := by
  have := nodup_len K ((List.range m).map fun j => (at0 o (s + j) - lo).toNat) (by
    rw [List.nodup_iff_pairwise_ne, List.pairwise_map]
    refine List.Pairwise.imp_of_mem ?_ (List.pairwise_lt_range (n := m))
    intro i j hi hj hij e
    have hi := List.mem_range.1 hi
    have hj := List.mem_range.1 hj
    have ri := h i hi
    have rj := h j hj
    have := hd (s + i) (s + j) (by omega) (by omega) (show at0 o (s + i) = at0 o (s + j) by omega)
    omega) (by
    intro x hx
    obtain ⟨i, hi, rfl⟩ := List.mem_map.1 hx
    have ri := h i (List.mem_range.1 hi)
    omega)
  simpa using this
/-- Every order that one stack sorts has the form that Rank asks for. -/
theorem rankOk_of_good (t : Nat) : ∀ (o : List Int) (d : Nat), o.length ≤ t → GoodAt o d → RankOk t o d := by
  induction t with
  | zero => intro o d h _; show o.length = 0; omega
  | succ t ih =>
    intro o d h hg
    by_cases h0 : o.length = 0
    · exact .inl h0
    · right
      have hx := hg.rng 0 (by omega)
      obtain ⟨f, hf⟩ : ∃ f : Nat, at0 o 0 = (d : Int) + f := ⟨(at0 o 0 - d).toNat, by omega⟩
      have hne : ∀ i, 0 < i → i < o.length → at0 o i ≠ at0 o 0 := fun i h1 h2 e => by
        have := hg.diff i 0 h2 (by omega) e
        omega
      -- smaller ones first
      have hfirst : ∀ b c, 0 < b → b < c → c < o.length → at0 o 0 < at0 o b → at0 o 0 < at0 o c := fun b c h1 h2 h3 h4 => by
        have := hne c (by omega) h3
        have h5 : ¬ at0 o c < at0 o 0 := fun h5 => hg.good 0 b c ⟨h1, h2, h3, h5, h4⟩
        omega
      have hsm : ∀ i, 0 < i → i < f → at0 o i < at0 o 0 := fun i h1 h2 => by
        rcases Int.lt_trichotomy (at0 o i) (at0 o 0) with h3 | h3 | h3
        · exact h3
        · exact absurd h3 (hne i h1 (by omega))
        · have := pig hg.diff i (o.length - i) (o.length - f) ((d : Int) + f + 1) (by omega) fun j hj => by
            have r := hg.rng (i + j) (by omega)
            by_cases e : j = 0
            · subst e; rw [Nat.add_zero] at *; omega
            · have := hfirst i (i + j) h1 (by omega) (by omega) h3; omega
          omega
      have hgr : ∀ i, f ≤ i → i < o.length → at0 o 0 < at0 o i := fun i h1 h2 => by
        rcases Int.lt_trichotomy (at0 o i) (at0 o 0) with h3 | h3 | h3
        · have := pig hg.diff 1 i (f - 1) ((d : Int) + 1) (by omega) fun j hj => by
            have r := hg.rng (1 + j) (by omega)
            have hn := hne (1 + j) (by omega) (by omega)
            by_cases e : 1 + j = i
            · rw [e] at r ⊢; omega
            · have : ¬ at0 o 0 < at0 o (1 + j) := fun h4 => by have := hfirst (1 + j) i (by omega) (by omega) h2 h4; omega
              omega
          omega
        · exact absurd h3 (hne i (by omega) h2)
        · exact h3
      refine ⟨f, by omega, by omega, hf, ih _ _ (by rw [len_small (by omega)]; omega) ⟨fun i j hi hj e => ?_, fun i hi => ?_, fun a b c hb => ?_⟩, ih _ _ (by simp; omega) ⟨fun i j hi hj e => ?_, fun i hi => ?_, fun a b c hb => ?_⟩⟩
      · rw [len_small (by omega)] at hi hj
        have e : at0 ((o.take f).drop 1) i = at0 ((o.take f).drop 1) j := e
        rw [at_small (by omega), at_small (by omega)] at e
        have := hg.diff (i + 1) (j + 1) (by omega) (by omega) e
        omega
      · rw [len_small (by omega)] at hi ⊢
        rw [at_small (by omega)]
        have := hsm (i + 1) (by omega) (by omega)
        have := hg.rng (i + 1) (by omega)
        omega
      · obtain ⟨h1, h2, h3, h4, h5⟩ := hb
        rw [len_small (by omega)] at h3
        have h4 : at0 ((o.take f).drop 1) c < at0 ((o.take f).drop 1) a := h4
        have h5 : at0 ((o.take f).drop 1) a < at0 ((o.take f).drop 1) b := h5
        rw [at_small (by omega), at_small (by omega)] at h4 h5
        exact hg.good (a + 1) (b + 1) (c + 1) ⟨by omega, by omega, by omega, h4, h5⟩
      · rw [List.length_drop] at hi hj
        have e : at0 (o.drop f) i = at0 (o.drop f) j := e
        rw [at_great, at_great] at e
        have := hg.diff (f + i) (f + j) (by omega) (by omega) e
        omega
      · rw [List.length_drop] at hi ⊢
        rw [at_great]
        have := hgr (f + i) (by omega) (by omega)
        have := hg.rng (f + i) (by omega)
        omega
      · obtain ⟨h1, h2, h3, h4, h5⟩ := hb
        rw [List.length_drop] at h3
        have h4 : at0 (o.drop f) c < at0 (o.drop f) a := h4
        have h5 : at0 (o.drop f) a < at0 (o.drop f) b := h5
        rw [at_great, at_great] at h4 h5
        exact hg.good (f + a) (f + b) (f + c) ⟨by omega, by omega, by omega, h4, h5⟩
/-- And what has that form is an order that one stack sorts. -/
theorem good_of_rankOk (t : Nat) : ∀ (o : List Int) (d : Nat), RankOk t o d → GoodAt o d := by
  have hnil : ∀ (o : List Int) (d : Nat), o.length = 0 → GoodAt o d := fun o d h => ⟨fun i j hi => by omega, fun i hi => by omega, fun a b c hb => by obtain ⟨_, _, h3, _⟩ := hb; omega⟩
  induction t with
  | zero => intro o d h; exact hnil o d h
  | succ t ih =>
    intro o d h
    rcases h with h | ⟨f, h1, h2, h3, h4, h5⟩
    · exact hnil o d h
    · have hA := ih _ _ h4
      have hB := ih _ _ h5
      have h3 : at0 o 0 = (d : Int) + f := h3
      have rA : ∀ i, 0 < i → i < f → (d : Int) + 1 ≤ at0 o i ∧ at0 o i ≤ (d : Int) + f - 1 := fun i a b => by
        have := hA.rng (i - 1) (by rw [len_small h2]; omega)
        rw [len_small h2, at_small (by omega), show i - 1 + 1 = i from by omega] at this
        omega
      have rB : ∀ i, f ≤ i → i < o.length → (d : Int) + f + 1 ≤ at0 o i ∧ at0 o i ≤ (d : Int) + o.length := fun i a b => by
        have := hB.rng (i - f) (by rw [List.length_drop]; omega)
        rw [List.length_drop, at_great, show f + (i - f) = i from by omega] at this
        omega
      have dA : ∀ i j, 0 < i → i < f → 0 < j → j < f → at0 o i = at0 o j → i = j := fun i j a b a' b' e => by
        have := hA.diff (i - 1) (j - 1) (by rw [len_small h2]; omega) (by rw [len_small h2]; omega) (by
          show at0 _ _ = at0 _ _
          rw [at_small (by omega), at_small (by omega), show i - 1 + 1 = i from by omega, show j - 1 + 1 = j from by omega, e])
        omega
      have dB : ∀ i j, f ≤ i → i < o.length → f ≤ j → j < o.length → at0 o i = at0 o j → i = j := fun i j a b a' b' e => by
        have := hB.diff (i - f) (j - f) (by rw [List.length_drop]; omega) (by rw [List.length_drop]; omega) (by
          show at0 _ _ = at0 _ _
          rw [at_great, at_great, show f + (i - f) = i from by omega, show f + (j - f) = j from by omega, e])
        omega
      refine ⟨fun i j hi hj e => ?_, fun i hi => ?_, fun a b c hb => ?_⟩
      · have e : at0 o i = at0 o j := e
        have part : ∀ i, i < o.length → i = 0 ∧ at0 o i = (d : Int) + f ∨ (0 < i ∧ i < f) ∧ at0 o i < (d : Int) + f ∨ (f ≤ i) ∧ (d : Int) + f < at0 o i := fun i hi => by
          by_cases c1 : i = 0
          · subst c1; exact .inl ⟨rfl, h3⟩
          · by_cases c2 : i < f
            · have := rA i (by omega) c2; exact .inr (.inl ⟨⟨by omega, c2⟩, by omega⟩)
            · have := rB i (by omega) hi; exact .inr (.inr ⟨by omega, by omega⟩)
        rcases part i hi with ⟨a1, a2⟩ | ⟨a1, a2⟩ | ⟨a1, a2⟩ <;> rcases part j hj with ⟨b1, b2⟩ | ⟨b1, b2⟩ | ⟨b1, b2⟩
        · omega
        · omega
        · omega
        · omega
        · exact dA i j a1.1 a1.2 b1.1 b1.2 e
        · omega
        · omega
        · omega
        · exact dB i j a1 hi b1 hj e
      · by_cases c1 : i = 0
        · subst c1; omega
        · by_cases c2 : i < f
          · have := rA i (by omega) c2; omega
          · have := rB i (by omega) hi; omega
      · obtain ⟨p1, p2, p3, p4, p5⟩ := hb
        have p4 : at0 o c < at0 o a := p4
        have p5 : at0 o a < at0 o b := p5
        by_cases ca : f ≤ a
        · refine hB.good (a - f) (b - f) (c - f) ⟨by omega, by omega, by rw [List.length_drop]; omega, ?_, ?_⟩
          · show at0 _ _ < at0 _ _
            rw [at_great, at_great, show f + (c - f) = c from by omega, show f + (a - f) = a from by omega]; exact p4
          · show at0 _ _ < at0 _ _
            rw [at_great, at_great, show f + (a - f) = a from by omega, show f + (b - f) = b from by omega]; exact p5
        · -- c is one of the smaller ones
          have hc : c < f := by
            rcases Nat.lt_or_ge c f with h | h
            · exact h
            · exfalso
              have := rB c h p3
              by_cases c1 : a = 0
              · subst c1; omega
              · have := rA a (by omega) (by omega); omega
          by_cases c1 : a = 0
          · subst c1
            have := rA b (by omega) (by omega)
            omega
          · refine hA.good (a - 1) (b - 1) (c - 1) ⟨by omega, by omega, by rw [len_small h2]; omega, ?_, ?_⟩
            · show at0 _ _ < at0 _ _
              rw [at_small (by omega), at_small (by omega), show a - 1 + 1 = a from by omega, show c - 1 + 1 = c from by omega]; exact p4
            · show at0 _ _ < at0 _ _
              rw [at_small (by omega), at_small (by omega), show a - 1 + 1 = a from by omega, show b - 1 + 1 = b from by omega]; exact p5
/-- The place of a rank. -/
theorem rank_place {n k : Nat} (hn : 0 < n) (hk : k < cat n) : ∃ j, j < n ∧ catSum n j ≤ k ∧ k < catSum n (j + 1) := by
  obtain ⟨m, rfl⟩ : ∃ m, n = m + 1 := ⟨n - 1, by omega⟩
  rw [cat_succ] at hk
  have : ∀ q, q ≤ m + 1 → k < catSum (m + 1) q → ∃ j, j < m + 1 ∧ catSum (m + 1) j ≤ k ∧ k < catSum (m + 1) (j + 1) := by
    intro q
    induction q with
    | zero => intro _ h; simp [catSum] at h
    | succ q ihq =>
      intro hq h
      by_cases hc : k < catSum (m + 1) q
      · exact ihq (by omega) hc
      · exact ⟨q, by omega, by omega, h⟩
  exact this (m + 1) (Nat.le_refl _) hk
/-- Rank takes back what Unrank makes. -/
theorem rank_unrank (t : Nat) : ∀ n k d, n ≤ t → k < cat n → RankOk t (unrankF t n k d) d ∧ rankF t (unrankF t n k d) d = k := by
  induction t with
  | zero => intro n k d h hk; rw [show n = 0 from by omega] at hk ⊢; rw [unrankF_zero]; exact ⟨rfl, by rw [cat_zero] at hk; rw [rankF]; omega⟩
  | succ t ih =>
    intro n k d h hk
    by_cases h0 : n = 0
    · subst h0; rw [unrankF_zero]; exact ⟨.inl rfl, by rw [cat_zero] at hk; rw [rankF_nil _ _ rfl]; omega⟩
    · obtain ⟨j, hj, h1, h2⟩ := rank_place (by omega) hk
      have hp := unrank_parts h2 h1
      obtain ⟨a1, a2⟩ := ih j _ d (by omega) hp.1
      obtain ⟨b1, b2⟩ := ih (n - 1 - j) _ (d + j + 1) (by omega) hp.2
      have la := unrankF_len t j _ d (by omega) hp.1
      have lb := unrankF_len t (n - 1 - j) _ (d + j + 1) (by omega) hp.2
      rw [unrankF_at (by omega) hj h1 h2]
      generalize hA : unrankF t j ((k - catSum n j) / cat (n - 1 - j)) d = A at *
      generalize hB : unrankF t (n - 1 - j) ((k - catSum n j) % cat (n - 1 - j)) (d + j + 1) = B at *
      have hs : ((((j + 1 + d : Nat) : Int) :: (A ++ B)).take (j + 1)).drop 1 = A := by
        rw [List.take_succ_cons, List.drop_succ_cons, List.drop_zero, List.take_append_of_le_length (by omega), List.take_of_length_le (by omega)]
      have hg : (((j + 1 + d : Nat) : Int) :: (A ++ B)).drop (j + 1) = B := by
        rw [List.drop_succ_cons, ← la, List.drop_left]
      have hf : (((j + 1 + d : Nat) : Int) :: (A ++ B))[0]?.getD 0 = (d : Int) + ((j + 1 : Nat) : Int) := by
        show ((j + 1 + d : Nat) : Int) = _; omega
      have hl : (((j + 1 + d : Nat) : Int) :: (A ++ B)).length = n := by rw [List.length_cons, List.length_append]; omega
      refine ⟨.inr ⟨j + 1, by omega, by omega, hf, by rw [hs]; exact a1, by rw [hg]; exact b1⟩, ?_⟩
      rw [rankF_at (by omega) hf, hs, hg, a2, show d + (j + 1) = d + j + 1 from rfl, b2, hl, show j + 1 - 1 = j from rfl, show n - (j + 1) = n - 1 - j from by omega]
      have := Nat.div_add_mod (k - catSum n j) (cat (n - 1 - j))
      rw [Nat.mul_comm] at this
      omega
/-- Unrank takes back what Rank makes. -/
theorem unrank_rank (t : Nat) : ∀ (o : List Int) (d : Nat), RankOk t o d → unrankF t o.length (rankF t o d) d = o := by
  induction t with
  | zero => intro o d h; rw [List.eq_nil_of_length_eq_zero h]; rfl
  | succ t ih =>
    intro o d h
    rcases h with h | ⟨f, h1, h2, h3, h4, h5⟩
    · rw [List.eq_nil_of_length_eq_zero h]; rfl
    · have a := rankF_lt t _ _ h4
      have b := rankF_lt t _ _ h5
      have ea := ih _ _ h4
      have eb := ih _ _ h5
      rw [len_small h2] at a ea
      rw [List.length_drop] at b eb
      rw [rankF_at (by omega) h3]
      generalize rankF t ((o.take f).drop 1) d = ra at *
      generalize rankF t (o.drop f) (d + f) = rb at *
      have hc : o.length - 1 - (f - 1) = o.length - f := by omega
      have hm : (ra + 1) * cat (o.length - f) ≤ cat (f - 1) * cat (o.length - f) := Nat.mul_le_mul_right _ a
      rw [Nat.succ_mul] at hm
      have hlt : catSum o.length (f - 1) + ra * cat (o.length - f) + rb < catSum o.length (f - 1 + 1) := by
        simp only [catSum]
        rw [hc]
        omega
      rw [unrankF_at (by omega) (j := f - 1) (by omega) (by omega) hlt, hc]
      have hq : catSum o.length (f - 1) + ra * cat (o.length - f) + rb - catSum o.length (f - 1) = rb + cat (o.length - f) * ra := by rw [Nat.mul_comm]; omega
      rw [hq, Nat.add_mul_div_left _ _ (by omega), Nat.div_eq_of_lt b, Nat.zero_add, Nat.add_mul_mod_self_left, Nat.mod_eq_of_lt b, ea, show d + (f - 1) + 1 = d + f from by omega, eb]
      obtain ⟨x, r, rfl⟩ : ∃ x r, o = x :: r := by cases o with
        | nil => simp at h2; omega
        | cons x r => exact ⟨x, r, rfl⟩
      obtain ⟨f', rfl⟩ : ∃ f', f = f' + 1 := ⟨f - 1, by omega⟩
      have hx : x = (d : Int) + ((f' + 1 : Nat) : Int) := h3
      rw [List.take_succ_cons, List.drop_succ_cons, List.drop_zero, List.drop_succ_cons, List.take_append_drop, hx]
      congr 1
      omega
/-- A greater rank, a lexicographically greater order. -/
theorem unrank_asc (t : Nat) : ∀ n k k' d, n ≤ t → k < k' → k' < cat n →
    ∃ i, i < n ∧ (∀ m, m < i → at0 (unrankF t n k d) m = at0 (unrankF t n k' d) m) ∧ at0 (unrankF t n k d) i < at0 (unrankF t n k' d) i := by
  induction t with
  | zero => intro n k k' d h hk hk'; rw [show n = 0 from by omega, cat_zero] at hk'; omega
  | succ t ih =>
    intro n k k' d h hk hk'
    by_cases h0 : n = 0
    · subst h0; rw [cat_zero] at hk'; omega
    · obtain ⟨j, hj, h1, h2⟩ := rank_place (by omega) (show k < cat n by omega)
      obtain ⟨j', hj', h1', h2'⟩ := rank_place (by omega) hk'
      have hle : j ≤ j' := by
        rcases Nat.lt_or_ge j' j with h | h
        · have := catSum_mono n (show j' + 1 ≤ j by omega); omega
        · exact h
      rw [unrankF_at (by omega) hj h1 h2, unrankF_at (by omega) hj' h1' h2']
      by_cases e : j = j'
      · subst e
        have hp := unrank_parts h2 h1
        have hp' := unrank_parts h2' h1'
        have la := unrankF_len t j _ d (by omega) hp.1
        have la' := unrankF_len t j _ d (by omega) hp'.1
        have hc := cat_pos (n - 1 - j)
        rcases Nat.lt_or_ge ((k - catSum n j) / cat (n - 1 - j)) ((k' - catSum n j) / cat (n - 1 - j)) with hq | hq
        · obtain ⟨i, p1, p2, p3⟩ := ih j _ _ d (by omega) hq hp'.1
          generalize unrankF t j ((k - catSum n j) / cat (n - 1 - j)) d = A at *
          generalize unrankF t j ((k' - catSum n j) / cat (n - 1 - j)) d = A' at *
          have hat : ∀ (B : List Int) (x : Int) (A : List Int) (m : Nat), m < A.length → at0 (x :: (A ++ B)) (m + 1) = at0 A m := fun B x A m hm => by
            unfold at0; rw [List.getElem?_cons_succ, List.getElem?_append_left hm]
          refine ⟨i + 1, by omega, fun m hm => ?_, ?_⟩
          · cases m with
            | zero => rfl
            | succ m => rw [hat _ _ _ _ (by omega), hat _ _ _ _ (by omega)]; exact p2 m (by omega)
          · rw [hat _ _ _ _ (by omega), hat _ _ _ _ (by omega)]; exact p3
        · have hq2 : (k - catSum n j) / cat (n - 1 - j) ≤ (k' - catSum n j) / cat (n - 1 - j) := Nat.div_le_div_right (by omega)
          have hqe : (k' - catSum n j) / cat (n - 1 - j) = (k - catSum n j) / cat (n - 1 - j) := by omega
          have hr : (k - catSum n j) % cat (n - 1 - j) < (k' - catSum n j) % cat (n - 1 - j) := by
            have e1 := Nat.div_add_mod (k - catSum n j) (cat (n - 1 - j))
            have e2 := Nat.div_add_mod (k' - catSum n j) (cat (n - 1 - j))
            rw [hqe] at e2
            omega
          obtain ⟨i, p1, p2, p3⟩ := ih (n - 1 - j) _ _ (d + j + 1) (by omega) hr hp'.2
          rw [hqe]
          generalize unrankF t j ((k - catSum n j) / cat (n - 1 - j)) d = A at *
          have hat : ∀ (B : List Int) (x : Int) (m : Nat), at0 (x :: (A ++ B)) (j + m + 1) = at0 B m := fun B x m => by
            unfold at0; rw [List.getElem?_cons_succ, List.getElem?_append_right (by omega), la, show j + m - j = m from by omega]
          refine ⟨j + i + 1, by omega, fun m hm => ?_, ?_⟩
          · by_cases c : m < j + 1
            · cases m with
              | zero => rfl
              | succ m => unfold at0; rw [List.getElem?_cons_succ, List.getElem?_cons_succ, List.getElem?_append_left (by omega), List.getElem?_append_left (by omega)]
            · obtain ⟨q, rfl⟩ : ∃ q, m = j + q + 1 := ⟨m - j - 1, by omega⟩
              rw [hat, hat]; exact p2 q (by omega)
          · rw [hat, hat]; exact p3
      · refine ⟨0, by omega, fun m hm => by omega, ?_⟩
        show ((j + 1 + d : Nat) : Int) < ((j' + 1 + d : Nat) : Int)
        omega
end Go.Proofs.Ytmnnehpoaedifaa
/- The law ShuntRanks, from what the program's functions promise. -/
namespace Go.Proofs.Ytmnnehpoaedifaa
open Go.RowKit

theorem goodAt_of_ord {o : List Int} (h : Ord o) (hg : Good o) : GoodAt o 0 :=
  ⟨h.diff, fun i hi => by have h1 := h.lo i hi; have h2 := h.hi i hi; unfold at0; omega, hg⟩
theorem ranks_bad (hA : AwakeOk) (hR : RankFnOk) (hP : PassOk) (A : Option Addr) (n c : Nat) (zs : List Int) (w : World) (hs : Sl w A n c zs) (m : Nat) (o : List Int) (hm : m = min n 61) (hoe : o = zs.take 61) (hlen : o.length = m) (hm61 : m ≤ 61)
    (hbe : false = ordB o 60) :
    Calls Try.prog 10 #[.slice A n c] w fun e w' => e = .returned (.bool true) ∧ Below w.heap.size w w' := by
  have HA := Lib.hid hA; clear hA
  have HR := Lib.hid hR; clear hR
  have HP := Lib.hid hP; clear hP
  have HL := Lib.hid (list_sl A n c zs w hs m o hm hoe); clear hs hm hoe
  have hlp : (passOf o).length = m := by rw [passOf_len, hlen]
  have HBE := Lib.hid hbe; clear hbe
  go_enter Try.func10, Try.ntmps10
  go_wp2_with (go_at_call 18; refine HL.out.mono ?_; rintro e w1 ⟨B, d, rfl, hsl, hb1⟩)
  have HO := fun u (hu : Sl u B m d o) => Lib.hid (order_sl B m d o u hu (by omega) false HBE.out)
  go_wp2_with (go_at_call 44; refine (HR.out B m d o w1 hsl).mono ?_; rintro e w2 ⟨k, x, rfl, h1, z1, z2, hb2⟩; clear z1 z2; obtain ⟨rfl, rfl⟩ := h1 (fun h => by rw [← HBE.out] at h; exact absurd h.1 (by decide)); clear h1)
  have hsl2 := hsl.below hb2 (Nat.le_refl _)
  go_wp2_with (go_at_call 45; refine (HP.out B m d o w2 hsl2).mono ?_; rintro e w3 ⟨v, x, l, rfl, ho, h1, z1, hb3⟩; clear z1; obtain ⟨rfl, rfl⟩ := h1 HBE.out.symm; clear h1; obtain ⟨A', c', rfl, _⟩ := ho.sl (by simp))
  have hsl3 := hsl2.below hb3 (Nat.le_refl _)
  go_wp2_with (first | (go_at_call 20; refine (HO _ hsl3).out.mono ?_; rintro e w4 ⟨rfl, hb4⟩) | (go_at_call 22; refine (HA.out _).mono ?_; rintro e w5 ⟨rfl, hb5⟩))
  go_ret
  exact ⟨rfl, (((Kp.call hb1 hb2).call hb3).call hb4).call hb5⟩
theorem ranks_many (hA : AwakeOk) (hR : RankFnOk) (hP : PassOk) (A : Option Addr) (n c : Nat) (zs : List Int) (w : World) (hs : Sl w A n c zs) (m : Nat) (o : List Int) (hm : m = min n 61) (hoe : o = zs.take 61) (hlen : o.length = m) (hm61 : m ≤ 61)
    (hbe : true = ordB o 60) (h31 : 30 < m) :
    Calls Try.prog 10 #[.slice A n c] w fun e w' => e = .returned (.bool true) ∧ Below w.heap.size w w' := by
  have HA := Lib.hid hA; clear hA
  have HR := Lib.hid hR; clear hR
  have HP := Lib.hid hP; clear hP
  have HL := Lib.hid (list_sl A n c zs w hs m o hm hoe); clear hs hm hoe
  have hlp : (passOf o).length = m := by rw [passOf_len, hlen]
  have HBE := Lib.hid hbe; clear hbe
  have h30 : ¬ m ≤ 30 := by omega
  go_enter Try.func10, Try.ntmps10
  go_wp2_with (go_at_call 18; refine HL.out.mono ?_; rintro e w1 ⟨B, d, rfl, hsl, hb1⟩)
  have HO := fun u (hu : Sl u B m d o) => Lib.hid (order_sl B m d o u hu (by omega) true HBE.out)
  go_wp2_with (go_at_call 44; refine (HR.out B m d o w1 hsl).mono ?_; rintro e w2 ⟨k, x, rfl, h1, z1, z2, hb2⟩; clear z1 z2; obtain ⟨rfl, rfl⟩ := h1 (fun h => h30 h.2); clear h1)
  have hsl2 := hsl.below hb2 (Nat.le_refl _)
  go_wp2_with (go_at_call 45; refine (HP.out B m d o w2 hsl2).mono ?_; rintro e w3 ⟨v, x, l, rfl, ho, z1, h1, hb3⟩; clear z1; obtain ⟨rfl, rfl⟩ := h1 HBE.out.symm; clear h1; obtain ⟨A', c', rfl, hp3⟩ := ho.sl_len hlp (by omega))
  have hsl3 := hsl2.below hb3 (Nat.le_refl _)
  go_wp2_with (go_at_call 20; refine (HO _ hsl3).out.mono ?_; rintro e w4 ⟨rfl, hb4⟩)
  have hsl4 := hsl3.below hb4 (Nat.le_refl _)
  go_wp2_with (go_at_call 46; refine (pass_any B m d o w4 hsl4 (by omega)).mono ?_; rintro e w5 ⟨v', rfl, ho', hb5⟩; obtain ⟨A'', c'', rfl, hq5⟩ := ho'.sl_len hlp (by omega))
  have hp5 := (hp3.below hb4 (Nat.le_refl _)).below hb5 (Nat.le_refl _)
  have HI := Lib.hid (ints_same A' A'' (passOf o) m c' c'' w5 hlp (by omega) hp5.rd hq5.rd)
  go_wp2_with (first | (go_at_call 42; refine HI.out.mono ?_; rintro e w6 ⟨rfl, hd6⟩) | (go_at_call 22; refine (HA.out _).mono ?_; rintro e w8 ⟨rfl, hb8⟩))
  go_ret
  exact ⟨rfl, (((((Kp.call hb1 hb2).call hb3).call hb4).call hb5).call (hd6.below _)).call hb8⟩
theorem ranks_none (hA : AwakeOk) (hR : RankFnOk) (hP : PassOk) (A : Option Addr) (n c : Nat) (zs : List Int) (w : World) (hs : Sl w A n c zs) (m : Nat) (o : List Int) (hm : m = min n 61) (hoe : o = zs.take 61) (hlen : o.length = m) (hm61 : m ≤ 61)
    (hbe : true = ordB o 60) (h30 : m ≤ 30) (hge : false = ascB (passOf o)) :
    Calls Try.prog 10 #[.slice A n c] w fun e w' => e = .returned (.bool true) ∧ Below w.heap.size w w' := by
  have HA := Lib.hid hA; clear hA
  have HR := Lib.hid hR; clear hR
  have HP := Lib.hid hP; clear hP
  have HL := Lib.hid (list_sl A n c zs w hs m o hm hoe); clear hs hm hoe
  have hlp : (passOf o).length = m := by rw [passOf_len, hlen]
  have HBE := Lib.hid hbe; clear hbe
  have HGE := Lib.hid hge; clear hge
  have h31 : ¬ 30 < m := by omega
  go_enter Try.func10, Try.ntmps10
  go_wp2_with (go_at_call 18; refine HL.out.mono ?_; rintro e w1 ⟨B, d, rfl, hsl, hb1⟩)
  have HO := fun u (hu : Sl u B m d o) => Lib.hid (order_sl B m d o u hu (by omega) true HBE.out)
  have HOS := fun u (hu : Sl u B m d o) => Lib.hid (oneStack_any B m d o u hu (by omega))
  rw [← HGE.out] at HOS
  go_wp2_with (go_at_call 44; refine (HR.out B m d o w1 hsl).mono ?_; rintro e w2 ⟨k, x, rfl, z1, h1, z2, hb2⟩; clear z1 z2; obtain ⟨rfl, rfl⟩ := h1 HBE.out.symm h30 HGE.out.symm; clear h1)
  have hsl2 := hsl.below hb2 (Nat.le_refl _)
  go_wp2_with (go_at_call 45; refine (HP.out B m d o w2 hsl2).mono ?_; rintro e w3 ⟨v, x, l, rfl, ho, z1, h1, hb3⟩; clear z1; obtain ⟨rfl, rfl⟩ := h1 HBE.out.symm; clear h1; obtain ⟨A', c', rfl, hp3⟩ := ho.sl_len hlp (by omega))
  have hsl3 := hsl2.below hb3 (Nat.le_refl _)
  go_wp2_with (go_at_call 20; refine (HO _ hsl3).out.mono ?_; rintro e w4 ⟨rfl, hb4⟩)
  have hsl4 := hsl3.below hb4 (Nat.le_refl _)
  go_wp2_with (go_at_call 46; refine (pass_any B m d o w4 hsl4 (by omega)).mono ?_; rintro e w5 ⟨v', rfl, ho', hb5⟩; obtain ⟨A'', c'', rfl, hq5⟩ := ho'.sl_len hlp (by omega))
  have hsl5 := hsl4.below hb5 (Nat.le_refl _)
  have hp5 := (hp3.below hb4 (Nat.le_refl _)).below hb5 (Nat.le_refl _)
  have HI := Lib.hid (ints_same A' A'' (passOf o) m c' c'' w5 hlp (by omega) hp5.rd hq5.rd)
  go_wp2_with (go_at_call 42; refine HI.out.mono ?_; rintro e w6 ⟨rfl, hd6⟩)
  have hb6 := hd6.below w5.heap.size
  have hsl6 := hsl5.below hb6 (Nat.le_refl _)
  go_wp2_with (first | (go_at_call 23; refine (HOS _ hsl6).out.mono ?_; rintro e w7 ⟨rfl, hb7⟩) | (go_at_call 22; refine (HA.out _).mono ?_; rintro e w8 ⟨rfl, hb8⟩))
  go_ret
  exact ⟨rfl, ((((((Kp.call hb1 hb2).call hb3).call hb4).call hb5).call hb6).call hb7).call hb8⟩
theorem ranks_one (hA : AwakeOk) (hR : RankFnOk) (hP : PassOk) (A : Option Addr) (n c : Nat) (zs : List Int) (w : World) (hs : Sl w A n c zs) (m : Nat) (o : List Int) (hm : m = min n 61) (hoe : o = zs.take 61) (hlen : o.length = m) (hm61 : m ≤ 61)
    (hbe : true = ordB o 60) (h30 : m ≤ 30) (hge : true = ascB (passOf o)) :
    Calls Try.prog 10 #[.slice A n c] w fun e w' => e = .returned (.bool true) ∧ Below w.heap.size w w' := by
  have HA := Lib.hid hA; clear hA
  have HR := Lib.hid hR; clear hR
  have HP := Lib.hid hP; clear hP
  have HL := Lib.hid (list_sl A n c zs w hs m o hm hoe); clear hs hm hoe
  have hlp : (passOf o).length = m := by rw [passOf_len, hlen]
  have HBE := Lib.hid hbe; clear hbe
  have HGE := Lib.hid hge; clear hge
  have h31 : ¬ 30 < m := by omega
  go_enter Try.func10, Try.ntmps10
  go_wp2_with (go_at_call 18; refine HL.out.mono ?_; rintro e w1 ⟨B, d, rfl, hsl, hb1⟩)
  have HO := fun u (hu : Sl u B m d o) => Lib.hid (order_sl B m d o u hu (by omega) true HBE.out)
  have HOS := fun u (hu : Sl u B m d o) => Lib.hid (oneStack_any B m d o u hu (by omega))
  rw [← HGE.out] at HOS
  have hord := (ordB_iff.1 HBE.out.symm).1
  have hok : RankOk m o 0 := rankOk_of_good m o 0 (by omega) (goodAt_of_ord hord (oneStack_iff hord.diff |>.1 HGE.out.symm))
  go_wp2_with (go_at_call 44; refine (HR.out B m d o w1 hsl).mono ?_; rintro e w2 ⟨k, x, rfl, z1, z2, h1, hb2⟩; clear z1 z2; obtain ⟨rfl, rfl⟩ := h1 HBE.out.symm h30 HGE.out.symm; clear h1)
  have hsl2 := hsl.below hb2 (Nat.le_refl _)
  go_wp2_with (go_at_call 45; refine (HP.out B m d o w2 hsl2).mono ?_; rintro e w3 ⟨v, x, l, rfl, ho, z1, h1, hb3⟩; clear z1; obtain ⟨rfl, rfl⟩ := h1 HBE.out.symm; clear h1; obtain ⟨A', c', rfl, hp3⟩ := ho.sl_len hlp (by omega))
  have hsl3 := hsl2.below hb3 (Nat.le_refl _)
  go_wp2_with (go_at_call 20; refine (HO _ hsl3).out.mono ?_; rintro e w4 ⟨rfl, hb4⟩)
  have hsl4 := hsl3.below hb4 (Nat.le_refl _)
  go_wp2_with (go_at_call 46; refine (pass_any B m d o w4 hsl4 (by omega)).mono ?_; rintro e w5 ⟨v', rfl, ho', hb5⟩; obtain ⟨A'', c'', rfl, hq5⟩ := ho'.sl_len hlp (by omega))
  have hsl5 := hsl4.below hb5 (Nat.le_refl _)
  have hp5 := (hp3.below hb4 (Nat.le_refl _)).below hb5 (Nat.le_refl _)
  have HI := Lib.hid (ints_same A' A'' (passOf o) m c' c'' w5 hlp (by omega) hp5.rd hq5.rd)
  go_wp2_with (go_at_call 42; refine HI.out.mono ?_; rintro e w6 ⟨rfl, hd6⟩)
  have hb6 := hd6.below w5.heap.size
  have hsl6 := hsl5.below hb6 (Nat.le_refl _)
  go_wp2_with (go_at_call 23; refine (HOS _ hsl6).out.mono ?_; rintro e w7 ⟨rfl, hb7⟩)
  have hsl7 := hsl6.below hb7 (Nat.le_refl _)
  have HRK := Lib.hid (rank_any m B m d o 0 w7 hsl7 h30 (by omega) hok)
  go_wp2_with (first | (go_at_call 47; refine HRK.out.mono ?_; rintro e w8 ⟨rfl, hb8⟩) | (go_at_call 22; refine (HA.out _).mono ?_; rintro e w9 ⟨rfl, hb9⟩))
  go_ret
  exact ⟨rfl, (((((((Kp.call hb1 hb2).call hb3).call hb4).call hb5).call hb6).call hb7).call hb8).call hb9⟩
theorem ranks_law (hA : AwakeOk) (hR : RankFnOk) (hP : PassOk) (A : Option Addr) (n c : Nat) (zs : List Int) (w : World) (hs : Sl w A n c zs) :
    Calls Try.prog 10 #[.slice A n c] w fun e w' => e = .returned (.bool true) ∧ Below w.heap.size w w' := by
  obtain ⟨m, o, hm, hoe, hlen, h61⟩ := list_has hs
  cases hb : ordB o 60 with
  | false => exact ranks_bad hA hR hP A n c zs w hs m o hm hoe hlen h61 hb.symm
  | true =>
    by_cases h30 : m ≤ 30
    · cases hg : ascB (passOf o) with
      | false => exact ranks_none hA hR hP A n c zs w hs m o hm hoe hlen h61 hb.symm h30 hg.symm
      | true => exact ranks_one hA hR hP A n c zs w hs m o hm hoe hlen h61 hb.symm h30 hg.symm
    · exact ranks_many hA hR hP A n c zs w hs m o hm hoe hlen h61 hb.symm (by omega)
end Go.Proofs.Ytmnnehpoaedifaa
/- Plain mathematics of layer 2: the plan that lets each item leave as soon as it can; it sorts what has no block. -/
namespace Go.Proofs.Ytmnnehpoaedifaa

/-- Pops as long as the top is the item that is wanted next: the stack (its top first), the item wanted next, the plan so far. -/
def popE : List Int → Nat → List UInt8 → List Int × Nat × List UInt8
  | [], nx, p => ([], nx, p)
  | t :: r, nx, p => if t = (nx : Int) then popE r (nx + 1) (p ++ [111]) else (t :: r, nx, p)
def eagerStep (s : List Int × Nat × List UInt8) (x : Int) : List Int × Nat × List UInt8 := popE (x :: s.1) s.2.1 (s.2.2 ++ [105])
def eagerTo (o : List Int) (k : Nat) : List Int × Nat × List UInt8 := (o.take k).foldl eagerStep ([], 1, [])
def eagerOf (o : List Int) : List UInt8 := (eagerTo o o.length).2.2
theorem eagerTo_succ (o : List Int) (k : Nat) (hk : k < o.length) : eagerTo o (k + 1) = eagerStep (eagerTo o k) (o[k]?.getD 0) := by
  unfold eagerTo
  rw [List.take_succ_eq_append_getElem hk, List.foldl_append, List.getElem?_eq_getElem hk]
  rfl
/-- Lengths: the plan has a step for each push and each pop. -/
theorem popE_len (r : List Int) (nx : Nat) (p : List UInt8) : (popE r nx p).2.2.length + nx = p.length + (popE r nx p).2.1 ∧ (popE r nx p).1.length + (popE r nx p).2.1 = r.length + nx := by
  induction r generalizing nx p with
  | nil => exact ⟨rfl, rfl⟩
  | cons t r ih =>
    rw [popE]
    split
    · have := ih (nx + 1) (p ++ [111])
      simp at this ⊢; omega
    · exact ⟨rfl, rfl⟩
theorem popE_ge (r : List Int) (nx : Nat) (p : List UInt8) : nx ≤ (popE r nx p).2.1 := by
  induction r generalizing nx p with
  | nil => exact Nat.le_refl _
  | cons t r ih =>
    rw [popE]
    split
    · have := ih (nx + 1) (p ++ [111]); omega
    · exact Nat.le_refl _
theorem eager_len (o : List Int) (k : Nat) (hk : k ≤ o.length) : (eagerTo o k).2.2.length + 1 = k + (eagerTo o k).2.1 ∧ (eagerTo o k).1.length + (eagerTo o k).2.1 = k + 1 := by
  induction k with
  | zero => exact ⟨rfl, rfl⟩
  | succ k ih =>
    rw [eagerTo_succ o k (by omega)]
    unfold eagerStep
    have h1 := popE_len (o[k]?.getD 0 :: (eagerTo o k).1) (eagerTo o k).2.1 ((eagerTo o k).2.2 ++ [105])
    have h2 := ih (by omega)
    simp at h1 ⊢
    omega
theorem plan_snoc {o : List Int} {p : List UInt8} {ch : UInt8} {s : List Int × Nat × Nat} (h : p.foldlM (planStep o) ([], 0, 1) = some s) : (p ++ [ch]).foldlM (planStep o) ([], 0, 1) = planStep o s ch := by
  rw [List.foldlM_append, h]
  simp
theorem popE_plan (o : List Int) (k : Nat) (r : List Int) (nx : Nat) (p : List UInt8) (h : p.foldlM (planStep o) ([], 0, 1) = some (r, k, nx)) :
    (popE r nx p).2.2.foldlM (planStep o) ([], 0, 1) = some ((popE r nx p).1, k, (popE r nx p).2.1) := by
  induction r generalizing nx p with
  | nil => exact h
  | cons t r ih =>
    rw [popE]
    split
    · rename_i ht
      refine ih (nx + 1) (p ++ [111]) ?_
      rw [plan_snoc h]
      unfold planStep
      rw [if_neg (by intro hc; exact absurd hc.1 (by decide))]
      simp [ht]
    · exact h
theorem eager_plan (o : List Int) (k : Nat) (hk : k ≤ o.length) : (eagerTo o k).2.2.foldlM (planStep o) ([], 0, 1) = some ((eagerTo o k).1, k, (eagerTo o k).2.1) := by
  induction k with
  | zero => rfl
  | succ k ih =>
    rw [eagerTo_succ o k (by omega)]
    unfold eagerStep
    refine popE_plan o (k + 1) _ _ _ ?_
    rw [plan_snoc (ih (by omega))]
    unfold planStep
    rw [if_pos ⟨by decide, by show k < o.length; omega⟩]
/-- What holds after k items of an order without a block. -/
structure EagerInv (o : List Int) (k : Nat) (r : List Int) (nx : Nat) : Prop where
  asc : r.Pairwise (· < ·)
  lo : ∀ x ∈ r, (nx : Int) ≤ x
  from_ : ∀ x ∈ r, ∃ i, i < k ∧ at0 o i = x
  gone : ∀ i, i < k → at0 o i < nx ∨ at0 o i ∈ r
  later : ∀ i, k ≤ i → i < o.length → (nx : Int) ≤ at0 o i
theorem EagerInv.pop {o : List Int} {k : Nat} (hd : Diff o) (_hk : k ≤ o.length) : ∀ (r : List Int) (nx : Nat) (p : List UInt8), EagerInv o k r nx →
    EagerInv o k (popE r nx p).1 (popE r nx p).2.1 ∧ ∀ x ∈ (popE r nx p).1, ((popE r nx p).2.1 : Int) < x := by
  intro r
  induction r with
  | nil => intro nx p h; exact ⟨h, by simp [popE]⟩
  | cons t r ih =>
    intro nx p h
    have ha := List.pairwise_cons.1 h.asc
    rw [popE]
    split
    · rename_i ht
      refine ih (nx + 1) (p ++ [111]) ⟨ha.2, fun x hx => ?_, fun x hx => h.from_ x (List.mem_cons_of_mem _ hx), fun i hi => ?_, fun i h1 h2 => ?_⟩
      · have := ha.1 x hx; omega
      · rcases h.gone i hi with h' | h'
        · exact .inl (by omega)
        · rcases List.mem_cons.1 h' with e | h''
          · exact .inl (by omega)
          · exact .inr h''
      · have h3 := h.later i h1 h2
        obtain ⟨j, hj, e⟩ := h.from_ t (List.mem_cons_self ..)
        have hne : at0 o i ≠ at0 o j := fun e' => by
          have := hd i j h2 (by omega) e'
          omega
        omega
    · rename_i ht
      refine ⟨h, fun x hx => ?_⟩
      have h0 := h.lo t (List.mem_cons_self ..)
      rcases List.mem_cons.1 hx with e | hx
      · subst e
        show (nx : Int) < x
        omega
      · have := ha.1 x hx
        show (nx : Int) < x
        omega
theorem eager_inv (o : List Int) (hd : Diff o) (hr : ∀ i, i < o.length → 1 ≤ at0 o i ∧ at0 o i ≤ o.length) (hg : Good o) (k : Nat) (hk : k ≤ o.length) :
    1 ≤ (eagerTo o k).2.1 ∧ EagerInv o k (eagerTo o k).1 (eagerTo o k).2.1 ∧ ∀ x ∈ (eagerTo o k).1, ((eagerTo o k).2.1 : Int) < x := by
  induction k with
  | zero => exact ⟨Nat.le_refl _, ⟨List.Pairwise.nil, by simp [eagerTo], by simp [eagerTo], by intro i h; omega, fun i _ h2 => (hr i h2).1⟩, by simp [eagerTo]⟩
  | succ k ih =>
    obtain ⟨h1, h, hlt⟩ := ih (by omega)
    rw [eagerTo_succ o k (by omega)]
    unfold eagerStep
    have hpl := popE_len (o[k]?.getD 0 :: (eagerTo o k).1) (eagerTo o k).2.1 ((eagerTo o k).2.2 ++ [105])
    generalize hst : eagerTo o k = st at *
    obtain ⟨r, nx, p⟩ := st
    simp only at h1 h hlt hpl ⊢
    have hx := h.later k (Nat.le_refl _) (by omega)
    have hnew : EagerInv o (k + 1) (at0 o k :: r) nx := by
      refine ⟨List.pairwise_cons.2 ⟨fun y hy => ?_, h.asc⟩, fun x hx' => ?_, fun x hx' => ?_, fun i hi => ?_, fun i h2 h3 => h.later i (by omega) h3⟩
      · obtain ⟨i, hi, rfl⟩ := h.from_ y hy
        have hy1 := hlt _ hy
        rcases Int.lt_or_le (at0 o k) (at0 o i) with hc | hc
        · exact hc
        · exfalso
          have hne : at0 o k ≠ at0 o i := fun e => by
            have := hd k i (by omega) (by omega) e
            omega
          have hri := hr i (by omega)
          obtain ⟨c, hc1, hc2⟩ := ord_surj hd hr (v := nx) h1 (by omega)
          by_cases hck : c < k
          · rcases h.gone c hck with h5 | h5
            · omega
            · have := hlt _ h5; omega
          · have hkc : c ≠ k := fun e => by subst e; omega
            have hc2' : o[c]?.getD 0 = (nx : Int) := hc2
            have e1 : at0 o i = o[i]?.getD 0 := rfl
            have e2 : at0 o k = o[k]?.getD 0 := rfl
            exact hg i k c ⟨hi, by omega, hc1, by omega, by omega⟩
      · rcases List.mem_cons.1 hx' with e | hx'
        · rw [e]; exact hx
        · exact h.lo x hx'
      · rcases List.mem_cons.1 hx' with e | hx'
        · exact ⟨k, by omega, e.symm⟩
        · obtain ⟨i, hi, e⟩ := h.from_ x hx'
          exact ⟨i, by omega, e⟩
      · by_cases e : i = k
        · subst e; exact .inr (List.mem_cons_self ..)
        · rcases h.gone i (by omega) with h5 | h5
          · exact .inl h5
          · exact .inr (List.mem_cons_of_mem _ h5)
    have hp := hnew.pop hd (by omega) (at0 o k :: r) nx (p ++ [105])
    refine ⟨?_, hp.1, hp.2⟩
    show 1 ≤ (popE (at0 o k :: r) nx (p ++ [105])).2.1
    have : at0 o k = o[k]?.getD 0 := rfl
    rw [this]
    have h2 := hpl.1
    have h3 := hpl.2
    have : (popE (o[k]?.getD 0 :: r) nx (p ++ [105])).2.2.length + nx = (p ++ [105]).length + (popE (o[k]?.getD 0 :: r) nx (p ++ [105])).2.1 := h2
    have hmono : nx ≤ (popE (o[k]?.getD 0 :: r) nx (p ++ [105])).2.1 := popE_ge _ _ _
    omega
/-- The plan sorts, where there is no block. -/
theorem eager_sorts (o : List Int) (hd : Diff o) (hr : ∀ i, i < o.length → 1 ≤ at0 o i ∧ at0 o i ≤ o.length) (hg : Good o) : planB o (eagerOf o) = true := by
  obtain ⟨h1, h, hlt⟩ := eager_inv o hd hr hg o.length (Nat.le_refl _)
  have hl := eager_len o o.length (Nat.le_refl _)
  have hnil : (eagerTo o o.length).1 = [] := by
    rcases hx : (eagerTo o o.length).1 with _ | ⟨t, r⟩
    · rfl
    · exfalso
      rw [hx] at h hlt
      have ht := hlt t (List.mem_cons_self ..)
      obtain ⟨i, hi, e⟩ := h.from_ t (List.mem_cons_self ..)
      have hri := hr i hi
      obtain ⟨c, hc1, hc2⟩ := ord_surj hd hr (v := (eagerTo o o.length).2.1) h1 (by omega)
      rcases h.gone c hc1 with h5 | h5
      · omega
      · have := hlt _ h5; omega
  have hp := eager_plan o o.length (Nat.le_refl _)
  rw [hnil] at hl
  unfold planB planTo eagerOf
  rw [List.take_length, hp]
  simp at hl ⊢
  omega
theorem eagerOf_len (o : List Int) : (eagerOf o).length ≤ 2 * o.length := by
  have hl := eager_len o o.length (Nat.le_refl _)
  unfold eagerOf
  omega
end Go.Proofs.Ytmnnehpoaedifaa
