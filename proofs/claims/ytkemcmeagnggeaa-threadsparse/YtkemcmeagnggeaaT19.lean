import Derived.Test.YtkemcmeagnggeaaT12
import Derived.Test.YtkemcmeagnggeaaT15
import Derived.Test.YtkemcmeagnggeaaT02
/- Layer 3, plain mathematics: subsequences are sublists. -/
namespace Go.Proofs.Ytkemcmeagnggeaa
open Go.RowKit
set_option linter.unusedVariables false

theorem take_snoc {x : List Int} {k : Nat} (h : k < x.length) : x.take (k + 1) = x.take k ++ [x[k]?.getD 0] := by
  rw [List.take_add_one, List.getElem?_eq_getElem h]; rfl
theorem mem_at {x r1 r2 : List Int} {m : Nat} {c : Int} (h : x.take m = r1 ++ r2) (hc : c ∈ r2) : ∃ j, r1.length ≤ j ∧ j < m ∧ j < x.length ∧ x[j]?.getD 0 = c := by
  obtain ⟨i, hi, he⟩ := List.mem_iff_getElem.1 hc
  have hl : (x.take m).length = r1.length + r2.length := by rw [h, List.length_append]
  rw [List.length_take] at hl
  refine ⟨r1.length + i, by omega, by omega, by omega, ?_⟩
  have h1 : (x.take m)[r1.length + i]? = some c := by
    rw [h, List.getElem?_append_right (by omega), show r1.length + i - r1.length = i from by omega, List.getElem?_eq_getElem hi, he]
  rw [List.getElem?_take_of_lt (by omega)] at h1
  rw [h1]; rfl
theorem pre_take {x r1 r2 : List Int} {m : Nat} (h : x.take m = r1 ++ r2) : r1 = x.take r1.length := by
  have h1 : (x.take m).take r1.length = r1 := by rw [h, List.take_append_of_le_length (Nat.le_refl _), List.take_length]
  have hl : (x.take m).length = r1.length + r2.length := by rw [h, List.length_append]
  rw [List.length_take] at hl
  rw [List.take_take, Nat.min_eq_left (by omega)] at h1
  exact h1.symm
/-- What Within has after k letters, in words of sublists. -/
theorem withinTo_sub (x w : List Int) : ∀ k, k ≤ x.length →
    (withinTo x w k = none ∧ ¬ (x.take k).Sublist w) ∨ ∃ p, withinTo x w k = some p ∧ p.2 ≤ w.length ∧ (x.take k).Sublist (w.take p.2) ∧ ∀ m, (x.take k).Sublist (w.take m) → p.2 ≤ m := by
  intro k
  induction k with
  | zero => intro _; exact .inr ⟨([], 0), rfl, Nat.zero_le _, by simp, fun m _ => Nat.zero_le _⟩
  | succ k ih =>
    intro hk
    have hx := take_snoc (x := x) (k := k) (by omega)
    rcases ih (by omega) with ⟨h1, h2⟩ | ⟨p, h1, h2, h3, h4⟩
    · refine .inl ⟨by rw [withinTo, h1], fun h => h2 ((List.Sublist.trans ?_ h))⟩
      rw [hx]; exact List.sublist_append_left _ _
    · generalize hcc : x[k]?.getD 0 = c at hx
      have late : ∀ m, (x.take (k + 1)).Sublist (w.take m) → ∃ j, p.2 ≤ j ∧ j < m ∧ j < w.length ∧ w[j]?.getD 0 = c := fun m hm => by
        rw [hx] at hm
        obtain ⟨r1, r2, e, s1, s2⟩ := List.append_sublist_iff.1 hm
        have hr := pre_take e
        rw [hr] at s1
        obtain ⟨j, j1, j2, j3, j4⟩ := mem_at e (List.singleton_sublist.1 s2)
        have := h4 _ s1
        exact ⟨j, by omega, j2, j3, j4⟩
      rcases nextF_cases w p.2 c with ⟨i, i1, i2, i3, i4, i5⟩ | ⟨n1, n2⟩
      · refine .inr ⟨(p.1 ++ [nextF w p.2 c - 1], (nextF w p.2 c).toNat), ?_, ?_, ?_, ?_⟩
        · rw [withinTo, h1]
          simp only [hcc]
          rw [if_neg (by omega)]
        · show (nextF w p.2 c).toNat ≤ _; omega
        · show (x.take (k + 1)).Sublist (w.take (nextF w p.2 c).toNat)
          rw [i5, show ((i : Int) + 1).toNat = i + 1 from by omega, take_snoc i2, i3, hx]
          refine List.Sublist.append (h3.trans ?_) (List.Sublist.refl _)
          have : w.take p.2 = (w.take i).take p.2 := by rw [List.take_take, Nat.min_eq_left i1]
          rw [this]; exact List.take_sublist _ _
        · intro m hm
          show (nextF w p.2 c).toNat ≤ m
          obtain ⟨j, j1, j2, j3, j4⟩ := late m hm
          have : ¬ j < i := fun hji => i4 j j1 hji j4
          omega
      · refine .inl ⟨?_, fun h => ?_⟩
        · rw [withinTo, h1]
          simp only [hcc]
          rw [if_pos (by omega)]
        · have : (x.take (k + 1)).Sublist (w.take w.length) := by rw [List.take_length]; exact h
          obtain ⟨j, j1, j2, j3, j4⟩ := late _ this
          exact n1 j j1 j3 j4
theorem sub_iff {x w : List Int} : subB x w = true ↔ x.Sublist w := by
  unfold subB withinF
  rcases withinTo_sub x w x.length (Nat.le_refl _) with ⟨h1, h2⟩ | ⟨p, h1, h2, h3, h4⟩
  · rw [h1, List.take_length] at *
    constructor
    · intro h; cases h
    · intro h; exact absurd h h2
  · rw [h1, List.take_length] at *
    exact ⟨fun _ => h3.trans (List.take_sublist _ _), fun _ => rfl⟩
theorem sub_false {x w : List Int} : subB x w = false ↔ ¬ x.Sublist w := by
  rw [← sub_iff]; simp
theorem isW_sub {k : Nat} {x w : List Int} (h : x.Sublist w) (hw : isW k w) : isW k x := fun b hb => hw b (h.subset hb)

/-- Behind the first letter c. -/
theorem cons_sub {w : List Int} {i : Nat} (hi : i ≤ w.length) (c : Int) (y : List Int) : (c :: y).Sublist (w.drop i) ↔ ∃ K : Nat, nextF w i c = (K : Int) ∧ K ≤ w.length ∧ y.Sublist (w.drop K) := by
  constructor
  · intro h
    obtain ⟨r1, r2, e, h1, h2⟩ := List.cons_sublist_iff.1 h
    obtain ⟨j, hj, hjc⟩ := List.mem_iff_getElem.1 h1
    have hl : (w.drop i).length = r1.length + r2.length := by rw [e, List.length_append]
    rw [List.length_drop] at hl
    have hat : w[i + j]?.getD 0 = c := by
      rw [← List.getElem?_drop, e, List.getElem?_append_left (by omega), List.getElem?_eq_getElem hj, hjc]; rfl
    rcases nextF_cases w i c with ⟨q, q1, q2, q3, q4, q5⟩ | ⟨n1, n2⟩
    · refine ⟨q + 1, by rw [q5]; omega, by omega, h2.trans ?_⟩
      have hq : q ≤ i + j := by
        rcases Nat.lt_or_ge (i + j) q with hlt | hge
        · exact absurd hat (q4 _ (by omega) hlt)
        · exact hge
      have e2 : r2 = w.drop (i + r1.length) := by
        rw [← List.drop_drop, e, List.drop_left]
      rw [e2, show i + r1.length = (q + 1) + (i + r1.length - (q + 1)) from by omega, ← List.drop_drop]
      exact List.drop_sublist _ _
    · exact absurd hat (n1 _ (by omega) (by omega))
  · rintro ⟨K, h1, h2, h3⟩
    rcases nextF_cases w i c with ⟨q, q1, q2, q3, q4, q5⟩ | ⟨n1, n2⟩
    · obtain rfl : K = q + 1 := by omega
      have e : w.drop q = c :: w.drop (q + 1) := by
        rw [List.drop_eq_getElem_cons q2]
        rw [List.getElem?_eq_getElem q2, Option.getD_some] at q3
        rw [q3]
      have e2 : (w.drop q).Sublist (w.drop i) := by
        rw [show q = i + (q - i) from by omega, ← List.drop_drop]
        exact List.drop_sublist _ _
      rw [e] at e2
      exact (h3.cons_cons c).trans e2
    · omega
theorem subC_mem {w : List Int} {i : Nat} : ∀ (m : Nat) (x : List Int), x ∈ subC w i m ↔ x = [] ∨ ∃ c : Nat, c < m ∧ ∃ K : Nat, nextF w i (97 + (c : Int)) = (K : Int) ∧ ∃ y, x = (97 + (c : Int)) :: y ∧ y ∈ subsF w K := by
  intro m
  induction m with
  | zero => intro x; simp [subC]
  | succ m ih =>
    intro x
    rw [subC, List.mem_append, ih x]
    constructor
    · rintro ((h | ⟨c, hc, r⟩) | h)
      · exact .inl h
      · exact .inr ⟨c, by omega, r⟩
      · split at h
        · cases h
        · rename_i hn
          obtain ⟨y, hy, rfl⟩ := List.mem_map.1 h
          exact .inr ⟨m, by omega, (nextF w i (97 + (m : Int))).toNat, by omega, y, rfl, hy⟩
    · rintro (h | ⟨c, hc, K, hK, y, rfl, hy⟩)
      · exact .inl (.inl h)
      · by_cases e : c = m
        · subst e
          refine .inr ?_
          rw [if_neg (by omega), hK]
          exact List.mem_map.2 ⟨y, by simpa using hy, rfl⟩
        · exact .inl (.inr ⟨c, by omega, K, hK, y, rfl, hy⟩)
/-- The list of all subsequences holds the words that are sublists. -/
theorem subsF_mem (w : List Int) : ∀ (x : List Int) (i : Nat), i ≤ w.length → (x ∈ subsF w i ↔ isW 4 x ∧ x.Sublist (w.drop i)) := by
  intro x
  induction x with
  | nil => intro i hi; rw [subsF_parts w i hi, subC_mem]; simp [isW]
  | cons a y ih =>
    intro i hi
    rw [subsF_parts w i hi, subC_mem, cons_sub hi]
    constructor
    · rintro (h | ⟨c, hc, K, hK, z, e, hz⟩)
      · cases h
      · injection e with e1 e2
        subst e1; subst e2
        have hr := nextF_rng w i (97 + (c : Int))
        have := (ih K (by omega)).1 hz
        refine ⟨fun b hb => ?_, K, hK, by omega, this.2⟩
        rcases List.mem_cons.1 hb with rfl | hb
        · omega
        · exact this.1 b hb
    · rintro ⟨hw, K, hK, hKl, hy⟩
      have ha := hw a (by simp)
      have hc : 97 + (((a - 97).toNat : Nat) : Int) = a := by omega
      refine .inr ⟨(a - 97).toNat, by omega, K, by rw [hc]; exact hK, y, by rw [hc], (ih K hKl).2 ⟨fun b hb => hw b (List.mem_cons_of_mem _ hb), hy⟩⟩
theorem subs_mem (w x : List Int) : x ∈ subsF w 0 ↔ isW 4 x ∧ x.Sublist w := by
  have := subsF_mem w x 0 (Nat.zero_le _)
  rwa [List.drop_zero] at this
end Go.Proofs.Ytkemcmeagnggeaa
/- Layer 3, plain mathematics: how many subsequences there are, and their order. -/
namespace Go.Proofs.Ytkemcmeagnggeaa
open Go.RowKit
set_option linter.unusedVariables false

theorem map_nodup {f : List Int → List Int} {l : List (List Int)} (h : l.Nodup) (hf : ∀ x ∈ l, ∀ y ∈ l, f x = f y → x = y) : (l.map f).Nodup := by
  induction l with
  | nil => exact List.nodup_nil
  | cons a l ih =>
    rw [List.map_cons]
    have h' := List.nodup_cons.1 h
    refine List.nodup_cons.2 ⟨fun hm => ?_, ih h'.2 fun x hx y hy => hf x (List.mem_cons_of_mem _ hx) y (List.mem_cons_of_mem _ hy)⟩
    obtain ⟨b, hb, e⟩ := List.mem_map.1 hm
    have := hf b (List.mem_cons_of_mem _ hb) a (by simp) e
    exact h'.1 (this ▸ hb)
/-- A map of subsequences into those of another word. -/
theorem cnt_into {u w : List Int} (f : List Int → List Int) (h1 : ∀ x, isW 4 x → x.Sublist u → isW 4 (f x) ∧ (f x).Sublist w) (h2 : ∀ x y, isW 4 x → isW 4 y → f x = f y → x = y) : cntF u 0 ≤ cntF w 0 := by
  rw [← subsF_len, ← subsF_len]
  have hn := map_nodup (f := f) (subsF_nodup u 0) fun x hx y hy e => h2 x y ((subs_mem u x).1 hx).1 ((subs_mem u y).1 hy).1 e
  have := nodup_into hn fun x hx => by
    obtain ⟨y, hy, rfl⟩ := List.mem_map.1 hx
    have hy := (subs_mem u y).1 hy
    exact (subs_mem w _).2 (h1 y hy.1 hy.2)
  rw [List.length_map] at this
  omega
theorem cnt_reverse {w : List Int} : cntF w.reverse 0 = cntF w 0 := by
  have key : ∀ v : List Int, cntF v.reverse 0 ≤ cntF v 0 := fun v => cnt_into List.reverse (fun x hx hs => ⟨fun b hb => hx b (List.mem_reverse.1 hb), by have := hs.reverse; rwa [List.reverse_reverse] at this⟩) (fun x y _ _ e => by simpa using congrArg List.reverse e)
  have h1 := key w
  have h2 := key w.reverse
  rw [List.reverse_reverse] at h2
  omega
/-- The letter after a letter, d before a. -/
def rot (b : Int) : Int := 97 + (b - 97 + 1) % 4
theorem rot_ok {b : Int} (h : 97 ≤ b ∧ b < 101) : (97 ≤ rot b ∧ rot b < 101) ∧ rot (rot (rot (rot b))) = b := by unfold rot; omega
theorem isW_rot {x : List Int} (h : isW 4 x) : isW 4 (x.map rot) := fun b hb => by
  obtain ⟨a, ha, rfl⟩ := List.mem_map.1 hb
  exact (rot_ok (h a ha)).1
theorem rot_four {x : List Int} (h : isW 4 x) : (((x.map rot).map rot).map rot).map rot = x := by
  induction x with
  | nil => rfl
  | cons a x ih =>
    simp only [List.map_cons]
    rw [ih fun b hb => h b (List.mem_cons_of_mem _ hb), (rot_ok (h a (by simp))).2]
theorem rot_inj {x y : List Int} (hx : isW 4 x) (hy : isW 4 y) (e : x.map rot = y.map rot) : x = y := by
  rw [← rot_four hx, ← rot_four hy, e]
theorem cnt_rot_le (w : List Int) : cntF w 0 ≤ cntF (w.map rot) 0 := cnt_into (List.map rot) (fun x hx hs => ⟨isW_rot hx, hs.map rot⟩) (fun x y hx hy e => rot_inj hx hy e)
theorem cnt_rot {w : List Int} (h : isW 4 w) : cntF (w.map rot) 0 = cntF w 0 := by
  have a := cnt_rot_le w
  have b := cnt_rot_le (w.map rot)
  have c := cnt_rot_le ((w.map rot).map rot)
  have d := cnt_rot_le (((w.map rot).map rot).map rot)
  rw [rot_four h] at d
  omega
theorem sub_one {b : List Int} {c : Int} (h : b.Sublist [c]) : b = [] ∨ b = [c] := by
  cases h with
  | cons _ h => exact .inl (List.sublist_nil.1 h)
  | cons_cons _ h => exact .inr (by rw [List.sublist_nil.1 h])
theorem cnt_more {w : List Int} (h : isW 4 w) {c : Int} (hc : 97 ≤ c ∧ c < 101) : cntF w 0 < cntF (w ++ [c]) 0 ∧ cntF (w ++ [c]) 0 ≤ 2 * cntF w 0 := by
  rw [← subsF_len, ← subsF_len]
  constructor
  · have hn : ((w ++ [c]) :: subsF w 0).Nodup := List.nodup_cons.2 ⟨fun hm => by
      have := ((subs_mem w _).1 hm).2.length_le
      rw [List.length_append, List.length_singleton] at this
      omega, subsF_nodup w 0⟩
    have := nodup_into hn fun x hx => by
      rcases List.mem_cons.1 hx with rfl | hx
      · refine (subs_mem _ _).2 ⟨fun b hb => ?_, List.Sublist.refl _⟩
        rcases List.mem_append.1 hb with hb | hb
        · exact h b hb
        · rw [List.mem_singleton.1 hb]; exact hc
      · have := (subs_mem _ _).1 hx
        exact (subs_mem _ _).2 ⟨this.1, this.2.trans (List.sublist_append_left _ _)⟩
    rw [List.length_cons] at this
    omega
  · have := nodup_into (m := subsF w 0 ++ (subsF w 0).map (· ++ [c])) (subsF_nodup (w ++ [c]) 0) fun x hx => by
      obtain ⟨h1, h2⟩ := (subs_mem _ _).1 hx
      obtain ⟨a, b, rfl, ha, hb⟩ := List.sublist_append_iff.1 h2
      have hwa : isW 4 a := fun z hz => h1 z (List.mem_append_left _ hz)
      rcases sub_one hb with rfl | rfl
      · rw [List.append_nil]; exact List.mem_append_left _ ((subs_mem _ _).2 ⟨hwa, ha⟩)
      · exact List.mem_append_right _ (List.mem_map.2 ⟨a, (subs_mem _ _).2 ⟨hwa, ha⟩, rfl⟩)
    rw [List.length_append, List.length_map] at this
    omega

/-- The list of all subsequences ascends in the order of strings. -/
theorem ltL_cons (c : Int) (x y : List Int) : ltL (c :: x) (c :: y) = ltL x y := by simp [ltL]
theorem ltL_head {c d : Int} (h : c < d) (x y : List Int) : ltL (c :: x) (d :: y) = true := by simp [ltL, h]
theorem ltL_nil (c : Int) (x : List Int) : ltL [] (c :: x) = true := by simp [ltL]
theorem subC_sorted {w : List Int} {i : Nat} (hs : ∀ c : Nat, ∀ K : Nat, nextF w i (97 + (c : Int)) = (K : Int) → (subsF w K).Pairwise fun x y => ltL x y = true) : ∀ m, (subC w i m).Pairwise fun x y => ltL x y = true := by
  intro m
  induction m with
  | zero => simp [subC]
  | succ m ih =>
    rw [subC]
    by_cases hn : nextF w i (97 + (m : Int)) < 0
    · rw [if_pos hn, List.append_nil]; exact ih
    · rw [if_neg hn]
      refine List.pairwise_append.2 ⟨ih, ?_, ?_⟩
      · have := hs m (nextF w i (97 + (m : Int))).toNat (by omega)
        exact List.pairwise_map.2 (this.imp fun h => by rw [ltL_cons]; exact h)
      · intro x hx y hy
        obtain ⟨z, _, rfl⟩ := List.mem_map.1 hy
        rcases (subC_mem m x).1 hx with rfl | ⟨c, hc, K, hK, v, rfl, hv⟩
        · exact ltL_nil _ _
        · exact ltL_head (by omega) _ _
theorem subsF_sorted (w : List Int) : ∀ (t i : Nat), i + t = w.length → (subsF w i).Pairwise fun x y => ltL x y = true := by
  intro t
  induction t using Nat.strongRecOn with
  | ind t ih =>
    intro i hi
    rw [subsF_parts w i (by omega)]
    refine subC_sorted (fun c K hK => ?_) 4
    have hr := nextF_rng w i (97 + (c : Int))
    exact ih (w.length - K) (by omega) K (by omega)
theorem subs_lt {w x y : List Int} {i j : Nat} (h : i < j) (hx : (subsF w 0)[i]? = some x) (hy : (subsF w 0)[j]? = some y) : ltL x y = true := by
  obtain ⟨h1, e1⟩ := List.getElem?_eq_some_iff.1 hx
  obtain ⟨h2, e2⟩ := List.getElem?_eq_some_iff.1 hy
  have := List.pairwise_iff_getElem.1 (subsF_sorted w w.length 0 (by omega)) i j h1 h2 h
  rwa [e1, e2] at this
end Go.Proofs.Ytkemcmeagnggeaa
/- Layer 3, plain mathematics: words with the same short subsequences (congruence). -/
namespace Go.Proofs.Ytkemcmeagnggeaa
open Go.RowKit
set_option linter.unusedVariables false

/-- What parts two words with any words around them parts the words, and is no longer. -/
theorem part_inside {a u w b x : List Int} (h : subB x (a ++ u ++ b) ≠ subB x (a ++ w ++ b)) : ∃ y, y.Sublist x ∧ subB y u ≠ subB y w := by
  refine Classical.byContradiction fun hc => h ?_
  have hc' : ∀ y : List Int, y.Sublist x → (y.Sublist u ↔ y.Sublist w) := fun y hy => by
    rw [← sub_iff, ← sub_iff]
    have : subB y u = subB y w := Classical.byContradiction fun hn => hc ⟨y, hy, hn⟩
    rw [this]
  have key : ∀ p q : List Int, (∀ y : List Int, y.Sublist x → (y.Sublist p → y.Sublist q)) → x.Sublist (a ++ p ++ b) → x.Sublist (a ++ q ++ b) := fun p q hpq hx => by
    obtain ⟨x12, x3, rfl, h12, h3⟩ := List.sublist_append_iff.1 hx
    obtain ⟨x1, x2, rfl, h1, h2⟩ := List.sublist_append_iff.1 h12
    refine List.Sublist.append (List.Sublist.append h1 (hpq x2 ?_ h2)) h3
    exact (List.sublist_append_right x1 x2).trans (List.sublist_append_left _ _)
  have e : x.Sublist (a ++ u ++ b) ↔ x.Sublist (a ++ w ++ b) := ⟨key u w fun y hy => (hc' y hy).1, key w u fun y hy => (hc' y hy).2⟩
  rw [Bool.eq_iff_iff, sub_iff, sub_iff]
  exact e
theorem leL_length {x y : List Int} (h : leL x y) : x.length ≤ y.length := by
  rcases h with rfl | h
  · exact Nat.le_refl _
  · unfold lessL at h
    split at h
    · omega
    · have := of_decide_eq_true h; omega
/-- The answer of Same, as a number of letters: none or the length of the first one. -/
def farB (r : Option (List Int)) (n : Int) : Bool := match r with | some x => decide (n < (x.length : Int)) | none => true
/-- The same short subsequences, and any words around. -/
theorem same_around {a u w b : List Int} {r r' : Option (List Int)} {n : Int} (h : IsFirst 4 (DifP u w) r) (h' : IsFirst 4 (DifP (a ++ u ++ b) (a ++ w ++ b)) r') (hs : farB r n = true) : farB r' n = true := by
  cases r' with
  | none => rfl
  | some x =>
    obtain ⟨y, hy, hd⟩ := part_inside h'.2.1
    have hwy := isW_sub hy h'.1
    cases r with
    | none => exact absurd hd (h y hwy)
    | some z =>
      have h1 := leL_length (h.2.2 y hwy hd)
      have h2 := hy.length_le
      have h3 := of_decide_eq_true (show decide (n < (z.length : Int)) = true from hs)
      show decide (n < (x.length : Int)) = true
      exact decide_eq_true (by omega)
theorem first_same {u : List Int} {k : Nat} {r : Option (List Int)} (h : IsFirst k (DifP u u) r) : r = none := by
  cases r with
  | none => rfl
  | some x => exact absurd rfl h.2.1
/-- Two different words are parted by a word that is at most one longer than the shorter one. -/
theorem first_differ {u w : List Int} (hu : isW 4 u) (hw : isW 4 w) (hn : u ≠ w) {r : Option (List Int)} (h : IsFirst 4 (DifP u w) r) : ∃ x, r = some x ∧ DifP u w x ∧ x.length ≤ u.length + 1 ∧ x.length ≤ w.length + 1 := by
  have key : ∃ y, isW 4 y ∧ DifP u w y ∧ y.length ≤ u.length + 1 ∧ y.length ≤ w.length + 1 := by
    have one : ∀ p q : List Int, isW 4 q → p.length < q.length → ∃ y, isW 4 y ∧ subB y p = false ∧ subB y q = true ∧ y.length = p.length + 1 := fun p q hq hl => by
      refine ⟨q.take (p.length + 1), isW_sub (List.take_sublist _ _) hq, sub_false.2 fun hs => ?_, sub_iff.2 (List.take_sublist _ _), by rw [List.length_take]; omega⟩
      have := hs.length_le
      rw [List.length_take] at this
      omega
    rcases Nat.lt_trichotomy u.length w.length with hl | hl | hl
    · obtain ⟨y, h1, h2, h3, h4⟩ := one u w hw hl
      exact ⟨y, h1, by unfold DifP; rw [h2, h3]; decide, by omega, by omega⟩
    · refine ⟨u, hu, ?_, by omega, by omega⟩
      unfold DifP
      have h1 : subB u u = true := sub_iff.2 (List.Sublist.refl _)
      have h2 : subB u w = false := sub_false.2 fun hs => hn (hs.eq_of_length hl)
      rw [h1, h2]; decide
    · obtain ⟨y, h1, h2, h3, h4⟩ := one w u hu hl
      exact ⟨y, h1, by unfold DifP; rw [h2, h3]; decide, by omega, by omega⟩
  obtain ⟨y, y1, y2, y3, y4⟩ := key
  cases r with
  | none => exact absurd y2 (h y y1)
  | some x =>
    have := leL_length (h.2.2 y y1 y2)
    exact ⟨x, rfl, h.2.1, by omega, by omega⟩
end Go.Proofs.Ytkemcmeagnggeaa
/- Layer 3: the laws' tame and mod at any arguments. -/
namespace Go.Proofs.Ytkemcmeagnggeaa
open Go.RowKit
set_option linter.unusedVariables false

def tmB (s : ByteArray) (most k : Nat) : ByteArray := ⟨(tameB s most k).toArray⟩
theorem tmB_bs (s : ByteArray) (most k : Nat) : bs (tmB s most k) = (tameB s most k).map fun b => (b.toNat : Int) := rfl
theorem tmB_len (s : ByteArray) (most k : Nat) : (bs (tmB s most k)).length ≤ most := by
  rw [tmB_bs, List.length_map, tameB_len]; omega
theorem tmB_size (s : ByteArray) (most k : Nat) : (tmB s most k).size ≤ most := by rw [← bs_len]; exact tmB_len s most k
theorem tmB_isW (s : ByteArray) (most k : Nat) (hk0 : 0 < k) (hk : k ≤ 100) : isW k (bs (tmB s most k)) := fun b hb => by
  rw [tmB_bs] at hb
  obtain ⟨z, hz, rfl⟩ := List.mem_map.1 hb
  unfold tameB at hz
  obtain ⟨y, _, rfl⟩ := List.mem_map.1 hz
  have := Nat.mod_lt y.toNat hk0
  rw [UInt8.toNat_ofNat']
  omega
theorem isW_mono {k m : Nat} {x : List Int} (h : isW k x) (hm : k ≤ m) : isW m x := fun b hb => by have := h b hb; omega
theorem tmB_word (s : ByteArray) (most k : Nat) (hk0 : 0 < k) (hk : k ≤ 4) (hm : most ≤ 60) : wordB (bs (tmB s most k)) = true :=
  isW_word (isW_mono (tmB_isW s most k hk0 (by omega)) hk) (Nat.le_trans (tmB_len s most k) hm)
theorem mod_val' (x n : Int) (hn : 1 ≤ n) (hn' : n ≤ 4611686018427387904) : ∃ r : Nat, wrap64 ((IntKind.u64.wrap x).tmod n) = r ∧ (r : Int) < n := by
  have h0 := wrap_u64_nonneg x
  rw [Int.tmod_eq_emod_of_nonneg h0]
  have h1 := Int.emod_nonneg (IntKind.u64.wrap x) (show n ≠ 0 by omega)
  have h2 := Int.emod_lt_of_pos (IntKind.u64.wrap x) (show 0 < n by omega)
  rw [IntWalk.wrap64_in _ ⟨by omega, by omega⟩]
  exact ⟨((IntKind.u64.wrap x) % n).toNat, by omega, by omega⟩
theorem mod_max (x : Int) (n : Int) (w : World) (hn : 1 ≤ n) (hn' : n ≤ 4611686018427387904) :
    Calls Try.prog 47 #[.int .i64 x, .int .i64 n] w fun e w' => (∃ r : Nat, e = .returned (.int .i64 r) ∧ (r : Int) < n) ∧ w = w' := by
  have H := Lib.hid (mod_val' x n hn hn')
  go_enter Try.func47, Try.ntmps47
  go_wp2
  go_ret
  obtain ⟨r, h1, h2⟩ := H.out
  exact ⟨⟨r, iend h1, h2⟩, rfl⟩

set_option maxHeartbeats 800000 in
theorem tame_max (s : ByteArray) (most k : Nat) (w : World) (hs : s.size ≤ 9223372036854775807) (hm : most ≤ 1099511627776) (hk0 : 0 < k) (hk : k ≤ 100) :
    Calls Try.prog 46 #[.string s, .int .i64 most, .int .i64 k] w fun e w' => e = .returned (.string (tmB s most k)) ∧ Below w.heap.size w w' := by
  unfold tmB
  obtain ⟨i0, hi0, hz, hsz, hby⟩ := info_parts Try.infoByte
  have HI := Lib.hid (And.intro hi0 (And.intro hz (And.intro hsz hby))); clear hi0 hz hsz hby
  go_enter Try.func46, Try.ntmps46
  go_wp2
  go_loopw [7, 8] (fun v i w' => ∃ j : Nat, j ≤ s.size ∧ j ≤ most ∧ i = .int .i64 (j : Int) ∧ Hid (Owb w' w.heap.size 5 v (tameB s j k)) ∧ Hid (Below w.heap.size w w')) (fun _ i _ => s.size - (intOf i).toNat)
  case atStart => exact ⟨0, by omega, by omega, by go_num, (by rw [Hid]; exact Owb.nil _ _ _), Below.refl _ _⟩
  case round =>
    obtain ⟨j, hj, hjm, rfl, HO, HB⟩ := hrel
    obtain ⟨wo, rfl⟩ : ∃ wo : World, wo = wr := ⟨_, rfl⟩
    by_cases hlt : j < s.size
    · by_cases hlm : j < most
      · have hb0 : s[j].toNat < 256 := s[j].toNat_lt
        have hbs : w.heap.size ≤ wo.heap.size := HB.out.size
        obtain ⟨z, hz⟩ : ∃ z : UInt8, z = UInt8.ofNat (97 + s[j].toNat % k) := ⟨_, rfl⟩
        have hzm : s[j].toNat % k < k := Nat.mod_lt _ hk0
        have hzn : z.toNat = 97 + s[j].toNat % k := by rw [hz, UInt8.toNat_ofNat']; omega
        have HT : Hid (tameB s (j + 1) k = tameB s j k ++ [z]) := by rw [Hid, hz]; exact tameB_at s j k j hlt
        have HL : Hid ((tameB s j k).length ≤ 1099511627776) := by rw [Hid, tameB_len]; omega
        have hz97 : 97 ≤ z.toNat ∧ z.toNat < 256 := by omega
        have g1 : (s[j].toNat : Int).tmod (k : Int) = (z.toNat : Int) - 97 := by
          rw [Int.tmod_eq_emod_of_nonneg (by omega), hzn]; omega
        have g2 : IntKind.u8.wrap ((z.toNat : Int) - 97) = (z.toNat : Int) - 97 := by
          rw [show ((z.toNat : Int) - 97) = ((z.toNat - 97 : Nat) : Int) by omega]; exact IntWalk.u8_in _ (by omega)
        have g3 : IntKind.u8.wrap (97 + ((z.toNat : Int) - 97)) = (z.toNat : Int) := by
          rw [show (97 + ((z.toNat : Int) - 97)) = ((z.toNat : Nat) : Int) by omega]; exact IntWalk.u8_in _ (by omega)
        clear hz hzn hzm
        go_wp2_with (at_builtin; go_must (refine pushb_law _ rfl (.tmp 20) (.tmp 29) 64 rfl w.heap.size 5 i0 Try.underlying64 HI.out _ (tameB s j k) z rfl rfl HO.out HL.out hbs ?_); intro v4 w4 hv4 hg4 hat4; have HO4 := Lib.hid hv4; have HB4 := Lib.hid (HB.out.grown hg4 hbs (fun b hb => (HO.out.lt hb).1)); clear hv4 hg4 hat4)
        have HT4 : Hid (Owb w4 w.heap.size 5 v4 (tameB s (j + 1) k)) := by rw [Hid, HT.out]; exact HO4.out
        exact ⟨⟨j + 1, by omega, by omega, by go_num, HT4, HB4⟩, by simp [intOf]; omega⟩
      · have HR : Hid (tameB s most k = tameB s j k) := by rw [Hid, show j = most by omega]
        generalize tameB s j k = p at *
        obtain ⟨pl, hpl⟩ : ∃ l, p.length = l := ⟨_, rfl⟩
        rcases HO.out.2 with ⟨he, h0⟩ | ⟨g, cap, cur, he, _, _, hcap, _⟩
        · have hcv : (convert 64 9 (.slice none 0 0)).run Try.prog wo = .ok (.string ByteArray.empty) wo := run_convert_bytes_nil wo _ _ Try.underlying64 Try.underlying5 0 0 _ Try.underlying9
          have hp0 : p = [] := List.eq_nil_of_length_eq_zero h0
          clear hpl h0 HO
          rw [he]
          clear he
          go_wp2
          go_ret
          exact ⟨by rw [HR.out, hp0]; rfl, HB.out⟩
        · have hcv : (convert 64 9 (.slice (some ⟨g, 0, none⟩) p.length cap)).run Try.prog wo = .ok (.string ⟨p.toArray⟩) wo := string_of _ _ Try.underlying64 Try.underlying5 Try.underlying9 (he ▸ HO.out) rfl
          rw [he]
          clear he HO
          rw [hpl] at hcv hcap
          rw [hpl]
          clear hpl
          go_wp2
          go_ret
          exact ⟨by rw [HR.out]; rfl, HB.out⟩
    · obtain rfl : j = s.size := by omega
      have HR : Hid (tameB s most k = tameB s s.size k) := tameB_size s most k (by omega)
      generalize tameB s s.size k = p at *
      obtain ⟨pl, hpl⟩ : ∃ l, p.length = l := ⟨_, rfl⟩
      rcases HO.out.2 with ⟨he, h0⟩ | ⟨g, cap, cur, he, _, _, hcap, _⟩
      · have hcv : (convert 64 9 (.slice none 0 0)).run Try.prog wo = .ok (.string ByteArray.empty) wo := run_convert_bytes_nil wo _ _ Try.underlying64 Try.underlying5 0 0 _ Try.underlying9
        have hp0 : p = [] := List.eq_nil_of_length_eq_zero h0
        clear hpl h0 HO
        rw [he]
        clear he
        go_wp2
        go_ret
        exact ⟨by rw [HR.out, hp0]; rfl, HB.out⟩
      · have hcv : (convert 64 9 (.slice (some ⟨g, 0, none⟩) p.length cap)).run Try.prog wo = .ok (.string ⟨p.toArray⟩) wo := string_of _ _ Try.underlying64 Try.underlying5 Try.underlying9 (he ▸ HO.out) rfl
        rw [he]
        clear he HO
        rw [hpl] at hcv hcap
        rw [hpl]
        clear hpl
        go_wp2
        go_ret
        exact ⟨by rw [HR.out]; rfl, HB.out⟩
end Go.Proofs.Ytkemcmeagnggeaa
