import Derived.Test.YtmnnehpoaedifaaJ10
import Derived.Test.YtmnnehpoaedifaaJ08
import Derived.Test.YtmnnehpoaedifaaJ07
import Derived.Test.YtmnnehpoaedifaaJ09
import Derived.Test.YtmnnehpoaedifaaJ20
import Derived.Test.YtmnnehpoaedifaaJ03
import Derived.Test.YtmnnehpoaedifaaJ17
/- Plain mathematics of layer 2: what a pass does to the greatest item; n passes sort; parts of an order. -/
namespace Go.Proofs.Ytmnnehpoaedifaa

theorem popR_cat (x : Int) (out r : List Int) : (popR x out r).1 ++ (popR x out r).2 = out ++ r := by
  induction r generalizing out with
  | nil => rfl
  | cons t r ih =>
    rw [popR]
    split
    · rw [ih]; simp
    · rfl
theorem popR_pre (x : Int) (a out r : List Int) : popR x (a ++ out) r = (a ++ (popR x out r).1, (popR x out r).2) := by
  induction r generalizing out with
  | nil => rfl
  | cons t r ih =>
    rw [popR, popR]
    split
    · rw [List.append_assoc, ih]
    · rfl
theorem popR_all (m : Int) (out r : List Int) (h : ∀ t ∈ r, t < m) : popR m out r = (out ++ r, []) := by
  induction r generalizing out with
  | nil => simp [popR]
  | cons t r ih =>
    rw [popR, if_pos (h t (by simp)), ih _ (fun s hs => h s (List.mem_cons.2 (.inr hs)))]
    simp
theorem popR_bottom (x m : Int) (out r : List Int) (h : x < m) : popR x out (r ++ [m]) = ((popR x out r).1, (popR x out r).2 ++ [m]) := by
  induction r generalizing out with
  | nil => simp [popR]; omega
  | cons t r ih =>
    rw [List.cons_append, popR, popR]
    split
    · exact ih _
    · rfl
def goP (s : List Int × List Int) (zs : List Int) : List Int × List Int := zs.foldl passStep s
theorem passOf_go (zs : List Int) : passOf zs = (goP ([], []) zs).1 ++ (goP ([], []) zs).2 := by
  unfold passOf passTo goP
  rw [List.take_length]
theorem goP_pre (a out r zs : List Int) : goP (a ++ out, r) zs = (a ++ (goP (out, r) zs).1, (goP (out, r) zs).2) := by
  induction zs generalizing out r with
  | nil => rfl
  | cons x zs ih =>
    show goP (passStep (a ++ out, r) x) zs = (a ++ (goP (passStep (out, r) x) zs).1, (goP (passStep (out, r) x) zs).2)
    unfold passStep
    simp only [popR_pre]
    exact ih _ _
theorem goP_bottom (m : Int) (out r zs : List Int) (h : ∀ x ∈ zs, x < m) : goP (out, r ++ [m]) zs = ((goP (out, r) zs).1, (goP (out, r) zs).2 ++ [m]) := by
  induction zs generalizing out r with
  | nil => rfl
  | cons x zs ih =>
    show goP (passStep (out, r ++ [m]) x) zs = ((goP (passStep (out, r) x) zs).1, (goP (passStep (out, r) x) zs).2 ++ [m])
    unfold passStep
    simp only [popR_bottom x m out r (h x (by simp))]
    rw [← List.cons_append]
    exact ih _ _ (fun y hy => h y (List.mem_cons.2 (.inr hy)))
theorem goP_mem (out r zs : List Int) (x : Int) : (x ∈ (goP (out, r) zs).1 ∨ x ∈ (goP (out, r) zs).2) ↔ (x ∈ out ∨ x ∈ r ∨ x ∈ zs) := by
  induction zs generalizing out r with
  | nil => simp [goP]
  | cons y zs ih =>
    show (x ∈ (goP (passStep (out, r) y) zs).1 ∨ x ∈ (goP (passStep (out, r) y) zs).2) ↔ _
    unfold passStep
    rw [ih]
    have hc : x ∈ (popR y out r).1 ++ (popR y out r).2 ↔ x ∈ out ++ r := by rw [popR_cat]
    rw [List.mem_append, List.mem_append] at hc
    simp only [List.mem_cons]
    constructor
    · rintro (h | (h | h) | h)
      · rcases hc.1 (.inl h) with h | h
        · exact .inl h
        · exact .inr (.inl h)
      · exact .inr (.inr (.inl h))
      · rcases hc.1 (.inr h) with h | h
        · exact .inl h
        · exact .inr (.inl h)
      · exact .inr (.inr (.inr h))
    · rintro (h | h | h | h)
      · rcases hc.2 (.inl h) with h | h
        · exact .inl h
        · exact .inr (.inl (.inr h))
      · rcases hc.2 (.inr h) with h | h
        · exact .inl h
        · exact .inr (.inl (.inr h))
      · exact .inr (.inl (.inl h))
      · exact .inr (.inr h)
theorem passOf_mem (zs : List Int) (x : Int) : x ∈ passOf zs ↔ x ∈ zs := by
  rw [passOf_go, List.mem_append, goP_mem]
  simp
/-- A pass of what has a greatest item m in it. -/
theorem passOf_max (u v : List Int) (m : Int) (hu : ∀ x ∈ u, x < m) (hv : ∀ x ∈ v, x < m) : passOf (u ++ m :: v) = passOf u ++ passOf v ++ [m] := by
  have hr : ∀ t ∈ (goP ([], []) u).2, t < m := fun t ht => by
    have := (goP_mem [] [] u t).1 (.inr ht)
    simp at this
    exact hu t this
  have h1 : goP ([], []) (u ++ m :: v) = goP ((goP ([], []) u).1 ++ (goP ([], []) u).2, [m]) v := by
    unfold goP
    rw [List.foldl_append, List.foldl_cons]
    congr 1
    show passStep (goP ([], []) u) m = ((goP ([], []) u).1 ++ (goP ([], []) u).2, [m])
    unfold passStep
    rw [popR_all m _ _ hr]
  have h2 := goP_pre ((goP ([], []) u).1 ++ (goP ([], []) u).2) [] [m] v
  rw [List.append_nil] at h2
  have h3 := goP_bottom m [] [] v hv
  rw [List.nil_append] at h3
  rw [passOf_go, h1, h2, h3, passOf_go u, passOf_go v]
  simp
/-- What stands in its place at the end stays there. -/
theorem passOf_tail (w : List Int) : ∀ (s : List Int), s.Pairwise (· < ·) → (∀ x ∈ w, ∀ y ∈ s, x < y) → passOf (w ++ s) = passOf w ++ s := by
  intro s
  -- by its last item
  have key : ∀ (n : Nat) (s : List Int), s.length = n → s.Pairwise (· < ·) → (∀ x ∈ w, ∀ y ∈ s, x < y) → passOf (w ++ s) = passOf w ++ s := by
    intro n
    induction n with
    | zero =>
      intro s hn _ _
      rw [List.eq_nil_of_length_eq_zero hn]; simp
    | succ n ih =>
      intro s hn hp hw
      rcases List.eq_nil_or_concat s with rfl | ⟨s', m, rfl⟩
      · simp at hn
      · simp only [List.concat_eq_append] at hn hp hw ⊢
        have hp' := List.pairwise_append.1 hp
        have hlast : ∀ x ∈ w ++ s', x < m := fun x hx => by
          rcases List.mem_append.1 hx with hx | hx
          · exact hw x hx m (by simp)
          · exact hp'.2.2 x hx m (by simp)
        have h1 := passOf_max (w ++ s') [] m hlast (by simp)
        have h0 : passOf [] = [] := rfl
        rw [h0, List.append_nil] at h1
        rw [← List.append_assoc, h1, ih s' (by simp at hn; omega) hp'.1 (fun x hx y hy => hw x hx y (List.mem_append.2 (.inl hy))), List.append_assoc]
  exact fun h1 h2 => key s.length s rfl h1 h2
def passes : Nat → List Int → List Int
  | 0, l => l
  | k + 1, l => passes k (passOf l)
/-- After k passes the k greatest items of 1 .. n stand at the end. -/
theorem passes_end (k : Nat) : ∀ (n : Nat) (w : List Int) (s : List Int), k ≤ n → w.length = n → (∀ x : Int, x ∈ w ↔ 1 ≤ x ∧ x ≤ n) → s.Pairwise (· < ·) → (∀ y ∈ s, (n : Int) < y) →
    ∃ w', passes k (w ++ s) = w' ++ (((List.range k).map fun i => ((n - k + 1 + i : Nat) : Int)) ++ s) ∧ w'.length = n - k ∧ (∀ x : Int, x ∈ w' ↔ 1 ≤ x ∧ x ≤ (n - k : Nat)) := by
  induction k with
  | zero => intro n w s _ hl hw _ _; exact ⟨w, by simp [passes], by omega, by simpa using hw⟩
  | succ k ih =>
    intro n w s hk hl hw hs hsn
    rw [passes, passOf_tail w s hs (fun x hx y hy => by have := (hw x).1 hx; have := hsn y hy; omega)]
    -- the greatest item of w
    have hn : (n : Int) ∈ w := (hw n).2 ⟨by omega, Int.le_refl _⟩
    obtain ⟨u, v, rfl⟩ := List.append_of_mem hn
    -- it stands there once: the others are all the numbers below
    have hcount : u.length + v.length = n - 1 := by simp at hl; omega
    have hnot : (n : Int) ∉ u ++ v := by
      intro hm
      -- then n - 1 places hold the n numbers 1 .. n
      have hall : ∀ x : Int, 1 ≤ x → x ≤ n → x ∈ u ++ v := fun x h1 h2 => by
        have := (hw x).2 ⟨h1, h2⟩
        rw [List.mem_append, List.mem_cons] at this
        rcases this with h | h | h
        · exact List.mem_append.2 (.inl h)
        · rw [h]; exact hm
        · exact List.mem_append.2 (.inr h)
      have hnd : ((List.range n).map fun i : Nat => ((i : Int) + 1)).Nodup := by
        rw [List.nodup_iff_pairwise_ne, List.pairwise_map]
        exact List.Pairwise.imp (fun h => by omega) (List.pairwise_lt_range (n := n))
      have hsub : ((List.range n).map fun i : Nat => ((i : Int) + 1)) ⊆ u ++ v := fun x hx => by
        obtain ⟨i, hi, rfl⟩ := List.mem_map.1 hx
        have := List.mem_range.1 hi
        exact hall _ (by omega) (by omega)
      have := hnd.length_le_of_subset hsub
      simp at this
      omega
    have hu : ∀ x ∈ u, x < (n : Int) := fun x hx => by
      have h1 := (hw x).1 (by simp [hx])
      have h2 : x ≠ n := fun e => hnot (List.mem_append.2 (.inl (e ▸ hx)))
      omega
    have hv : ∀ x ∈ v, x < (n : Int) := fun x hx => by
      have h1 := (hw x).1 (by simp [hx])
      have h2 : x ≠ n := fun e => hnot (List.mem_append.2 (.inr (e ▸ hx)))
      omega
    rw [passOf_max u v n hu hv, List.append_assoc]
    have hmem : ∀ x : Int, x ∈ passOf u ++ passOf v ↔ 1 ≤ x ∧ x ≤ ((n - 1 : Nat) : Int) := fun x => by
      rw [List.mem_append, passOf_mem, passOf_mem]
      constructor
      · rintro (h | h)
        · have h1 := (hw x).1 (by simp [h]); have h2 := hu x h; omega
        · have h1 := (hw x).1 (by simp [h]); have h2 := hv x h; omega
      · intro h
        have := (hw x).2 ⟨h.1, by omega⟩
        rw [List.mem_append, List.mem_cons] at this
        rcases this with h1 | h1 | h1
        · exact .inl h1
        · omega
        · exact .inr h1
    obtain ⟨w', e1, e2, e3⟩ := ih (n - 1) (passOf u ++ passOf v) ([(n : Int)] ++ s) (by omega) (by rw [List.length_append, passOf_len, passOf_len]; omega) hmem
      (List.pairwise_cons.2 ⟨hsn, hs⟩) (fun y hy => by
        rcases List.mem_cons.1 hy with rfl | hy
        · omega
        · have := hsn y hy; omega)
    refine ⟨w', ?_, by omega, fun x => by rw [e3]; rw [show n - 1 - k = n - (k + 1) from by omega]⟩
    rw [e1]
    congr 1
    rw [List.range_succ, List.map_append, List.append_assoc]
    congr 1
    · refine List.map_congr_left fun i _ => ?_
      rw [show n - 1 - k + 1 + i = n - (k + 1) + 1 + i from by omega]
    · show [(n : Int)] ++ s = [((n - (k + 1) + 1 + k : Nat) : Int)] ++ s
      rw [show n - (k + 1) + 1 + k = n from by omega]
/-- n passes sort the numbers from 1 to n. -/
theorem passes_sort (n : Nat) (w : List Int) (hl : w.length = n) (hw : ∀ x : Int, x ∈ w ↔ 1 ≤ x ∧ x ≤ n) : passes n w = (List.range n).map fun i : Nat => ((i : Int) + 1) := by
  obtain ⟨w', e1, e2, _⟩ := passes_end n n w [] (Nat.le_refl _) hl hw List.Pairwise.nil (by simp)
  rw [List.append_nil] at e1
  rw [e1, List.eq_nil_of_length_eq_zero (show w'.length = 0 by omega), List.append_nil, List.nil_append]
  refine List.map_congr_left fun i _ => ?_
  rw [show n - n + 1 + i = i + 1 from by omega]
  rfl
/-- The greatest item moves to the end. -/
theorem pass_last (n : Nat) (w : List Int) (h0 : 0 < n) (hl : w.length = n) (hw : ∀ x : Int, x ∈ w ↔ 1 ≤ x ∧ x ≤ n) : (passOf w)[n - 1]?.getD 0 = n := by
  obtain ⟨w', e1, e2, _⟩ := passes_end 1 n w [] (by omega) hl hw List.Pairwise.nil (by simp)
  simp only [passes, List.append_nil] at e1
  rw [e1, List.getElem?_append_right (by omega), e2]
  simp
  omega
end Go.Proofs.Ytmnnehpoaedifaa
/- Plain mathematics of layer 2: passes over an order. -/
namespace Go.Proofs.Ytmnnehpoaedifaa

theorem ord_mem {o : List Int} (h : Ord o) (x : Int) : x ∈ o ↔ 1 ≤ x ∧ x ≤ o.length := by
  constructor
  · intro hx
    obtain ⟨i, hi, rfl⟩ := List.getElem_of_mem hx
    have h1 := h.lo i hi
    have h2 := h.hi i hi
    rw [getD_at hi] at h1 h2
    exact ⟨h1, h2⟩
  · rintro ⟨h1, h2⟩
    obtain ⟨c, hc, e⟩ := ord_surj h.diff (fun i hi => ⟨h.lo i hi, h.hi i hi⟩) (v := x.toNat) (by omega) (by omega)
    have e' : o[c]?.getD 0 = x := by have : o[c]?.getD 0 = (x.toNat : Int) := e; omega
    rw [getD_at hc] at e'
    rw [← e']
    exact List.getElem_mem _
theorem ord_of_mem {w : List Int} (hw : ∀ x : Int, x ∈ w ↔ 1 ≤ x ∧ x ≤ w.length) : Ord w := by
  have hno : ∀ i j, i < j → j < w.length → w[i]?.getD 0 = w[j]?.getD 0 → False := fun i j hij hj e => by
    have hnd : ((List.range w.length).map fun i : Nat => ((i : Int) + 1)).Nodup := by
      rw [List.nodup_iff_pairwise_ne, List.pairwise_map]
      exact List.Pairwise.imp (fun h => by omega) (List.pairwise_lt_range (n := w.length))
    have hsub : ((List.range w.length).map fun i : Nat => ((i : Int) + 1)) ⊆ w.eraseIdx j := fun x hx => by
      obtain ⟨k, hk, rfl⟩ := List.mem_map.1 hx
      have hk := List.mem_range.1 hk
      obtain ⟨a, ha, hax⟩ := List.getElem_of_mem ((hw ((k : Int) + 1)).2 ⟨by omega, by omega⟩)
      rw [List.mem_eraseIdx_iff_getElem]
      by_cases haj : a = j
      · subst haj
        refine ⟨i, by omega, by omega, ?_⟩
        rw [getD_at (by omega), getD_at hj] at e
        rw [e, hax]
      · exact ⟨a, ha, haj, hax⟩
    have := hnd.length_le_of_subset hsub
    rw [List.length_eraseIdx] at this
    simp [hj] at this
    omega
  refine ⟨fun i j hi hj e => ?_, fun i hi => ?_, fun i hi => ?_⟩
  · rcases Nat.lt_trichotomy i j with h | h | h
    · exact (hno i j h hj e).elim
    · exact h
    · exact (hno j i h hi e.symm).elim
  · rw [getD_at hi]; exact ((hw _).1 (List.getElem_mem _)).1
  · rw [getD_at hi]; exact ((hw _).1 (List.getElem_mem _)).2
theorem ord_pass {o : List Int} (h : Ord o) : Ord (passOf o) := ord_of_mem fun x => by rw [passOf_mem, passOf_len]; exact ord_mem h x
def sameB (l : List Int) (k : Nat) : Bool := allB (fun i => decide (l[i]?.getD 0 = (i : Int) + 1)) k
theorem same_asc {l : List Int} (h : Ord l) : sameB l l.length = ascB l := by
  rw [Bool.eq_iff_iff]
  unfold sameB
  rw [allB_iff]
  constructor
  · intro hs
    rw [ascB_iff, List.pairwise_iff_getElem]
    intro i j hi hj hij
    have h1 := hs i hi
    have h2 := hs j hj
    simp only [decide_eq_true_eq] at h1 h2
    rw [getD_at hi] at h1
    rw [getD_at hj] at h2
    omega
  · intro ha i hi
    have up : ∀ k, k < l.length → (k : Int) + 1 ≤ l[k]?.getD 0 := fun k => by
      induction k with
      | zero => intro hk; have := h.lo 0 hk; simpa using this
      | succ k ih =>
        intro hk
        have h1 := ih (by omega)
        have h2 := asc_lt ha (show k < k + 1 by omega) hk
        omega
    have down : ∀ d k, k + d + 1 = l.length → l[k]?.getD 0 + d ≤ l.length := fun d => by
      induction d with
      | zero => intro k hk; have := h.hi k (by omega); simpa using this
      | succ d ih =>
        intro k hk
        have h1 := ih (k + 1) (by omega)
        have h2 := asc_lt ha (show k < k + 1 by omega) (by omega)
        omega
    have h1 := up i hi
    have h2 := down (l.length - 1 - i) i (by omega)
    simp only [decide_eq_true_eq]
    omega
def passIt (l : List Int) : Nat → List Int
  | 0 => l
  | k + 1 => passOf (passIt l k)
theorem passIt_out (l : List Int) (k : Nat) : passIt (passOf l) k = passOf (passIt l k) := by
  induction k with
  | zero => rfl
  | succ k ih => simp only [passIt, ih]
theorem passes_it (k : Nat) : ∀ l, passes k l = passIt l k := by
  induction k with
  | zero => intro l; rfl
  | succ k ih => intro l; rw [passes, ih, passIt_out, passIt]
theorem passIt_len (l : List Int) (k : Nat) : (passIt l k).length = l.length := by
  induction k with
  | zero => rfl
  | succ k ih => rw [passIt, passOf_len, ih]
theorem passIt_ord {l : List Int} (h : Ord l) (k : Nat) : Ord (passIt l k) := by
  induction k with
  | zero => exact h
  | succ k ih => exact ord_pass ih
theorem passIt_sorts {l : List Int} (h : Ord l) : ∀ i, i < l.length → (passIt l l.length)[i]?.getD 0 = (i : Int) + 1 := fun i hi => by
  rw [← passes_it, passes_sort l.length l rfl (ord_mem h), List.getElem?_map, List.getElem?_range hi]
  rfl
end Go.Proofs.Ytmnnehpoaedifaa
/- The law ShuntPasses, from what Stack and Pass promise. -/
namespace Go.Proofs.Ytmnnehpoaedifaa
open Go.RowKit

theorem sameB_next {l : List Int} {k : Nat} (h : sameB l k = true) (hk : l[k]?.getD 0 = (k : Int) + 1) : sameB l (k + 1) = true := by
  unfold sameB at h ⊢
  rw [allB_iff] at h ⊢
  intro j hj
  by_cases e : j = k
  · subst e; simpa using hk
  · exact h j (by omega)
theorem sameB_bad {l : List Int} {k : Nat} (h : sameB l k = false) : sameB l (k + 1) = false := by
  rw [Bool.eq_false_iff] at h ⊢
  intro h2
  apply h
  unfold sameB at h2 ⊢
  rw [allB_iff] at h2 ⊢
  exact fun j hj => h2 j (by omega)
theorem sameB_ne {l : List Int} {k : Nat} (hk : ¬ l[k]?.getD 0 = (k : Int) + 1) : sameB l (k + 1) = false := (allB_bad (k := k) (by omega) (by simpa using hk)).symm

set_option maxHeartbeats 3200000 in
theorem passes_law (hA : AwakeOk) (hS : StackOk) (hP : PassOk) (A : Option Addr) (n c : Nat) (zs : List Int) (w : World) (hs : Sl w A n c zs) :
    Calls Try.prog 12 #[.slice A n c] w fun e w' => e = .returned (.bool true) ∧ Below w.heap.size w w' := by
  have HA := Lib.hid hA; clear hA
  obtain ⟨N, hN⟩ : ∃ N, min n 30 = N := ⟨_, rfl⟩
  obtain ⟨o, ho⟩ : ∃ o, tameOf zs N = o := ⟨_, rfl⟩
  have hol : o.length = N := by rw [← ho, tameOf_len]
  have hord : Ord o := by rw [← ho]; exact ord_tame zs N
  have HL : Hid (Calls Try.prog 48 #[.slice A n c, .int .i64 (30 : Nat)] w fun e w' => ∃ B d, e = .returned (.slice B N d) ∧ Sl w' B N d o ∧ Below w.heap.size w w') := by
    refine (tame_any A n c zs 30 w hs (by omega)).mono ?_
    rintro e w1 ⟨v, rfl, hv, hb⟩
    rw [hN, ho] at hv
    obtain ⟨B, d, rfl, hsl⟩ := hv.sl_len hol (by omega)
    exact ⟨B, d, rfl, hsl, hb⟩
  have hN30 : N ≤ 30 := by omega
  clear hs hN ho
  have hob : ordB o 60 = true := ordB_iff.2 ⟨hord, by omega⟩
  -- the promises, at this order
  have HS : Hid (∀ W B d, Sl W B N d o → Calls Try.prog 19 #[.slice B N d] W fun e w' => ∃ (p : ByteArray) (C : Option Addr) (q d' : Nat), e = .returned (.tuple #[.string p, .slice C q d', .int .i64 0]) ∧ (q = if ascB (passOf o) = true then 0 else 3) ∧ Below W.heap.size W w') := fun W B d h => by
    refine (hS B N d o W h).mono ?_
    rintro e w' ⟨p, v, x, b, rfl, ho', _, hb3, _, h2, h3, hb⟩
    cases ha : ascB (passOf o) with
    | true =>
      obtain ⟨_, rfl, rfl⟩ := h2 hob ha
      obtain ⟨C, d', rfl, _⟩ := ho'.sl_len (n := 0) rfl (by omega)
      exact ⟨p, C, 0, d', rfl, by simp, hb⟩
    | false =>
      obtain ⟨rfl, hsb, rfl⟩ := h3 hob ha
      have hl3 : b.length = 3 := by
        rw [sblock_pos, Bool.and_eq_true] at hsb
        have := (posB_at hsb.1).1
        omega
      obtain ⟨C, d', rfl, _⟩ := ho'.sl_len (n := 3) hl3 (by omega)
      exact ⟨_, C, 3, d', rfl, by simp, hb⟩
  have HP : Hid (∀ W B d k, Sl W B N d (passIt o k) → Calls Try.prog 45 #[.slice B N d] W fun e w' => ∃ (C : Option Addr) (d' : Nat), e = .returned (.tuple #[.slice C N d', .int .i64 0]) ∧ Sl w' C N d' (passIt o (k + 1)) ∧ Below W.heap.size W w') := fun W B d k h => by
    refine (hP B N d _ W h).mono ?_
    rintro e w' ⟨v, x, l, rfl, ho', _, h2, hb⟩
    obtain ⟨rfl, rfl⟩ := h2 (ordB_iff.2 ⟨passIt_ord hord k, by rw [passIt_len]; omega⟩)
    obtain ⟨C, d', rfl, hsl⟩ := ho'.sl_len (n := N) (by rw [passOf_len, passIt_len, hol]) (by omega)
    exact ⟨C, d', rfl, hsl, hb⟩
  have HOB1 : Hid (true = ordB (passIt o 1) 30) := (ordB_iff.2 ⟨passIt_ord hord 1, by rw [passIt_len]; omega⟩).symm
  have HSAME : Hid (sameB (passIt o 1) N = ascB (passOf o)) := by
    have h := same_asc (passIt_ord hord 1)
    rw [passIt_len, hol] at h
    exact h
  have HLAST : Hid (0 < N → (passIt o 1)[N - 1]?.getD 0 = N) := fun h0 => by
    have h := pass_last N o h0 hol (by have := ord_mem hord; rw [hol] at this; exact this)
    exact h
  have HSORT : Hid (∀ i, i < N → (passIt o (N + 1))[i]?.getD 0 = (i : Int) + 1) := by
    have h := passIt_sorts (ord_pass hord)
    rw [passOf_len, hol, passIt_out] at h
    exact h
  clear hS hP hob hord
  have HLEN := Lib.hid hol; clear hol
  go_enter Try.func12, Try.ntmps12
  go_wp2_with (go_at_call 48; refine HL.out.mono ?_; clear HL; rintro e w1 ⟨B, d, rfl, hsl, hb1⟩)
  have HSL := Lib.hid hsl; clear hsl
  go_wp2_with (go_at_call 19; refine (HS.out w1 B d HSL.out).mono ?_; clear HS; rintro e w2 ⟨p, C, q, d', rfl, hq, hb2⟩; have HQ := Lib.hid hq; clear hq)
  have HSL2 := Lib.hid (HSL.out.below hb2 (Nat.le_refl _))
  have H3 := Lib.hid (HP.out w2 B d 0 HSL2.out)
  go_wp2_with (go_at_call 45; refine H3.out.mono ?_; clear H3; rintro e w3 ⟨D, e1, rfl, hsl3, hb3⟩; have HSL3 := Lib.hid hsl3; clear hsl3)
  have HOR : Hid (Calls Try.prog 20 #[.slice D N e1, .int .i64 30] w3 fun e w' => e = .returned (.bool true) ∧ Dr w3 w') := by
    have h := order_any D N e1 (passIt o (0 + 1)) 30 w3 HSL3.out.len (by omega) HSL3.out.cap HSL3.out.rd
    rw [HOB1.out]
    exact h
  go_wp2_with (go_at_call 20; refine HOR.out.mono ?_; clear HOR; rintro e w4 ⟨rfl, hd4⟩)
  have hb14 : Below w.heap.size w w4 := ((hb1.trans (hb2.mono hb1.size)).trans (hb3.mono (Nat.le_trans hb1.size hb2.size))).trans (hd4.below _)
  have HSL4 : Hid (Sl w4 D N e1 (passIt o 1)) := HSL3.out.dr hd4
  clear hb1 hb2 hb3 hd4 HSL3 HSL2 HSL HOB1
  go_loopw [10, 11] (fun so i w' => ∃ k : Nat, k ≤ N ∧ i = .int .i64 k ∧ so = .bool (sameB (passIt o 1) k) ∧ w' = w4) (fun _ i _ => N - (intOf i).toNat)
  case atStart => exact ⟨0, by omega, by go_num, rfl, rfl⟩
  case round =>
    obtain ⟨k, hk, rfl, rfl, rfl⟩ := hrel
    by_cases hlt : k < N
    · obtain ⟨b0, off0, rfl, hcx⟩ := HSL4.out.at_ hlt
      cases hsm : sameB (passIt o 1) k with
      | false =>
        have HN := Lib.hid (sameB_bad hsm); clear hsm
        go_wp2
        go_roundw
        case rel => exact ⟨k + 1, by omega, by go_num, by rw [HN.out], by first | rfl | trivial⟩
        case measure => simp [intOf]; omega
      | true =>
        obtain ⟨x, hx⟩ : ∃ x, x = (passIt o 1)[k]?.getD 0 := ⟨_, rfl⟩
        rw [← hx] at hcx
        by_cases he : x = (k : Int) + 1
        · have g1 : (x == (k : Int) + 1) = true := by simpa using he
          have HN := Lib.hid (sameB_next hsm (hx.symm.trans he)); clear hsm hx he
          go_wp2
          go_roundw
          case rel => exact ⟨k + 1, by omega, by go_num, by rw [HN.out], by first | rfl | trivial⟩
          case measure => simp [intOf]; omega
        · have g1 : (x == (k : Int) + 1) = false := by simpa using he
          have HN := Lib.hid (sameB_ne (by rw [← hx]; exact he)); clear hsm hx he
          go_wp2
          go_roundw
          case rel => exact ⟨k + 1, by omega, by go_num, by rw [HN.out], by first | rfl | trivial⟩
          case measure => simp [intOf]; omega
    · obtain rfl : k = N := by omega
      clear hlt hk
      have HB14 := Lib.hid hb14; clear hb14
      cases hs : ascB (passOf o) with
      | false =>
        have hq3 : q = 3 := by rw [HQ.out, hs]; rfl
        have h0 : 0 < k := by
          rcases Nat.eq_zero_or_pos k with h | h
          · exfalso
            rw [List.eq_nil_of_length_eq_zero (HLEN.out.trans h)] at hs
            exact absurd hs (by decide)
          · exact h
        rw [HSAME.out, hs]
        clear hs HQ
        subst hq3
        obtain ⟨b0, off0, hD, hcx⟩ := HSL4.out.at_ (show k - 1 < k by omega)
        rw [HLAST.out h0] at hcx
        obtain ⟨z, hz⟩ : ∃ z, z = k - 1 := ⟨_, rfl⟩
        rw [← hz] at hcx
        have hz1 : (k : Int) - 1 = (z : Int) := by omega
        have hzk : z < k := by omega
        have hk0 : 0 < k := h0
        clear hz
        subst hD
        have hw1 : IntKind.i64.wrap ((k : Int) - 1) = (z : Int) := by rw [hz1]; exact IntWalk.i64_in _ (by omega)
        go_wp2
        clear hz1 hw1 hzk hcx
        go_loopw [8, 12, 13, 14] (fun l i _ _ w' => ∃ (x : Nat) (C' : Option Addr) (e' : Nat), x ≤ k ∧ i = .int .i64 x ∧ l = .slice C' k e' ∧ Hid (Sl w' C' k e' (passIt o (x + 1))) ∧ Hid (Below w.heap.size w w')) (fun _ i _ _ _ => k - (intOf i).toNat)
        case atStart => exact ⟨0, _, _, by omega, by go_num, rfl, HSL4, HB14⟩
        case round =>
          obtain ⟨x, C', e', hx, rfl, rfl, HS5, HB5⟩ := hrel
          by_cases hlt : x < k
          · have H6 := Lib.hid (HP.out wr C' e' (x + 1) HS5.out)
            go_wp2_with (go_at_call 45; refine H6.out.mono ?_; clear H6; rintro e w6 ⟨E, e2, rfl, hsl6, hb6⟩; have HSL6 := Lib.hid hsl6; clear hsl6)
            go_roundw
            case rel => exact ⟨x + 1, _, _, by omega, by go_num, rfl, HSL6, HB5.out.trans (hb6.mono HB5.out.size)⟩
            case measure => simp [intOf]; omega
          · have hxk : x = k := by omega
            rw [hxk] at HS5
            rw [hxk]
            clear hlt hx hxk
            obtain ⟨wl, rfl⟩ : ∃ wo : World, wo = wr := ⟨_, rfl⟩
            go_wp2
            go_loopw [15] (fun i w' => ∃ j : Nat, j ≤ k ∧ i = .int .i64 j ∧ w' = wl) (fun i _ => k - (intOf i).toNat)
            case atStart => exact ⟨0, by omega, by go_num, rfl⟩
            case round =>
              obtain ⟨j, hj, rfl, rfl⟩ := hrel
              by_cases hlt : j < k
              · obtain ⟨b0, off0, rfl, hcx⟩ := HS5.out.at_ hlt
                rw [HSORT.out j hlt] at hcx
                go_wp2
                go_roundw
                case rel => exact ⟨j + 1, by omega, by go_num, by first | rfl | trivial⟩
                case measure => simp [intOf]; omega
              · go_wp2_with (go_at_call 22; refine (HA.out _).mono ?_; rintro e w7 ⟨rfl, hb7⟩)
                go_ret
                exact ⟨rfl, HB5.out.trans (hb7.mono HB5.out.size)⟩
      | true =>
        have hq3 : q = 0 := by rw [HQ.out, hs]; rfl
        rw [HSAME.out, hs]
        clear hs HQ
        subst hq3
        by_cases h0 : 0 < k
        · obtain ⟨b0, off0, hD, hcx⟩ := HSL4.out.at_ (show k - 1 < k by omega)
          rw [HLAST.out h0] at hcx
          obtain ⟨z, hz⟩ : ∃ z, z = k - 1 := ⟨_, rfl⟩
          rw [← hz] at hcx
          have hz1 : (k : Int) - 1 = (z : Int) := by omega
          have hzk : z < k := by omega
          have hk0 : 0 < k := h0
          clear hz
          subst hD
          have hw1 : IntKind.i64.wrap ((k : Int) - 1) = (z : Int) := by rw [hz1]; exact IntWalk.i64_in _ (by omega)
          go_wp2
          clear hz1 hw1 hzk hcx
          go_loopw [8, 12, 13, 14] (fun l i _ _ w' => ∃ (x : Nat) (C' : Option Addr) (e' : Nat), x ≤ k ∧ i = .int .i64 x ∧ l = .slice C' k e' ∧ Hid (Sl w' C' k e' (passIt o (x + 1))) ∧ Hid (Below w.heap.size w w')) (fun _ i _ _ _ => k - (intOf i).toNat)
          case atStart => exact ⟨0, _, _, by omega, by go_num, rfl, HSL4, HB14⟩
          case round =>
            obtain ⟨x, C', e', hx, rfl, rfl, HS5, HB5⟩ := hrel
            by_cases hlt : x < k
            · have H6 := Lib.hid (HP.out wr C' e' (x + 1) HS5.out)
              go_wp2_with (go_at_call 45; refine H6.out.mono ?_; clear H6; rintro e w6 ⟨E, e2, rfl, hsl6, hb6⟩; have HSL6 := Lib.hid hsl6; clear hsl6)
              go_roundw
              case rel => exact ⟨x + 1, _, _, by omega, by go_num, rfl, HSL6, HB5.out.trans (hb6.mono HB5.out.size)⟩
              case measure => simp [intOf]; omega
            · have hxk : x = k := by omega
              rw [hxk] at HS5
              rw [hxk]
              clear hlt hx hxk
              obtain ⟨wl, rfl⟩ : ∃ wo : World, wo = wr := ⟨_, rfl⟩
              go_wp2
              go_loopw [15] (fun i w' => ∃ j : Nat, j ≤ k ∧ i = .int .i64 j ∧ w' = wl) (fun i _ => k - (intOf i).toNat)
              case atStart => exact ⟨0, by omega, by go_num, rfl⟩
              case round =>
                obtain ⟨j, hj, rfl, rfl⟩ := hrel
                by_cases hlt : j < k
                · obtain ⟨b0, off0, rfl, hcx⟩ := HS5.out.at_ hlt
                  rw [HSORT.out j hlt] at hcx
                  go_wp2
                  go_roundw
                  case rel => exact ⟨j + 1, by omega, by go_num, by first | rfl | trivial⟩
                  case measure => simp [intOf]; omega
                · go_wp2_with (go_at_call 22; refine (HA.out _).mono ?_; rintro e w7 ⟨rfl, hb7⟩)
                  go_ret
                  exact ⟨rfl, HB5.out.trans (hb7.mono HB5.out.size)⟩
        · have hk0 : k = 0 := by omega
          have gk : decide (0 < k) = false := by simp; omega
          have HK0 := Lib.hid hk0; clear hk0 h0
          go_wp2
          go_loopw [8, 12, 13, 14] (fun l i _ _ w' => ∃ (x : Nat) (C' : Option Addr) (e' : Nat), x ≤ k ∧ i = .int .i64 x ∧ l = .slice C' k e' ∧ Hid (Sl w' C' k e' (passIt o (x + 1))) ∧ Hid (Below w.heap.size w w')) (fun _ i _ _ _ => k - (intOf i).toNat)
          case atStart => exact ⟨0, _, _, by omega, by go_num, rfl, HSL4, HB14⟩
          case round =>
            obtain ⟨x, C', e', hx, rfl, rfl, HS5, HB5⟩ := hrel
            by_cases hlt : x < k
            · have H6 := Lib.hid (HP.out wr C' e' (x + 1) HS5.out)
              go_wp2_with (go_at_call 45; refine H6.out.mono ?_; clear H6; rintro e w6 ⟨E, e2, rfl, hsl6, hb6⟩; have HSL6 := Lib.hid hsl6; clear hsl6)
              go_roundw
              case rel => exact ⟨x + 1, _, _, by omega, by go_num, rfl, HSL6, HB5.out.trans (hb6.mono HB5.out.size)⟩
              case measure => simp [intOf]; omega
            · have hxk : x = k := by omega
              rw [hxk] at HS5
              rw [hxk]
              clear hlt hx hxk
              obtain ⟨wl, rfl⟩ : ∃ wo : World, wo = wr := ⟨_, rfl⟩
              go_wp2
              go_loopw [15] (fun i w' => ∃ j : Nat, j ≤ k ∧ i = .int .i64 j ∧ w' = wl) (fun i _ => k - (intOf i).toNat)
              case atStart => exact ⟨0, by omega, by go_num, rfl⟩
              case round =>
                obtain ⟨j, hj, rfl, rfl⟩ := hrel
                by_cases hlt : j < k
                · obtain ⟨b0, off0, rfl, hcx⟩ := HS5.out.at_ hlt
                  rw [HSORT.out j hlt] at hcx
                  go_wp2
                  go_roundw
                  case rel => exact ⟨j + 1, by omega, by go_num, by first | rfl | trivial⟩
                  case measure => simp [intOf]; omega
                · go_wp2_with (go_at_call 22; refine (HA.out _).mono ?_; rintro e w7 ⟨rfl, hb7⟩)
                  go_ret
                  exact ⟨rfl, HB5.out.trans (hb7.mono HB5.out.size)⟩
end Go.Proofs.Ytmnnehpoaedifaa
