import Derived.Test.YtmnnehpoaedifaaJ10
import Derived.Test.YtmnnehpoaedifaaJ04
import Derived.Test.YtmnnehpoaedifaaJ28
import Derived.Test.YtmnnehpoaedifaaJ27
/- Plain mathematics of layer 2: a search in depth for two colours, and the odd circle that it finds. -/
namespace Go.Proofs.Ytmnnehpoaedifaa
set_option linter.unusedVariables false

/-- Along the trail (its newest position first) each position is linked to the one before it and has the other colour. -/
def Trl (cf : Nat → Nat → Bool) (C : Nat → Option Nat) (r : List Nat) : Prop :=
  ∀ i, i + 1 < r.length → link cf (r[i + 1]?.getD 0) (r[i]?.getD 0) ∧ ∃ c, C (r[i + 1]?.getD 0) = some c ∧ C (r[i]?.getD 0) = some (1 - c)
/-- The search's state: the colours, the trail. -/
structure DInv (cf : Nat → Nat → Bool) (n : Nat) (C : Nat → Option Nat) (r : List Nat) : Prop where
  trl : Trl cf C r
  nodup : r.Nodup
  col : ∀ k ∈ r, C k ≠ none
  dom : ∀ k c, C k = some c → k < n ∧ c ≤ 1
  done : ∀ k c, C k = some c → k ∉ r → ∀ b, b < n → link cf k b → C b = some (1 - c)
def Ext (C C' : Nat → Option Nat) : Prop := ∀ k c, C k = some c → C' k = some c
theorem Ext.refl (C : Nat → Option Nat) : Ext C C := fun _ _ h => h
theorem Ext.trans {A B C : Nat → Option Nat} (h : Ext A B) (k : Ext B C) : Ext A C := fun i c e => k i c (h i c e)
def upd (C : Nat → Option Nat) (a w : Nat) : Nat → Option Nat := fun k => if k = a then some w else C k
theorem upd_same (C : Nat → Option Nat) (a w : Nat) : upd C a w a = some w := by simp [upd]
theorem upd_ext {C : Nat → Option Nat} {a w : Nat} (h : C a = none) : Ext C (upd C a w) := fun k c e => by
  unfold upd
  by_cases hk : k = a
  · subst hk; rw [h] at e; cases e
  · rw [if_neg hk]; exact e
/-- The position that is visited hangs on the trail's end. -/
def Hang (cf : Nat → Nat → Bool) (C : Nat → Option Nat) (r : List Nat) (a w : Nat) : Prop :=
  (r = [] ∧ C a = none) ∨ ∃ u s, r = u :: s ∧ link cf u a ∧ C u = some (1 - w)
theorem DInv.empty (cf : Nat → Nat → Bool) (n : Nat) : DInv cf n (fun _ => none) [] :=
  ⟨fun i hi => absurd hi (by simp), List.nodup_nil, fun _ h => (by cases h), fun _ _ h => (by cases h), fun _ _ h => (by cases h)⟩
theorem DInv.push {cf : Nat → Nat → Bool} {n : Nat} {C : Nat → Option Nat} {r : List Nat} {a w : Nat} (h : DInv cf n C r) (ha : a < n) (hw : w ≤ 1) (hn : C a = none) (hh : Hang cf C r a w) : DInv cf n (upd C a w) (a :: r) := by
  have har : a ∉ r := fun e => h.col a e hn
  have old : ∀ k, k ≠ a → upd C a w k = C k := fun k hk => if_neg hk
  refine ⟨fun i hi => ?_, List.nodup_cons.2 ⟨har, h.nodup⟩, fun k hk => ?_, fun k c hk => ?_, fun k c hk hkr b hb hl => ?_⟩
  · cases i with
    | zero =>
      rcases hh with ⟨rfl, _⟩ | ⟨u, s, rfl, hl, hu⟩
      · simp at hi
      · refine ⟨hl, 1 - w, ?_, ?_⟩
        · show upd C a w u = some (1 - w)
          rw [old u hl.1, hu]
        · show upd C a w a = some (1 - (1 - w))
          rw [upd_same]
          congr 1; omega
    | succ i =>
      have hi' : i + 1 < r.length := by simpa using hi
      have hm : ∀ j, j < r.length → r[j]?.getD 0 ≠ a := fun j hj e => har (by rw [← e, List.getElem?_eq_getElem hj]; exact List.getElem_mem _)
      obtain ⟨h1, c, h2, h3⟩ := h.trl i hi'
      refine ⟨h1, c, ?_, ?_⟩
      · show upd C a w (r[i + 1]?.getD 0) = some c
        rw [old _ (hm _ hi')]; exact h2
      · show upd C a w (r[i]?.getD 0) = some (1 - c)
        rw [old _ (hm _ (by omega))]; exact h3
  · rcases List.mem_cons.1 hk with rfl | hk
    · rw [upd_same]; simp
    · rw [old k (fun e => har (e ▸ hk))]; exact h.col k hk
  · by_cases e : k = a
    · subst e; rw [upd_same] at hk; injection hk with hk; exact ⟨ha, by omega⟩
    · rw [old k e] at hk; exact h.dom k c hk
  · have hka : k ≠ a := fun e => hkr (by rw [e]; exact List.mem_cons_self)
    rw [old k hka] at hk
    have := h.done k c hk (fun e => hkr (List.mem_cons_of_mem _ e)) b hb hl
    exact upd_ext hn b _ this
theorem DInv.pop {cf : Nat → Nat → Bool} {n : Nat} {C : Nat → Option Nat} {r : List Nat} {a w : Nat} (h : DInv cf n C (a :: r)) (hc : C a = some w) (hall : ∀ b, b < n → link cf a b → C b = some (1 - w)) : DInv cf n C r := by
  refine ⟨fun i hi => ?_, (List.nodup_cons.1 h.nodup).2, fun k hk => h.col k (List.mem_cons_of_mem _ hk), h.dom, fun k c hk hkr b hb hl => ?_⟩
  · have := h.trl (i + 1) (by simpa using hi)
    simpa using this
  · by_cases e : k = a
    · subst e
      rw [hc] at hk
      injection hk with hk
      subst hk
      exact hall b hb hl
    · exact h.done k c hk (by simp [e, hkr]) b hb hl
/-- What is on the trail is a position. -/
theorem DInv.lt {cf : Nat → Nat → Bool} {n : Nat} {C : Nat → Option Nat} {r : List Nat} (h : DInv cf n C r) {k : Nat} (hk : k ∈ r) : k < n := by
  cases hc : C k with
  | none => exact absurd hc (h.col k hk)
  | some c => exact (h.dom k c hc).1
theorem nodup_le : ∀ (n : Nat) (r : List Nat), r.Nodup → (∀ k ∈ r, k < n) → r.length ≤ n := by
  intro n
  induction n with
  | zero =>
    intro r _ hl
    cases r with
    | nil => simp
    | cons a r => exact absurd (hl a List.mem_cons_self) (by omega)
  | succ n ih =>
    intro r hd hl
    have h1 := ih (r.erase n) (hd.erase n) (fun k hk => by
      have h2 := hl k (List.mem_of_mem_erase hk)
      have h3 : k ≠ n := fun e => by
        subst e
        exact (List.Nodup.not_mem_erase hd) hk
      omega)
    have h4 := List.length_erase_of_mem (a := n) (l := r)
    by_cases hm : n ∈ r
    · have := h4 hm; omega
    · rw [List.erase_of_not_mem hm] at h1; omega
theorem DInv.short {cf : Nat → Nat → Bool} {n : Nat} {C : Nat → Option Nat} {r : List Nat} (h : DInv cf n C r) : r.length ≤ n := nodup_le n r h.nodup fun _ hk => h.lt hk
theorem nodup_inj {l : List Nat} (h : l.Nodup) {i j : Nat} (hi : i < l.length) (hj : j < l.length) (e : l[i]?.getD 0 = l[j]?.getD 0) : i = j := by
  rw [List.getElem?_eq_getElem hi, List.getElem?_eq_getElem hj] at e
  have hp := List.pairwise_iff_getElem.1 h
  rcases Nat.lt_trichotomy i j with h1 | h1 | h1
  · exact absurd e (hp i j hi hj h1)
  · exact h1
  · exact absurd e.symm (hp j i hj hi h1)
/-- The colours alternate from the trail's end on. -/
theorem Trl.alt {cf : Nat → Nat → Bool} {C : Nat → Option Nat} {r : List Nat} (h : Trl cf C r) (hd : ∀ k c, C k = some c → c ≤ 1) {c0 : Nat} (h0 : C (r[0]?.getD 0) = some c0) : ∀ i, i < r.length → C (r[i]?.getD 0) = some (if i % 2 = 0 then c0 else 1 - c0) := by
  intro i
  have hc0 := hd _ _ h0
  induction i with
  | zero => intro _; simpa using h0
  | succ i ih =>
    intro hi
    have h1 := ih (by omega)
    obtain ⟨_, c, h2, h3⟩ := h i hi
    have hc := hd _ _ h2
    rw [h1] at h3
    injection h3 with h3
    rw [h2]
    congr 1
    by_cases e : i % 2 = 0
    · rw [if_pos e] at h3; rw [if_neg (by omega)]; omega
    · rw [if_neg e] at h3; rw [if_pos (by omega)]; omega
/-- An odd circle of links. -/
structure Ring (cf : Nat → Nat → Bool) (n : Nat) (l : List Nat) : Prop where
  three : 3 ≤ l.length
  odd : l.length % 2 = 1
  nodup : l.Nodup
  lt : ∀ k ∈ l, k < n
  step : ∀ i, i + 1 < l.length → link cf (l[i]?.getD 0) (l[i + 1]?.getD 0)
  close : link cf (l[l.length - 1]?.getD 0) (l[0]?.getD 0)
theorem rev_take_at (r : List Nat) (m j : Nat) (hm : m < r.length) (hj : j ≤ m) : (r.take (m + 1)).reverse[j]?.getD 0 = r[m - j]?.getD 0 := by
  have hl : (r.take (m + 1)).length = m + 1 := by rw [List.length_take]; omega
  rw [List.getElem?_reverse (by omega), hl, List.getElem?_take_of_lt (by omega)]
  rw [show m + 1 - 1 - j = m - j from by omega]
/-- A position that has been seen with the other colour closes an odd circle with the trail. -/
theorem ring_of_trail {cf : Nat → Nat → Bool} {n : Nat} {C : Nat → Option Nat} {r : List Nat} {a w k : Nat} (h : DInv cf n C r) (ha : a < n) (hw : w ≤ 1) (hk : C a = some k) (hne : k ≠ w) (hh : Hang cf C r a w) :
    ∃ m, m < r.length ∧ r[m]?.getD 0 = a ∧ Ring cf n (r.take (m + 1)).reverse := by
  have hk1 := (h.dom a k hk).2
  rcases hh with ⟨_, e⟩ | ⟨u, s, hr, hl, hu⟩
  · rw [hk] at e; cases e
  · have hmem : a ∈ r := by
      refine Classical.byContradiction fun hnm => ?_
      have hur : u < n := h.lt (by rw [hr]; exact List.mem_cons_self)
      have := h.done a k hk hnm u hur (link_symm hl)
      rw [hu] at this
      injection this with this
      omega
    obtain ⟨m, hm, hma⟩ := List.mem_iff_getElem.1 hmem
    have hma' : r[m]?.getD 0 = a := by rw [List.getElem?_eq_getElem hm]; exact hma
    have hr0 : r[0]?.getD 0 = u := by rw [hr]; rfl
    have halt := h.trl.alt (fun k c e => (h.dom k c e).2) (by rw [hr0]; exact hu) m hm
    rw [hma', hk] at halt
    injection halt with halt
    have hm0 : m ≠ 0 := fun e => by
      subst e
      rw [hr0] at hma'
      exact hl.1 hma'
    have hev : m % 2 = 0 := by
      by_cases e : m % 2 = 0
      · exact e
      · rw [if_neg e] at halt; omega
    have hlen : (r.take (m + 1)).reverse.length = m + 1 := by rw [List.length_reverse, List.length_take]; omega
    refine ⟨m, hm, hma', by rw [hlen]; omega, by rw [hlen]; omega, ?_, ?_, ?_, ?_⟩
    · exact List.pairwise_reverse.2 ((List.Pairwise.sublist (List.take_sublist _ _) h.nodup).imp fun h => Ne.symm h)
    · intro k hk
      exact h.lt (List.mem_of_mem_take (List.mem_reverse.1 hk))
    · intro i hi
      rw [hlen] at hi
      rw [rev_take_at r m i hm (by omega), rev_take_at r m (i + 1) hm (by omega)]
      have := (h.trl (m - (i + 1)) (by omega)).1
      rw [show m - (i + 1) + 1 = m - i from by omega] at this
      exact this
    · rw [hlen, rev_take_at r m _ hm (by omega), rev_take_at r m 0 hm (by omega), show m - (m + 1 - 1) = 0 from by omega, Nat.sub_zero, hma', hr0]
      exact hl
theorem tblock_of_ring {o : List Int} {l : List Nat} (h : Ring (cfB o) o.length l) : tblockB o (nats l) = true := by
  have hl : (nats l).length = l.length := List.length_map _
  have hat : ∀ i, i < l.length → (nats l)[i]?.getD 0 = ((l[i]?.getD 0 : Nat) : Int) := fun i hi => nats_at hi
  have hlt : ∀ i, i < l.length → l[i]?.getD 0 < o.length := fun i hi => h.lt _ (by rw [List.getElem?_eq_getElem hi]; exact List.getElem_mem _)
  unfold tblockB
  simp only [Bool.and_eq_true, decide_eq_true_eq]
  rw [hl]
  have h3 := h.three
  have ho := h.odd
  refine ⟨⟨⟨h3, by omega⟩, atB_iff.2 ⟨?_, ?_⟩⟩, allB_iff.2 fun i hi => ?_⟩
  · intro i j hi hj e
    rw [hl] at hi hj
    rw [hat i hi, hat j hj] at e
    have e2 : l[i]?.getD 0 = l[j]?.getD 0 := by omega
    exact nodup_inj h.nodup hi hj e2
  · intro i hi
    rw [hl] at hi
    rw [hat i hi]
    have := hlt i hi
    omega
  · unfold ringAt nextAt
    rw [hl, hat i hi, hat _ (Nat.mod_lt _ (by omega))]
    simp only [Int.toNat_natCast]
    by_cases e : i + 1 < l.length
    · rw [Nat.mod_eq_of_lt e]
      exact (h.step i e).2
    · rw [show i + 1 = l.length from by omega, Nat.mod_self, show i = l.length - 1 from by omega]
      exact h.close.2
/-- A search that has coloured all positions. -/
theorem DInv.proper {cf : Nat → Nat → Bool} {n : Nat} {C : Nat → Option Nat} (h : DInv cf n C []) (hall : ∀ k, k < n → C k ≠ none) : Proper cf n (fun i => decide (C i = some 0)) := by
  intro a b ha hb hl e
  cases hc : C a with
  | none => exact hall a ha hc
  | some c =>
    have h1 := h.done a c hc (by simp) b hb hl
    have h2 := (h.dom a c hc).2
    rw [decide_eq_decide, hc, h1] at e
    simp only [Option.some.injEq] at e
    omega
/-- What 'from' collects of the first k positions of the trail. -/
def fromTo (T : List Int) (x : Int) : Nat → List Int
  | 0 => []
  | k + 1 => if T[k]?.getD 0 = x ∨ 0 < (fromTo T x k).length then fromTo T x k ++ [T[k]?.getD 0] else fromTo T x k
theorem fromTo_len (T : List Int) (x : Int) (k : Nat) : (fromTo T x k).length ≤ k := by
  induction k with
  | zero => simp [fromTo]
  | succ k ih =>
    rw [fromTo]
    split
    · rw [List.length_append, List.length_singleton]; omega
    · omega
theorem fromTo_eq {T : List Int} {x : Int} {j : Nat} (hj : j < T.length) (hx : T[j]?.getD 0 = x) (hb : ∀ i, i < j → T[i]?.getD 0 ≠ x) : ∀ k, k ≤ T.length → fromTo T x k = (T.take k).drop j := by
  intro k
  induction k with
  | zero => intro _; simp [fromTo]
  | succ k ih =>
    intro hk
    have h1 := ih (by omega)
    have ht : T.take (k + 1) = T.take k ++ [T[k]?.getD 0] := by
      rw [List.take_add_one, List.getElem?_eq_getElem (show k < T.length by omega)]; rfl
    rw [fromTo, h1]
    rcases Nat.lt_trichotomy k j with h | h | h
    · rw [if_neg (by rintro (e | e); exact hb k h e; rw [List.length_drop, List.length_take] at e; omega)]
      rw [List.drop_eq_nil_of_le (by rw [List.length_take]; omega), List.drop_eq_nil_of_le (by rw [List.length_take]; omega)]
    · subst h
      rw [if_pos (.inl hx), ht, List.drop_append_of_le_length (by rw [List.length_take]; omega)]
    · rw [if_pos (.inr (by rw [List.length_drop, List.length_take]; omega)), ht, List.drop_append_of_le_length (by rw [List.length_take]; omega)]
/-- On the trail: from the place of a on. -/
theorem fromTo_trail {r : List Nat} {m a : Nat} (hd : r.Nodup) (hm : m < r.length) (ha : r[m]?.getD 0 = a) : fromTo (nats r).reverse a r.length = nats (r.take (m + 1)).reverse := by
  have hT : (nats r).reverse = nats r.reverse := by simp [nats]
  have hl : (nats r.reverse).length = r.length := by simp [nats]
  have hat : ∀ i, i < r.length → (nats r.reverse)[i]?.getD 0 = ((r[r.length - 1 - i]?.getD 0 : Nat) : Int) := fun i hi => by
    rw [nats_at (by simpa using hi), List.getElem?_reverse hi]
  rw [hT]
  have h := fromTo_eq (T := nats r.reverse) (x := (a : Int)) (j := r.length - 1 - m) (by rw [hl]; omega)
    (by rw [hat _ (by omega), show r.length - 1 - (r.length - 1 - m) = m from by omega, ha])
    (fun i hi e => by
      rw [hat i (by omega), ← ha] at e
      have e2 : r[r.length - 1 - i]?.getD 0 = r[m]?.getD 0 := by omega
      have := nodup_inj hd (show r.length - 1 - i < r.length by omega) hm e2
      omega) r.length (by rw [hl]; omega)
  rw [h, List.take_of_length_le (by rw [hl]; omega)]
  rw [show r.length - 1 - m = r.length - (m + 1) from by omega, ← List.map_drop, List.reverse_take]
/-- The rivals of each position, by the first k pairs. -/
def rivTo (ps : List (Nat × Nat)) : Nat → Nat → List Nat
  | 0 => fun _ => []
  | k + 1 => fun x => let p := ps[k]?.getD (0, 0)
    let f := rivTo ps k
    let g := fun y => if y = p.1 then f y ++ [p.2] else f y
    if x = p.2 then g x ++ [p.1] else g x
theorem rivTo_len (ps : List (Nat × Nat)) (k x : Nat) : (rivTo ps k x).length ≤ 2 * k := by
  induction k with
  | zero => simp [rivTo]
  | succ k ih =>
    simp only [rivTo]
    split <;> split <;> (try rw [List.length_append, List.length_singleton]) <;> (try rw [List.length_append, List.length_singleton]) <;> omega
theorem rivTo_mem (ps : List (Nat × Nat)) (k x y : Nat) (hk : k ≤ ps.length) : y ∈ rivTo ps k x ↔ ∃ i, i < k ∧ (ps[i]?.getD (0, 0) = (x, y) ∨ ps[i]?.getD (0, 0) = (y, x)) := by
  induction k with
  | zero => simp [rivTo]
  | succ k ih =>
    have h := ih (by omega)
    have key : y ∈ rivTo ps (k + 1) x ↔ y ∈ rivTo ps k x ∨ (ps[k]?.getD (0, 0) = (x, y) ∨ ps[k]?.getD (0, 0) = (y, x)) := by
      simp only [rivTo]
      obtain ⟨⟨p1, p2⟩, hp⟩ : ∃ p, p = ps[k]?.getD (0, 0) := ⟨_, rfl⟩
      rw [← hp]
      simp only [Prod.mk.injEq]
      by_cases e1 : x = p1 <;> by_cases e2 : x = p2 <;> simp [e1, e2, List.mem_append, eq_comm] <;> (try subst e1) <;> (try subst e2) <;> simp_all [eq_comm]
    rw [key, h]
    constructor
    · rintro (⟨i, hi, hh⟩ | hh)
      · exact ⟨i, by omega, hh⟩
      · exact ⟨k, by omega, hh⟩
    · rintro ⟨i, hi, hh⟩
      by_cases e : i = k
      · subst e; exact .inr hh
      · exact .inl ⟨i, by omega, hh⟩
theorem confTo_mem (o : List Int) (a k x y : Nat) : (x, y) ∈ confTo o a k ↔ x = a ∧ y < k ∧ a < y ∧ confB o a y = true := by
  unfold confTo
  simp only [List.mem_map, List.mem_filter, List.mem_range, Bool.and_eq_true, decide_eq_true_eq, Prod.mk.injEq]
  constructor
  · rintro ⟨b, ⟨h1, h2, h3⟩, rfl, rfl⟩; exact ⟨rfl, h1, h2, h3⟩
  · rintro ⟨rfl, h1, h2, h3⟩; exact ⟨y, ⟨h1, h2, h3⟩, rfl, rfl⟩
theorem confAll_mem (o : List Int) (k x y : Nat) : (x, y) ∈ confAll o k ↔ x < k ∧ y < o.length ∧ x < y ∧ confB o x y = true := by
  unfold confAll
  simp only [List.mem_flatMap, List.mem_range, confTo_mem]
  constructor
  · rintro ⟨a, h1, rfl, h2, h3, h4⟩; exact ⟨h1, h2, h3, h4⟩
  · rintro ⟨h1, h2, h3, h4⟩; exact ⟨x, h1, rfl, h2, h3, h4⟩
/-- All rivals. -/
def rivs (o : List Int) (x : Nat) : List Nat := rivTo (confAll o o.length) (confAll o o.length).length x
theorem rivs_mem (o : List Int) (x y : Nat) : y ∈ rivs o x ↔ x < o.length ∧ y < o.length ∧ link (cfB o) x y := by
  unfold rivs
  rw [rivTo_mem _ _ _ _ (Nat.le_refl _)]
  have hm : ∀ p : Nat × Nat, (∃ i, i < (confAll o o.length).length ∧ (confAll o o.length)[i]?.getD (0, 0) = p) ↔ p ∈ confAll o o.length := fun p => by
    rw [List.mem_iff_getElem]
    constructor
    · rintro ⟨i, hi, e⟩; exact ⟨i, hi, by rw [List.getElem?_eq_getElem hi] at e; exact e⟩
    · rintro ⟨i, hi, e⟩; exact ⟨i, hi, by rw [List.getElem?_eq_getElem hi]; exact e⟩
  have split2 : (∃ i, i < (confAll o o.length).length ∧ ((confAll o o.length)[i]?.getD (0, 0) = (x, y) ∨ (confAll o o.length)[i]?.getD (0, 0) = (y, x))) ↔ (x, y) ∈ confAll o o.length ∨ (y, x) ∈ confAll o o.length := by
    rw [← hm, ← hm]
    constructor
    · rintro ⟨i, hi, h | h⟩
      · exact .inl ⟨i, hi, h⟩
      · exact .inr ⟨i, hi, h⟩
    · rintro (⟨i, hi, h⟩ | ⟨i, hi, h⟩)
      · exact ⟨i, hi, .inl h⟩
      · exact ⟨i, hi, .inr h⟩
  rw [split2, confAll_mem, confAll_mem]
  unfold link cfB
  constructor
  · rintro (⟨h1, h2, h3, h4⟩ | ⟨h1, h2, h3, h4⟩)
    · exact ⟨h1, h2, by omega, by rw [Nat.min_eq_left (by omega), Nat.max_eq_right (by omega)]; exact h4⟩
    · exact ⟨h2, h1, by omega, by rw [Nat.min_eq_right (by omega), Nat.max_eq_left (by omega)]; exact h4⟩
  · rintro ⟨h1, h2, h3, h4⟩
    rcases Nat.lt_or_ge x y with h | h
    · rw [Nat.min_eq_left (by omega), Nat.max_eq_right (by omega)] at h4
      exact .inl ⟨h1, h2, h, h4⟩
    · rw [Nat.min_eq_right (by omega), Nat.max_eq_left (by omega)] at h4
      exact .inr ⟨h2, h1, by omega, h4⟩
end Go.Proofs.Ytmnnehpoaedifaa
/- Contracts of package shunt: from; the closure of colour. -/
namespace Go.Proofs.Ytmnnehpoaedifaa
open Go.RowKit Go.Maps

set_option maxHeartbeats 800000 in
theorem from_any (A : Option Addr) (n c : Nat) (T : List Int) (x : Int) (w : World) (hs : Sl w A n c T) (hn : n ≤ 1000000) :
    Calls Try.prog 80 #[.slice A n c, .int .i64 x] w fun e w' => ∃ v, e = .returned v ∧ Ow w' w.heap.size 3 v (fromTo T x n) ∧ Below w.heap.size w w' := by
  have HS := Lib.hid hs; clear hs
  obtain ⟨i0, hi, hz0, hz1, hz2⟩ := info_parts Try.infoInt
  have HI : Hid (Try.prog.info? 3 = some i0 ∧ i0.zero = some (.int .i64 0) ∧ i0.size = 1 ∧ i0.bytes = 8) := ⟨hi, hz0, hz1, hz2⟩
  clear hi hz0 hz1 hz2
  go_enter Try.func80, Try.ntmps80
  go_wp2
  go_loopw [5, 7, 10] (fun p _ i w' => ∃ j : Nat, j ≤ n ∧ i = .int .i64 (j : Int) ∧ Hid (Ow w' w.heap.size 3 p (fromTo T x j)) ∧ Below w.heap.size w w') (fun _ _ i _ => n - (intOf i).toNat)
  case atStart => exact ⟨0, by omega, by go_num, Ow.nil _ _ _, Below.refl _ _⟩
  case round =>
    obtain ⟨j, hj, rfl, HO, hW⟩ := hrel
    have hsz := hW.size
    by_cases hlt : j < n
    · obtain ⟨b0, off0, rfl, hcx⟩ := HS.out.cells (by omega)
      have hb0 := HS.out.old b0 off0 rfl (by omega)
      have hc := (hW.cell (p := ⟨b0, off0 + j, none⟩) hb0).trans (hcx j hlt)
      clear hcx
      have hlj := fromTo_len T x j
      obtain ⟨F, hF⟩ : ∃ F, F = fromTo T x j := ⟨_, rfl⟩
      have HST : Hid (fromTo T x (j + 1) = if T[j]?.getD 0 = x ∨ 0 < F.length then F ++ [T[j]?.getD 0] else F) := by rw [hF]; rfl
      rw [← hF] at HO hlj
      clear hF
      obtain ⟨y, hy⟩ : ∃ y, y = T[j]?.getD 0 := ⟨_, rfl⟩
      rw [← hy] at HST hc
      clear hy
      obtain ⟨A', c', hv, _⟩ := HO.out.sl (by omega)
      obtain ⟨L, hL⟩ : ∃ L, F.length = L := ⟨_, rfl⟩
      rw [hL] at hv hlj
      have HLL : Hid (F.length ≤ 1099511627776) := by rw [Hid, hL]; omega
      have HL := Lib.hid hL; clear hL
      subst hv
      by_cases h1 : y = x
      · have g1 : (y == x) = true := by simpa using h1
        have HN : Hid (fromTo T x (j + 1) = F ++ [y]) := by rw [Hid, HST.out, if_pos (.inl h1)]
        clear h1
        go_wp2_with (at_builtin; go_must (refine push_law _ rfl (.tmp 22) (.tmp 24) 22 rfl w.heap.size 3 i0 Try.underlying22 HI.out _ F y rfl rfl HO.out HLL.out hsz ?_); intro u w2 hv2 hg2 hat2; clear hat2; have HV2 := Lib.hid hv2; clear hv2; have HG2 := Lib.hid hg2; clear hg2)
        go_roundw
        case rel => exact ⟨j + 1, by omega, by go_num, (by rw [HN.out]; exact HV2.out), hW.grown HG2.out hsz (fun k e => (HO.out.lt e).1)⟩
        case measure => simp [intOf]; omega
      · have g1 : (y == x) = false := by simpa using h1
        by_cases h2 : 0 < L
        · have HN : Hid (fromTo T x (j + 1) = F ++ [y]) := by rw [Hid, HST.out, if_pos (.inr (by rw [HL.out]; exact h2))]
          clear h1
          go_wp2_with (at_builtin; go_must (refine push_law _ rfl (.tmp 22) (.tmp 24) 22 rfl w.heap.size 3 i0 Try.underlying22 HI.out _ F y rfl rfl HO.out HLL.out hsz ?_); intro u w2 hv2 hg2 hat2; clear hat2; have HV2 := Lib.hid hv2; clear hv2; have HG2 := Lib.hid hg2; clear hg2)
          go_roundw
          case rel => exact ⟨j + 1, by omega, by go_num, (by rw [HN.out]; exact HV2.out), hW.grown HG2.out hsz (fun k e => (HO.out.lt e).1)⟩
          case measure => simp [intOf]; omega
        · obtain rfl : L = 0 := by omega
          have HN : Hid (fromTo T x (j + 1) = F) := by rw [Hid, HST.out, if_neg (by rw [HL.out]; rintro (e | e); exact h1 e; omega)]
          clear h1 h2
          go_wp2
          go_roundw
          case rel => exact ⟨j + 1, by omega, by go_num, (by rw [HN.out]; exact HO), hW⟩
          case measure => simp [intOf]; omega
    · obtain rfl : j = n := by omega
      go_wp2
      go_ret
      exact ⟨_, rfl, HO.out, hW⟩
end Go.Proofs.Ytmnnehpoaedifaa
/- Contract of package shunt: the closure of colour. -/
namespace Go.Proofs.Ytmnnehpoaedifaa
open Go.RowKit Go.Maps
set_option linter.unusedVariables false

def colF (C : Nat → Option Nat) : Nat → Option Lit := fun k => (C k).map fun c => .int .i64 (c : Int)
theorem colF_put (C : Nat → Option Nat) (a w : Nat) : putL (colF C) a (.int .i64 w) = colF (upd C a w) := by
  funext k
  unfold putL colF upd
  by_cases e : k = a
  · rw [if_pos e, if_pos e]; rfl
  · rw [if_neg e, if_neg e]
def cnt (C : Nat → Option Nat) : Nat → Nat
  | 0 => 0
  | n + 1 => cnt C n + if (C n).isSome then 1 else 0
theorem cnt_le (C : Nat → Option Nat) (n : Nat) : cnt C n ≤ n := by
  induction n with
  | zero => exact Nat.le_refl _
  | succ n ih =>
    rw [cnt]
    split <;> omega
theorem cnt_high (C : Nat → Option Nat) (a w n : Nat) (h : n ≤ a) : cnt (upd C a w) n = cnt C n := by
  induction n with
  | zero => rfl
  | succ n ih =>
    have : upd C a w n = C n := if_neg (fun h => by omega)
    rw [cnt, cnt, ih (by omega), this]
theorem cnt_upd {C : Nat → Option Nat} {a w n : Nat} (ha : a < n) (hn : C a = none) : cnt (upd C a w) n = cnt C n + 1 := by
  induction n with
  | zero => omega
  | succ n ih =>
    rw [cnt, cnt]
    by_cases e : a = n
    · subst e
      rw [cnt_high _ _ _ _ (Nat.le_refl _), upd_same, hn]; rfl
    · rw [ih (by omega)]
      have : upd C a w n = C n := if_neg (fun h => e h.symm)
      rw [this]; omega

/-- The rivals are ready. -/
structure Riv (o : List Int) (w0 : World) (gr br base nr : Nat) : Prop where
  cell : w0.cell? ⟨gr, 0, none⟩ = some (.map (some br))
  gm : GM w0 base br nr (rivs o)
/-- The search's variables: the colours, the trail, the circle, the closure itself. -/
structure Dfs (w0 w : World) (n gr : Nat) (v : Value) (C : Nat → Option Nat) (r : List Nat) : Prop where
  colc : w.cell? ⟨w0.heap.size + 1, 0, none⟩ = some (.map (some w0.heap.size))
  cmap : IM w 3 w0.heap.size (cnt C n) (colF C)
  trail : Pile w (w0.heap.size + 2) (w0.heap.size + 5) 3 v (nats r)
  circ : w.cell? ⟨w0.heap.size + 3, 0, none⟩ = some (.slice none 0 0)
  circf : w.frozen? ⟨w0.heap.size + 3, 0, none⟩ = false
  fn : w.cell? ⟨w0.heap.size + 4, 0, none⟩ = some (.func (.func 79) #[] #[.pointer (some ⟨w0.heap.size + 1, 0, none⟩), .pointer (some ⟨w0.heap.size + 2, 0, none⟩), .pointer (some ⟨w0.heap.size + 3, 0, none⟩), .pointer (some ⟨gr, 0, none⟩), .pointer (some ⟨w0.heap.size + 4, 0, none⟩)])
  below : Below w0.heap.size w0 w
theorem Dfs.turn {w0 w w' : World} {n gr : Nat} {v v' : Value} {C C' : Nat → Option Nat} {r r' : List Nat} {T : Nat → Prop} (h : Dfs w0 w n gr v C r) (k : Tn w w' T) (hT : ∀ b, T b → b = w0.heap.size ∨ b = w0.heap.size + 2 ∨ w0.heap.size + 5 ≤ b)
    (hm : IM w' 3 w0.heap.size (cnt C' n) (colF C')) (ht : Pile w' (w0.heap.size + 2) (w0.heap.size + 5) 3 v' (nats r')) : Dfs w0 w' n gr v' C' r' := by
  have hne : ∀ i, i = 1 ∨ i = 3 ∨ i = 4 → ¬ T (w0.heap.size + i) := fun i hi ht => by
    have := hT _ ht; omega
  refine ⟨k.cell h.colc (hne 1 (by omega)), hm, ht, k.cell h.circ (hne 3 (by omega)), ?_, k.cell h.fn (hne 4 (by omega)), h.below.trans (k.below (fun b hb => by have := hT b hb; omega) h.below.size)⟩
  have hl : w0.heap.size + 3 < w.heap.size := by have := h.trail.base; omega
  exact (k.frozen (p := ⟨w0.heap.size + 3, 0, none⟩) hl (hne 3 (by omega))).trans h.circf
theorem Dfs.dr {w0 w w' : World} {n gr : Nat} {v : Value} {C : Nat → Option Nat} {r : List Nat} (h : Dfs w0 w n gr v C r) (k : Dr w w') : Dfs w0 w' n gr v C r :=
  h.turn (T := fun _ => False) (Tn.of_dr k) (fun _ h => h.elim) (h.cmap.dr k) (h.trail.tn (T := fun _ => False) (Tn.of_dr k) (fun _ _ h => h))
theorem Dfs.store {w0 w w' : World} {n gr : Nat} {v : Value} {C : Nat → Option Nat} {r : List Nat} {a wn : Nat} (h : Dfs w0 w n gr v C r) (ha : a < n) (hc : C a = none) (hm : IM w' 3 w0.heap.size (cnt C n + 1) (putL (colF C) a (.int .i64 wn))) (hg : w.grownBy w' (some w0.heap.size)) :
    Dfs w0 w' n gr v (upd C a wn) r := by
  have k : Tn w w' (fun b => b = w0.heap.size) := Tn.of_grown hg (fun k e => by injection e with e; exact e.symm)
  refine h.turn k (fun b hb => .inl hb) (by rw [← colF_put, cnt_upd ha hc]; exact hm) (h.trail.tn k fun b hb e => ?_)
  rcases hb with hb | hb
  · omega
  · have := h.trail.own.lt hb; omega
theorem Dfs.pushed {w0 w w' : World} {n gr : Nat} {v v' : Value} {C : Nat → Option Nat} {r : List Nat} {a : Nat} (h : Dfs w0 w n gr v C r) (hp : Pile w' (w0.heap.size + 2) (w0.heap.size + 5) 3 v' ((a : Int) :: nats r)) (k : Tn w w' (PB (w0.heap.size + 2) v)) : Dfs w0 w' n gr v' C (a :: r) := by
  have hT : ∀ b, PB (w0.heap.size + 2) v b → b = w0.heap.size + 2 ∨ w0.heap.size + 5 ≤ b := fun b hb => by
    rcases hb with hb | hb
    · exact .inl hb
    · exact .inr (h.trail.own.lt hb).1
  exact h.turn k (fun b hb => .inr (hT b hb)) (h.cmap.tn k (fun e => by have := hT _ e; omega)) hp
theorem Dfs.popped {w0 w w' : World} {n gr : Nat} {v v' : Value} {C : Nat → Option Nat} {r : List Nat} {a : Nat} (h : Dfs w0 w n gr v C (a :: r)) (hp : Pile w' (w0.heap.size + 2) (w0.heap.size + 5) 3 v' (nats r)) (k : Tn w w' (fun b => b = w0.heap.size + 2)) : Dfs w0 w' n gr v' C r :=
  h.turn k (fun b hb => .inr (.inl hb)) (h.cmap.tn k (fun e => by omega)) hp

def VisPost (o : List Int) (n : Nat) (w0 : World) (gr : Nat) (C : Nat → Option Nat) (r : List Nat) (a wn : Nat) (e : Ending) (w' : World) : Prop :=
  (e = .returned (.bool true) ∧ ∃ C' v', Dfs w0 w' n gr v' C' r ∧ DInv (cfB o) n C' r ∧ Ext C C' ∧ C' a = some wn) ∨
  (e = .returned (.bool false) ∧ ∃ l vi, Ring (cfB o) n l ∧ w'.cell? ⟨w0.heap.size + 3, 0, none⟩ = some vi ∧ Ow w' (w0.heap.size + 5) 3 vi (nats l) ∧ Below w0.heap.size w0 w')

set_option maxHeartbeats 3200000 in
theorem visit_any (o : List Int) (n : Nat) (hlen : o.length = n) (hn : n ≤ 60) (w0 : World) (gr br base nr : Nat) (hR : Riv o w0 gr br base nr) (t : Nat) :
    ∀ (a wn : Nat) (C : Nat → Option Nat) (r : List Nat) (v : Value) (w : World), n + 1 ≤ r.length + t → a < n → wn ≤ 1 → DInv (cfB o) n C r → Hang (cfB o) C r a wn → Dfs w0 w n gr v C r →
    Calls Try.prog 79 #[.int .i64 a, .int .i64 wn, .pointer (some ⟨w0.heap.size + 1, 0, none⟩), .pointer (some ⟨w0.heap.size + 2, 0, none⟩), .pointer (some ⟨w0.heap.size + 3, 0, none⟩), .pointer (some ⟨gr, 0, none⟩), .pointer (some ⟨w0.heap.size + 4, 0, none⟩)] w
      (VisPost o n w0 gr C r a wn) := by
  induction t with
  | zero =>
    intro a wn C r v w ht _ _ hI _ _
    have := hI.short
    omega
  | succ t ih =>
    intro a wn C r v w ht ha hw hI hH hD
    have IH := Lib.hid ih; clear ih
    have hrl := hI.short
    have HR := Lib.hid hR; clear hR
    have HII := Lib.hid hI; clear hI
    have HHH := Lib.hid hH; clear hH
    have HD := Lib.hid hD; clear hD
    have HLEN := Lib.hid hlen; clear hlen
    have hcc := HD.out.colc
    cases hca : C a with
    | some known =>
      have HG0 : Hid ((colF C a).getD (.int .i64 0) = .int .i64 known) := by unfold colF; rw [Hid, hca]; rfl
      have HG1 : Hid ((colF C a).isSome = true) := by unfold colF; rw [Hid, hca]; rfl
      have hk1 := (HII.out.dom a known hca).2
      by_cases he : known = wn
      · have g1 : ((known : Int) != (wn : Int)) = false := by simp; omega
        have g2 : ((known : Int) == (wn : Int)) = true := by simp; omega
        have HP : Hid (VisPost o n w0 gr C r a wn (.returned (.bool true)) w) := .inl ⟨rfl, C, v, HD.out, HII.out, Ext.refl _, by rw [hca, he]⟩
        clear he hca
        go_enter Try.func79, Try.ntmps79
        go_wp2_with (at_lookup; refine lookOk_law _ rfl _ _ 70 rfl Try.underlying70 _ _ _ rfl HD.out.cmap a (by omega) rfl known HG0.out true HG1.out ?_)
        go_ret
        exact HP.out
      · have g1 : ((known : Int) != (wn : Int)) = true := by simp; omega
        have g2 : ((known : Int) == (wn : Int)) = false := by simp; omega
        obtain ⟨m, hm, hma, hring⟩ := ring_of_trail HII.out ha hw hca he HHH.out
        have HFT : Hid (fromTo (nats r).reverse a r.length = nats (r.take (m + 1)).reverse) := fromTo_trail HII.out.nodup hm hma
        have HRL : Hid (0 < (nats (r.take (m + 1)).reverse).length) := by have := hring.three; rw [Hid, List.length_map]; omega
        have HRG := Lib.hid hring; clear hring
        obtain ⟨L, HRE⟩ : ∃ L, Hid ((nats (r.take (m + 1)).reverse).length = L) := ⟨_, rfl⟩
        clear he hca hm hma
        obtain ⟨A, c, hv, hsl⟩ := HD.out.trail.own.sl (by simp; omega)
        rw [List.length_reverse, List.length_map] at hv hsl
        subst hv
        have HSL := Lib.hid hsl; clear hsl
        have htc := HD.out.trail.cell
        have hci := HD.out.circ
        have hcf := HD.out.circf
        have hs5 := HD.out.trail.base
        have hl3 : w0.heap.size + 3 < w.heap.size := by omega
        have HFR := Lib.hid (from_any A r.length c (nats r).reverse (a : Int) w HSL.out (by omega))
        go_enter Try.func79, Try.ntmps79
        go_wp2_with (first | (at_lookup; refine lookOk_law _ rfl _ _ 70 rfl Try.underlying70 _ _ _ rfl HD.out.cmap a (by omega) rfl known HG0.out true HG1.out ?_) | (go_at_call 80; refine HFR.out.mono ?_; clear HFR; rintro e w1 ⟨u, rfl, hu, hb1⟩; rw [HFT.out] at hu; obtain ⟨g1, cap1, hue, hu1⟩ := hu.form HRL.out; clear hu1; rw [HRE.out] at hue; subst hue; have hci1 := (hb1.cell (p := ⟨w0.heap.size + 3, 0, none⟩) hl3).trans hci; have hcf1 := (hb1.frozen (p := ⟨w0.heap.size + 3, 0, none⟩) hl3).trans hcf; have HU := Lib.hid hu; clear hu))
        go_ret
        have hu5 := (HU.out.base hs5).setBelow (a := ⟨w0.heap.size + 3, 0, none⟩) (by simp) (.slice (some ⟨g1, 0, none⟩) L cap1)
        have hbl := (HD.out.below.trans (hb1.mono HD.out.below.size)).setCell (p := ⟨w0.heap.size + 3, 0, none⟩) (by simp) (.slice (some ⟨g1, 0, none⟩) L cap1)
        exact .inr ⟨rfl, _, _, HRG.out, World.cell?_setCell_same' _ _ _ (by rw [hci1]; rfl), hu5, hbl⟩
    | none =>
      have HG0 : Hid ((colF C a).getD (.int .i64 0) = .int .i64 0) := by unfold colF; rw [Hid, hca]; rfl
      have HG1 : Hid ((colF C a).isSome = false) := by unfold colF; rw [Hid, hca]; rfl
      have HCN : Hid (cnt C n ≤ n) := cnt_le C n
      have HI2 : Hid (DInv (cfB o) n (upd C a wn) (a :: r)) := HII.out.push ha hw hca HHH.out
      have HEX : Hid (Ext C (upd C a wn)) := upd_ext hca
      have HCA := Lib.hid hca; clear hca
      obtain ⟨L, hL⟩ : ∃ L, (rivs o a).length = L := ⟨_, rfl⟩
      have hLb : L ≤ 1099511627776 := by
        rw [← hL]
        unfold rivs
        have h1 := rivTo_len (confAll o o.length) (confAll o o.length).length a
        have h2 := confAll_len o o.length
        have h3 : o.length * o.length ≤ 60 * 60 := Nat.mul_le_mul (by rw [HLEN.out]; exact hn) (by rw [HLEN.out]; exact hn)
        omega
      have HLL := Lib.hid hL; clear hL
      have HRC : Hid (∀ W, Below w0.heap.size w0 W → W.cell? ⟨gr, 0, none⟩ = some (.map (some br))) := fun W h => (h.cell (p := ⟨gr, 0, none⟩) (World.block_lt_of_cell? w0 ⟨gr, 0, none⟩ HR.out.cell)).trans HR.out.cell
      go_enter Try.func79, Try.ntmps79
      go_wp2_with (first
        | (at_lookup; refine lookOk_law _ rfl _ _ 70 rfl Try.underlying70 _ _ _ rfl HD.out.cmap a (by omega) rfl 0 HG0.out false HG1.out ?_)
        | (at_mapUpdate; go_must (refine storeM_law _ rfl _ _ _ 70 rfl 3 Try.underlying70 _ _ _ rfl HD.out.cmap (by have := HCN.out; omega) a (by omega) rfl _ rfl (.int .i64 wn) (plainElem_int Try.underlying3 (WalkArith.wf_i64 (by omega))) ?_); intro w1 hm1 hg1; have HD1 := Lib.hid (HD.out.store ha HCA.out hm1 hg1); clear hm1 hg1)
        | (go_at_call 76; go_must (refine (push_any (a : Int) HD1.out.trail (by rw [List.length_map]; omega)).mono ?_); rintro e w2 ⟨rfl, v2, hp2, ht2, hat2⟩; clear hat2; have HD2 := Lib.hid (HD1.out.pushed hp2 ht2); clear hp2 ht2; have hrc2 := HRC.out _ HD2.out.below)
        | (at_lookup; go_must (refine lookR_law _ rfl _ _ 86 rfl Try.underlying86 w0 base br nr (rivs o) rfl HR.out.gm HD2.out.below a (by omega) rfl L HLL.out hLb ?_); intro A c hsl; have HSL := Lib.hid hsl; clear hsl))
      clear hcc
      have hw0 : (wn : Int) ≤ 1 := by omega
      go_loopw [13, 39] (fun _ i w' => ∃ (j : Nat) (C' : Nat → Option Nat) (v' : Value), j ≤ L ∧ i = .int .i64 (j : Int) ∧ Hid (Dfs w0 w' n gr v' C' (a :: r)) ∧ Hid (DInv (cfB o) n C' (a :: r)) ∧ Hid (Ext (upd C a wn) C') ∧ Hid (∀ i, i < j → C' ((rivs o a)[i]?.getD 0) = some (1 - wn))) (fun _ i _ => L - (intOf i).toNat)
      case atStart => exact ⟨0, upd C a wn, v2, by omega, by go_num, HD2, HI2, Ext.refl _, fun i hi => absurd hi (by omega)⟩
      case round =>
        obtain ⟨j, C', v', hj, rfl, HDj, HIj, HEj, HCj⟩ := hrel
        by_cases hlt : j < L
        · obtain ⟨b0, off0, rfl, hcx⟩ := HSL.out.cells (by omega)
          have hb0 := HSL.out.old b0 off0 rfl (by omega)
          have hc := (HDj.out.below.cell (p := ⟨b0, off0 + j, none⟩) hb0).trans (hcx j hlt)
          rw [nats_at (by rw [HLL.out]; exact hlt)] at hc
          clear hcx
          have hmem : (rivs o a)[j]?.getD 0 ∈ rivs o a := by rw [List.getElem?_eq_getElem (by rw [HLL.out]; exact hlt)]; exact List.getElem_mem _
          obtain ⟨_, hbn, hbl⟩ := (rivs_mem o a _).1 hmem
          rw [HLEN.out] at hbn
          have HBJ : Hid (∀ C'' : Nat → Option Nat, Ext C' C'' → C'' ((rivs o a)[j]?.getD 0) = some (1 - wn) → ∀ i, i < j + 1 → C'' ((rivs o a)[i]?.getD 0) = some (1 - wn)) := fun C'' h1 h2 i hi => by
            by_cases e : i = j
            · subst e; exact h2
            · exact h1 _ _ (HCj.out i (by omega))
          clear hmem
          generalize (rivs o a)[j]?.getD 0 = b at *
          have HHG : Hid (Hang (cfB o) C' (a :: r) b (1 - wn)) := .inr ⟨a, r, rfl, hbl, by rw [HEj.out a wn (upd_same _ _ _)]; congr 1; omega⟩
          have HV : Hid (Calls Try.prog 79 #[.int .i64 b, .int .i64 (1 - (wn : Int)), .pointer (some ⟨w0.heap.size + 1, 0, none⟩), .pointer (some ⟨w0.heap.size + 2, 0, none⟩), .pointer (some ⟨w0.heap.size + 3, 0, none⟩), .pointer (some ⟨gr, 0, none⟩), .pointer (some ⟨w0.heap.size + 4, 0, none⟩)] wr (VisPost o n w0 gr C' (a :: r) b (1 - wn))) := by
            have h := IH.out b (1 - wn) C' (a :: r) v' wr (by simp; omega) hbn (by omega) HIj.out HHG.out HDj.out
            rw [show ((1 - wn : Nat) : Int) = 1 - (wn : Int) from by omega] at h
            exact h
          have hfn := HDj.out.fn
          clear hbl
          go_wp2_with fail
          refine HV.out.mono ?_
          rintro e w3 (⟨rfl, C3, v3, hD3, hI3, hE3, hc3⟩ | ⟨rfl, l, vi, hrg, hvi, hvo, hbw⟩)
          · have HD3 := Lib.hid hD3; clear hD3
            have HI3 := Lib.hid hI3; clear hI3
            have HE3 : Hid (Ext (upd C a wn) C3) := HEj.out.trans hE3
            have HC3 : Hid (∀ i, i < j + 1 → C3 ((rivs o a)[i]?.getD 0) = some (1 - wn)) := HBJ.out C3 hE3 hc3
            clear hE3 hc3 hfn hc
            go_wp2
            go_roundw
            case rel => exact ⟨j + 1, C3, v3, by omega, by go_num, HD3, HI3, HE3, HC3⟩
            case measure => simp [intOf]; omega
          · have HP : Hid (VisPost o n w0 gr C r a wn (.returned (.bool false)) w3) := .inr ⟨rfl, l, vi, hrg, hvi, hvo, hbw⟩
            clear hrg hvi hvo hbw hfn hc
            go_wp2
            go_ret
            exact HP.out
        · obtain rfl : j = L := by omega
          have HAL : Hid (∀ b, b < n → link (cfB o) a b → C' b = some (1 - wn)) := fun b hb hl => by
            have hm := (rivs_mem o a b).2 ⟨by rw [HLEN.out]; exact ha, by rw [HLEN.out]; exact hb, hl⟩
            obtain ⟨i, hi, he⟩ := List.mem_iff_getElem.1 hm
            have := HCj.out i (by rw [← HLL.out]; exact hi)
            rw [List.getElem?_eq_getElem hi] at this
            rw [← he]; exact this
          have HIP : Hid (DInv (cfB o) n C' r) := HIj.out.pop (HEj.out a wn (upd_same _ _ _)) HAL.out
          have HEP : Hid (Ext C C') := HEX.out.trans HEj.out
          have HCP : Hid (C' a = some wn) := HEj.out a wn (upd_same _ _ _)
          go_wp2_with (go_at_call 75; go_must (refine (pop_cons HDj.out.trail (by rw [List.length_map]; omega)).mono ?_); rintro e w3 ⟨rfl, v3, hp3, ht3, ho3⟩; clear ho3; have HD3 := Lib.hid (HDj.out.popped hp3 ht3); clear hp3 ht3)
          go_ret
          exact .inl ⟨rfl, C', v3, HD3.out, HIP.out, HEP.out, HCP.out⟩
end Go.Proofs.Ytmnnehpoaedifaa
