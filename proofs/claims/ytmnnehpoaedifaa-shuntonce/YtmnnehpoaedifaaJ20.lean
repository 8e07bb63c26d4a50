import Derived.Test.YtmnnehpoaedifaaJ05
import Derived.Test.YtmnnehpoaedifaaJ07
import Derived.Test.YtmnnehpoaedifaaJ02
import Derived.Test.YtmnnehpoaedifaaJ08
import Derived.Test.YtmnnehpoaedifaaJ09
import Derived.Test.YtmnnehpoaedifaaJ10
import Derived.Test.YtmnnehpoaedifaaJ03
/- Layer 2: Least of the inverse and of the turned order; removing an item; tame's result is an order. -/
namespace Go.Proofs.Ytmnnehpoaedifaa

/-- A map that turns the positions over takes what descends to what descends. -/
theorem desc_rev {o p : List Int} (g : Nat → Nat) (hb : ∀ i, i < o.length → g i < p.length)
    (hg : ∀ i j, i < j → j < o.length → at0 o j < at0 o i → g j < g i ∧ at0 p (g i) < at0 p (g j)) {l : List Nat} (h : Desc o l) : Desc p (l.map g).reverse := by
  constructor
  · rw [List.pairwise_reverse, List.pairwise_map]
    refine List.Pairwise.imp_of_mem ?_ h.1
    intro i j _ hj hij
    exact hg i j hij.1 (h.2 j hj) hij.2
  · intro i hi
    rw [List.mem_reverse] at hi
    obtain ⟨j, hj, rfl⟩ := List.mem_map.1 hi
    exact hb j (h.2 j hj)
theorem least_rev {o p : List Int} (hn : 0 < o.length) (g : Nat → Nat) (hb : ∀ i, i < o.length → g i < p.length)
    (hg : ∀ i j, i < j → j < o.length → at0 o j < at0 o i → g j < g i ∧ at0 p (g i) < at0 p (g j)) : leastOf o ≤ leastOf p := by
  obtain ⟨l, h1, h2⟩ := desc_least o hn
  have := desc_le p _ (desc_rev g hb hg h1)
  rw [List.length_reverse, List.length_map] at this
  omega
/-- The positions of the items, increased by 1. -/
structure Inv (o p : List Int) : Prop where
  len : p.length = o.length
  rng : ∀ i, i < o.length → 1 ≤ at0 o i ∧ at0 o i ≤ o.length
  back : ∀ i, i < o.length → at0 p ((at0 o i).toNat - 1) = (i : Int) + 1
theorem Inv.le {o p : List Int} (h : Inv o p) (hn : 0 < o.length) : leastOf o ≤ leastOf p := by
  refine least_rev hn (fun i => (at0 o i).toNat - 1) (fun i hi => ?_) fun i j hij hj hlt => ?_
  · have := h.rng i hi
    have := h.len
    show (at0 o i).toNat - 1 < p.length
    omega
  · have h1 := h.rng i (by omega)
    have h2 := h.rng j hj
    have h3 := h.back i (by omega)
    have h4 := h.back j hj
    exact ⟨by show (at0 o j).toNat - 1 < (at0 o i).toNat - 1; omega, by show at0 p ((at0 o i).toNat - 1) < at0 p ((at0 o j).toNat - 1); omega⟩
theorem Inv.symm {o p : List Int} (h : Inv o p) (hd : Diff o) : Inv p o := by
  have key : ∀ a, a < o.length → ∃ i, i < o.length ∧ at0 o i = (a : Int) + 1 ∧ at0 p a = (i : Int) + 1 := by
    intro a ha
    obtain ⟨c, h1, h2⟩ := ord_surj hd h.rng (v := a + 1) (by omega) (by omega)
    have h3 := h.back c h1
    rw [show (at0 o c).toNat - 1 = a from by omega] at h3
    exact ⟨c, h1, by omega, h3⟩
  refine ⟨h.len.symm, fun a ha => ?_, fun a ha => ?_⟩
  · obtain ⟨i, h1, h2, h3⟩ := key a (by have := h.len; omega)
    have := h.len
    omega
  · obtain ⟨i, h1, h2, h3⟩ := key a (by have := h.len; omega)
    rw [show (at0 p a).toNat - 1 = i from by omega, h2]
theorem Inv.least {o p : List Int} (h : Inv o p) (hd : Diff o) (hn : 0 < o.length) : leastOf p = leastOf o := by
  have h1 := h.le hn
  have h2 := (h.symm hd).le (by have := h.len; omega)
  omega
theorem invTo_at {o : List Int} (hd : Diff o) (hr : ∀ i, i < o.length → 1 ≤ at0 o i ∧ at0 o i ≤ o.length) (k : Nat) (hk : k ≤ o.length) :
    ∀ i, i < k → at0 (invTo o k) ((at0 o i).toNat - 1) = (i : Int) + 1 := by
  induction k with
  | zero => intro i hi; omega
  | succ k ih =>
    intro i hi
    have hk' := hr k (by omega)
    have hi' := hr i (by omega)
    show (((invTo o k).set ((at0 o k).toNat - 1) ((k : Int) + 1)))[(at0 o i).toNat - 1]?.getD 0 = _
    by_cases e : i = k
    · subst e
      rw [List.getElem?_set_self (by rw [invTo_len]; omega)]
      rfl
    · rw [List.getElem?_set_ne (by intro e2; exact e (hd i k (by omega) (by omega) (show at0 o i = at0 o k by omega)))]
      exact ih (by omega) i (by omega)
theorem inv_of_ord {o : List Int} (h : Ord o) : Inv o (invTo o o.length) :=
  ⟨invTo_len o _, fun i hi => ⟨h.lo i hi, h.hi i hi⟩, invTo_at h.diff (fun i hi => ⟨h.lo i hi, h.hi i hi⟩) o.length (Nat.le_refl _)⟩
/-- The inverse of an order has the same least number of queues. -/
theorem least_inverse {o : List Int} (h : Ord o) (hn : 0 < o.length) : leastOf (invTo o o.length) = leastOf o := (inv_of_ord h).least h.diff hn
/-- The inverse of an order is an order. -/
theorem ord_inverse {o : List Int} (h : Ord o) : Ord (invTo o o.length) := by
  have h1 := (inv_of_ord h).symm h.diff
  have hl := invTo_len o o.length
  refine ⟨fun i j hi hj e => ?_, fun i hi => (h1.rng i hi).1, fun i hi => (h1.rng i hi).2⟩
  have e : at0 (invTo o o.length) i = at0 (invTo o o.length) j := e
  have h2 := h1.back i hi
  have h3 := h1.back j hj
  rw [e] at h2
  omega
/-- The order reversed and complemented. -/
def turnTo (o : List Int) : Nat → List Int
  | 0 => []
  | k + 1 => turnTo o k ++ [(o.length : Int) + 1 - at0 o (o.length - 1 - k)]
def turnOf (o : List Int) : List Int := turnTo o o.length
theorem turnTo_len (o : List Int) (k : Nat) : (turnTo o k).length = k := by
  induction k with
  | zero => rfl
  | succ k ih => simp [turnTo, ih]
theorem turnTo_at (o : List Int) (k i : Nat) (h : i < k) : at0 (turnTo o k) i = (o.length : Int) + 1 - at0 o (o.length - 1 - i) := by
  induction k with
  | zero => omega
  | succ k ih =>
    unfold at0
    rw [turnTo]
    by_cases e : i = k
    · subst e
      rw [List.getElem?_append_right (by rw [turnTo_len]; omega), turnTo_len, Nat.sub_self]
      rfl
    · rw [List.getElem?_append_left (by rw [turnTo_len]; omega)]
      exact ih (by omega)
theorem turn_len (o : List Int) : (turnOf o).length = o.length := turnTo_len o _
theorem turn_at (o : List Int) (i : Nat) (h : i < o.length) : at0 (turnOf o) i = (o.length : Int) + 1 - at0 o (o.length - 1 - i) := turnTo_at o _ i h
theorem least_turned {o : List Int} (hn : 0 < o.length) : leastOf (turnOf o) = leastOf o := by
  have hl := turn_len o
  have h1 : leastOf o ≤ leastOf (turnOf o) := by
    refine least_rev hn (fun i => o.length - 1 - i) (fun i hi => by show o.length - 1 - i < _; omega) fun i j hij hj hlt => ⟨by show o.length - 1 - j < o.length - 1 - i; omega, ?_⟩
    show at0 (turnOf o) (o.length - 1 - i) < at0 (turnOf o) (o.length - 1 - j)
    rw [turn_at o _ (by omega), turn_at o _ (by omega), show o.length - 1 - (o.length - 1 - i) = i from by omega, show o.length - 1 - (o.length - 1 - j) = j from by omega]
    omega
  have h2 : leastOf (turnOf o) ≤ leastOf o := by
    refine least_rev (by omega) (fun i => o.length - 1 - i) (fun i hi => by show o.length - 1 - i < _; omega) fun i j hij hj hlt => ⟨by show o.length - 1 - j < o.length - 1 - i; omega, ?_⟩
    rw [turn_at o _ (by omega), turn_at o _ (by omega)] at hlt
    show at0 o (o.length - 1 - i) < at0 o (o.length - 1 - j)
    omega
  omega
theorem ord_turned {o : List Int} (h : Ord o) : Ord (turnOf o) := by
  have hl := turn_len o
  have hlo : ∀ i, i < o.length → 1 ≤ at0 o i := h.lo
  have hhi : ∀ i, i < o.length → at0 o i ≤ o.length := h.hi
  refine ⟨fun i j hi hj e => ?_, fun i hi => ?_, fun i hi => ?_⟩
  · have e : at0 (turnOf o) i = at0 (turnOf o) j := e
    rw [turn_at o i (by omega), turn_at o j (by omega)] at e
    have := h.diff (o.length - 1 - i) (o.length - 1 - j) (by omega) (by omega) (show at0 o _ = at0 o _ by omega)
    omega
  · show 1 ≤ at0 (turnOf o) i
    rw [turn_at o i (by omega)]
    have := hhi (o.length - 1 - i) (by omega)
    omega
  · show at0 (turnOf o) i ≤ _
    rw [turn_at o i (by omega)]
    have := hlo (o.length - 1 - i) (by omega)
    omega
/-- What tame makes is an order. -/
theorem ord_tame (l : List Int) (n : Nat) : Ord (tameOf l n) := by
  have hl := tameOf_len l n
  refine ⟨fun i j hi hj e => ?_, fun i hi => ?_, fun i hi => ?_⟩
  · rw [hl] at hi hj
    rw [tameOf_at l n i hi, tameOf_at l n j hj] at e
    exact rank_inj hi hj (Int.ofNat.inj e)
  · rw [hl] at hi
    rw [tameOf_at l n i hi]
    have := rank_ge l n i
    omega
  · rw [hl] at hi ⊢
    rw [tameOf_at l n i hi]
    have := rank_le (l := l) hi
    omega
/-- tame keeps which of two different items is the smaller. -/
theorem tame_lt {l : List Int} {n i j : Nat} (hi : i < n) (hj : j < n) (hd : at0 l i = at0 l j → i = j) : at0 (tameOf l n) i < at0 (tameOf l n) j ↔ at0 l i < at0 l j := by
  unfold at0 at *
  rw [tameOf_at l n i hi, tameOf_at l n j hj]
  have fwd : ∀ a b, a < n → b < n → l[a]?.getD 0 < l[b]?.getD 0 → rankTo l a n < rankTo l b n := fun a b ha hb h => rank_lt ha (by unfold beforeB; simp [h])
  constructor
  · intro h
    rcases Int.lt_trichotomy (l[i]?.getD 0) (l[j]?.getD 0) with h1 | h1 | h1
    · exact h1
    · have := hd h1; subst this; exact absurd h (Int.lt_irrefl _)
    · have := fwd j i hj hi h1; omega
  · intro h
    have := fwd i j hi hj h
    omega
/-- A part of an order: positions that ascend, items that compare alike. -/
structure Part (p o : List Int) (g : Nat → Nat) : Prop where
  lt : ∀ i, i < p.length → g i < o.length
  mono : ∀ i j, i < j → j < p.length → g i < g j
  cmp : ∀ i j, i < p.length → j < p.length → (at0 p i < at0 p j ↔ at0 o (g i) < at0 o (g j))
theorem Part.bad {p o : List Int} {g : Nat → Nat} (h : Part p o g) {a b c : Nat} (hb : Bad p a b c) : Bad o (g a) (g b) (g c) := by
  obtain ⟨h1, h2, h3, h4, h5⟩ := hb
  exact ⟨h.mono a b h1 (by omega), h.mono b c h2 h3, h.lt c h3, (h.cmp c a h3 (by omega)).1 h4, (h.cmp a b (by omega) (by omega)).1 h5⟩
theorem Part.good {p o : List Int} {g : Nat → Nat} (h : Part p o g) (ho : Good o) : Good p := fun _ _ _ hb => ho _ _ _ (h.bad hb)
theorem Part.conf {p o : List Int} {g : Nat → Nat} (h : Part p o g) {a b : Nat} (hc : Conf p a b) : Conf o (g a) (g b) := by
  obtain ⟨h1, c, hb⟩ := hc
  exact ⟨h.mono a b h1 (by obtain ⟨_, h2, h3, _⟩ := hb; omega), g c, h.bad hb⟩
theorem Part.least_le {p o : List Int} {g : Nat → Nat} (h : Part p o g) (hn : 0 < p.length) : leastOf p ≤ leastOf o := by
  obtain ⟨l, h1, h2⟩ := desc_least p hn
  have h3 : Desc o (l.map g) := by
    constructor
    · rw [List.pairwise_map]
      refine List.Pairwise.imp_of_mem ?_ h1.1
      intro i j hi hj hij
      exact ⟨h.mono i j hij.1 (h1.2 j hj), (h.cmp j i (h1.2 j hj) (h1.2 i hi)).1 hij.2⟩
    · intro i hi
      obtain ⟨j, hj, rfl⟩ := List.mem_map.1 hi
      exact h.lt j (h1.2 j hj)
  have := desc_le o _ h3
  rw [List.length_map] at this
  omega
theorem filter_one {l : List Nat} (h : l.Nodup) (k : Nat) : l.length ≤ (l.filter (fun i => i != k)).length + 1 := by
  induction l with
  | nil => simp
  | cons x l ih =>
    have hx := List.nodup_cons.1 h
    rw [List.filter_cons]
    split
    · have := ih hx.2; simp only [List.length_cons]; omega
    · rename_i e
      have e : x = k := by simpa using e
      subst e
      rw [List.filter_eq_self.2 (fun a ha => by
        rw [bne_iff_ne]; intro e; exact hx.1 (e ▸ ha))]
      simp
/-- Without the item at k. -/
def skip (k i : Nat) : Nat := if i < k then i else i + 1
theorem Part.least_ge {p o : List Int} {k : Nat} (h : Part p o (skip k)) (hk : k < o.length) (hn : o.length = p.length + 1) : leastOf o ≤ leastOf p + 1 := by
  obtain ⟨l, h1, h2⟩ := desc_least o (by omega)
  let u : Nat → Nat := fun i => if i < k then i else i - 1
  have hu : ∀ i, i ≠ k → i < o.length → skip k (u i) = i ∧ u i < p.length := fun i hi hlt => by
    show (if (if i < k then i else i - 1) < k then (if i < k then i else i - 1) else (if i < k then i else i - 1) + 1) = i ∧ (if i < k then i else i - 1) < p.length
    by_cases e : i < k
    · rw [if_pos e, if_pos e]; exact ⟨rfl, by omega⟩
    · rw [if_neg e, if_neg (by omega)]; omega
  have hmono : ∀ i j, i ≠ k → j ≠ k → i < j → u i < u j := fun i j hi hj hij => by
    show (if i < k then i else i - 1) < (if j < k then j else j - 1)
    split <;> split <;> omega
  have hnd : l.Nodup := by
    rw [List.nodup_iff_pairwise_ne]
    exact h1.1.imp (fun h => by omega)
  have h3 : Desc p ((l.filter (fun i => i != k)).map u) := by
    constructor
    · rw [List.pairwise_map]
      refine List.Pairwise.imp_of_mem ?_ (h1.1.sublist List.filter_sublist)
      intro i j hi hj hij
      obtain ⟨hi, hik⟩ := List.mem_filter.1 hi
      obtain ⟨hj, hjk⟩ := List.mem_filter.1 hj
      rw [bne_iff_ne] at hik hjk
      have a := hu i hik (h1.2 i hi)
      have b := hu j hjk (h1.2 j hj)
      refine ⟨hmono i j hik hjk hij.1, (h.cmp _ _ b.2 a.2).2 ?_⟩
      rw [a.1, b.1]
      exact hij.2
    · intro i hi
      obtain ⟨j, hj, rfl⟩ := List.mem_map.1 hi
      obtain ⟨hj, hjk⟩ := List.mem_filter.1 hj
      rw [bne_iff_ne] at hjk
      exact (hu j hjk (h1.2 j hj)).2
  have h4 := desc_le p _ h3
  rw [List.length_map] at h4
  have := filter_one hnd k
  omega
/-- The rest of an order without the item at k, made an order again, is a part of it. -/
theorem part_less {o : List Int} (hd : Diff o) {k : Nat} (hk : k < o.length) : Part (tameOf (o.take k ++ o.drop (k + 1)) (o.length - 1)) o (skip k) := by
  have hl := tameOf_len (o.take k ++ o.drop (k + 1)) (o.length - 1)
  have hat : ∀ i, i < o.length - 1 → at0 (o.take k ++ o.drop (k + 1)) i = at0 o (skip k i) := fun i hi => by
    unfold at0 skip
    split
    · rw [List.getElem?_append_left (by rw [List.length_take]; omega), List.getElem?_take_of_lt (by omega)]
    · rw [List.getElem?_append_right (by rw [List.length_take]; omega), List.length_take, List.getElem?_drop, show k + 1 + (i - min k o.length) = i + 1 from by omega]
  refine ⟨fun i hi => by unfold skip; split <;> omega, fun i j hij hj => by unfold skip; split <;> split <;> omega, fun i j hi hj => ?_⟩
  rw [hl] at hi hj
  rw [tame_lt hi hj (fun e => ?_), hat i hi, hat j hj]
  rw [hat i hi, hat j hj] at e
  have := hd (skip k i) (skip k j) (by unfold skip; split <;> omega) (by unfold skip; split <;> omega) e
  unfold skip at this
  split at this <;> split at this <;> omega
end Go.Proofs.Ytmnnehpoaedifaa
/- The law ShuntInverse, from what Least promises. -/
namespace Go.Proofs.Ytmnnehpoaedifaa
open Go.RowKit

theorem least_inverse0 {o : List Int} (h : Ord o) : leastOf (invTo o o.length) = leastOf o := by
  rcases Nat.eq_zero_or_pos o.length with h0 | h0
  · rw [List.eq_nil_of_length_eq_zero h0]; rfl
  · exact least_inverse h h0
theorem least_turned0 (o : List Int) : leastOf (turnOf o) = leastOf o := by
  rcases Nat.eq_zero_or_pos o.length with h0 | h0
  · rw [List.eq_nil_of_length_eq_zero h0]; rfl
  · exact least_turned h0
theorem inverse_law (hA : AwakeOk) (hM : LeastOk) (A : Option Addr) (n c : Nat) (zs : List Int) (w : World) (hs : Sl w A n c zs) :
    Calls Try.prog 14 #[.slice A n c] w fun e w' => e = .returned (.bool true) ∧ Below w.heap.size w w' := by
  have HA := Lib.hid hA; clear hA
  have HM := Lib.hid hM; clear hM
  obtain ⟨N, hN⟩ : ∃ N, min n 30 = N := ⟨_, rfl⟩
  obtain ⟨o, ho⟩ : ∃ o, tameOf zs N = o := ⟨_, rfl⟩
  have hol : o.length = N := by rw [← ho, tameOf_len]
  have hord : Ord o := by rw [← ho]; exact ord_tame zs N
  have HOB : Hid (ordB o 60 = true ∧ ordB (invTo o N) 60 = true ∧ ordB (turnOf o) 60 = true) := by
    refine ⟨ordB_iff.2 ⟨hord, by omega⟩, ordB_iff.2 ⟨by rw [← hol]; exact ord_inverse hord, by rw [invTo_len]; omega⟩, ordB_iff.2 ⟨ord_turned hord, by rw [turn_len]; omega⟩⟩
  obtain ⟨t, ht⟩ : ∃ t, leastOf o = t := ⟨_, rfl⟩
  have HT : Hid (leastOf o = t ∧ leastOf (invTo o N) = t ∧ leastOf (turnOf o) = t) := by
    refine ⟨ht, ?_, ?_⟩
    · rw [← hol, least_inverse0 hord, ht]
    · rw [least_turned0, ht]
  clear ht
  have HL : Hid (Calls Try.prog 48 #[.slice A n c, .int .i64 (30 : Nat)] w fun e w' => ∃ B d, e = .returned (.slice B N d) ∧ Sl w' B N d o ∧ Below w.heap.size w w') := by
    refine (tame_any A n c zs 30 w hs (by omega)).mono ?_
    rintro e w1 ⟨v, rfl, hv, hb⟩
    rw [hN, ho] at hv
    obtain ⟨B, d, rfl, hsl⟩ := hv.sl_len hol (by omega)
    exact ⟨B, d, rfl, hsl, hb⟩
  have hN30 : N ≤ 30 := by omega
  clear hs hN ho
  have HR : Hid (∀ i, i < N → 1 ≤ o[i]?.getD 0 ∧ o[i]?.getD 0 ≤ N) := fun i hi => ⟨hord.lo i (by omega), by have := hord.hi i (by omega); rw [hol] at this; exact this⟩
  clear hord
  have HLEN := Lib.hid hol; clear hol
  obtain ⟨i0, hi, hz0, hz1, hz2⟩ := info_parts Try.infoInt
  have HI : Hid (Try.prog.info? 3 = some i0 ∧ i0.zero = some (.int .i64 0) ∧ i0.size = 1 ∧ i0.bytes = 8) := ⟨hi, hz0, hz1, hz2⟩
  clear hi hz0 hz1 hz2
  go_enter Try.func14, Try.ntmps14
  go_wp2_with (go_at_call 48; refine HL.out.mono ?_; rintro e w1 ⟨B, d, rfl, hsl, hb1⟩)
  have HSL := Lib.hid hsl; clear hsl
  go_loopw [5, 6] (fun u i w' => ∃ (k : Nat) (x : Int), k ≤ N ∧ x = (N : Int) - 1 - k ∧ i = .int .i64 x ∧ Hid (Ow w' w1.heap.size 3 u (turnTo o k)) ∧ Below w1.heap.size w1 w') (fun _ i _ => (intOf i + 1).toNat)
  case atStart => exact ⟨0, (N : Int) - 1, by omega, by omega, by go_num, Ow.nil _ _ _, Below.refl _ _⟩
  case round =>
    obtain ⟨k, x, hk, hx, rfl, HO, hW⟩ := hrel
    have hsz := hW.size
    by_cases hlt : k < N
    · obtain ⟨j, rfl⟩ : ∃ j : Nat, x = j := ⟨x.toNat, by omega⟩
      have hjN : j < N := by omega
      obtain ⟨b, off, rfl, hc⟩ := (HSL.out.below hW (Nat.le_refl _)).at_ hjN
      have hr := HR.out j hjN
      have HNX : Hid (turnTo o (k + 1) = turnTo o k ++ [(N : Int) + 1 - o[j]?.getD 0]) := by
        rw [Hid, turnTo, HLEN.out, show N - 1 - k = j from by omega]; rfl
      generalize o[j]?.getD 0 = a at *
      have HX := Lib.hid hx; clear hx
      have hlen : (turnTo o k).length ≤ 1099511627776 := by rw [turnTo_len]; omega
      go_wp2_with (at_builtin; go_must (refine push_law _ rfl (.tmp 23) (.tmp 31) 22 rfl w1.heap.size 3 i0 Try.underlying22 HI.out _ (turnTo o k) ((N : Int) + 1 - a) rfl rfl HO.out hlen hsz ?_); intro v1 w2 hv1 hg1 hat1; have HV1 := Lib.hid hv1; clear hv1; have HG1 := Lib.hid hg1; clear hg1; clear hat1)
      go_roundw
      case rel =>
        refine ⟨k + 1, (j : Int) - 1, by omega, by have := HX.out; omega, by go_num, ?_, hW.grown HG1.out hsz (fun j e => (HO.out.lt e).1)⟩
        have h := HV1.out
        rw [← HNX.out] at h
        exact h
      case measure => simp [intOf]
    · obtain rfl : k = N := by omega
      obtain rfl : x = -1 := by omega
      clear hx
      have HTU : Hid (turnTo o k = turnOf o) := by rw [Hid, turnOf, HLEN.out]
      rw [HTU.out] at HO
      have hs1 := HSL.out.below hW (Nat.le_refl _)
      obtain ⟨U, u', rfl, hu1⟩ := HO.out.sl_len (n := k) (by rw [turn_len, HLEN.out]) (by omega)
      clear hlt hk
      have HMB := Lib.hid (HM.out B k d o wr hs1)
      go_wp2_with (go_at_call 27; refine HMB.out.mono ?_; clear HMB; rintro e w2 ⟨x, y, rfl, z1, h1, hb2⟩; clear z1; obtain ⟨rfl, rfl⟩ := h1 HOB.out.1; clear h1; rw [HT.out.1])
      have hs2 := hs1.below hb2 (Nat.le_refl _)
      have hu2 := hu1.below hb2 (Nat.le_refl _)
      have HIV := Lib.hid (inverse_any B k d o w2 hs2 (by omega) HR.out)
      go_wp2_with (go_at_call 50; refine HIV.out.mono ?_; rintro e w3 ⟨v, rfl, hv, hb3⟩; obtain ⟨V, v', rfl, hv3⟩ := hv.sl_len (n := k) (by rw [invTo_len, HLEN.out]) (by omega))
      have hu3 := hu2.below hb3 (Nat.le_refl _)
      have HMV := Lib.hid (HM.out V k v' (invTo o k) w3 hv3)
      go_wp2_with (go_at_call 27; refine HMV.out.mono ?_; clear HMV; rintro e w4 ⟨x, y, rfl, z1, h1, hb4⟩; clear z1; obtain ⟨rfl, rfl⟩ := h1 HOB.out.2.1; clear h1; rw [HT.out.2.1])
      have hu4 := hu3.below hb4 (Nat.le_refl _)
      have HMU := Lib.hid (HM.out U k u' (turnOf o) w4 hu4)
      go_wp2_with (first | (go_at_call 27; refine HMU.out.mono ?_; clear HMU; rintro e w5 ⟨x, y, rfl, z1, h1, hb5⟩; clear z1; obtain ⟨rfl, rfl⟩ := h1 HOB.out.2.2; clear h1; rw [HT.out.2.2]) | (go_at_call 22; refine (HA.out _).mono ?_; rintro e w6 ⟨rfl, hb6⟩))
      go_ret
      exact ⟨rfl, ((((((Kp.call hb1 hW).call hb2).call hb3).call hb4).call hb5).call hb6)⟩
end Go.Proofs.Ytmnnehpoaedifaa
