import Derived.Test.YtcnjkdkkflpgnaaT33
import Derived.Deep.Matrix
import Derived.ChangeSame
import Derived.ChangeArms
/- Layer 8: turned pairs counted by the rolls: symmetric, a triangle, none exactly for equal orders, all for the reverse. -/
namespace Go.Proofs.Ytcnjkdkkflpgnaa
open Go.RowKit Go.Maps
set_option linter.unusedVariables false

def sm (g : Int → Nat) : List Int → Nat
  | [] => 0
  | x :: l => g x + sm g l
theorem sm_app (g : Int → Nat) : ∀ l q, sm g (l ++ q) = sm g l + sm g q
  | [], q => by simp [sm]
  | x :: l, q => by show g x + sm g (l ++ q) = g x + sm g l + sm g q; rw [sm_app g l q, Nat.add_assoc]
theorem sm_perm (g : Int → Nat) {l q : List Int} (h : List.Perm l q) : sm g l = sm g q := by
  induction h with
  | nil => rfl
  | cons x _ ih => show g x + _ = g x + _; rw [ih]
  | swap x y l => show g y + (g x + sm g l) = g x + (g y + sm g l); omega
  | trans _ _ h1 h2 => exact h1.trans h2
theorem sm_congr {g f : Int → Nat} : ∀ {l : List Int}, (∀ x ∈ l, g x = f x) → sm g l = sm f l
  | [], _ => rfl
  | x :: l, h => by
    show g x + sm g l = f x + sm f l
    rw [h x List.mem_cons_self, sm_congr (fun y hy => h y (List.mem_cons_of_mem _ hy))]
theorem sm_le {g f : Int → Nat} : ∀ {l : List Int}, (∀ x ∈ l, g x ≤ f x) → sm g l ≤ sm f l
  | [], _ => Nat.le_refl _
  | x :: l, h => Nat.add_le_add (h x List.mem_cons_self) (sm_le (fun y hy => h y (List.mem_cons_of_mem _ hy)))
theorem sm_add (g f : Int → Nat) : ∀ l, sm (fun x => g x + f x) l = sm g l + sm f l
  | [] => rfl
  | x :: l => by show g x + f x + sm _ l = g x + sm g l + (f x + sm f l); rw [sm_add g f l]; omega
theorem sm_zero : ∀ l, sm (fun _ => 0) l = 0
  | [] => rfl
  | x :: l => by show 0 + sm _ l = 0; rw [sm_zero l]
theorem sm_swap (f : Int → Int → Nat) (q : List Int) : ∀ l, sm (fun u => sm (fun v => f u v) q) l = sm (fun v => sm (fun u => f u v) l) q
  | [] => (sm_zero q).symm
  | x :: l => by
    show sm (fun v => f x v) q + sm (fun u => sm (fun v => f u v) q) l = sm (fun v => f x v + sm (fun u => f u v) l) q
    rw [sm_add (fun v => f x v) (fun v => sm (fun u => f u v) l) q, sm_swap f q l]
theorem sm_none {g : Int → Nat} : ∀ {l : List Int}, sm g l = 0 → ∀ x ∈ l, g x = 0
  | [], _, x, hx => absurd hx List.not_mem_nil
  | y :: l, h, x, hx => by
    have h : g y + sm g l = 0 := h
    rcases List.mem_cons.1 hx with e | e
    · rw [e]; omega
    · exact sm_none (by omega) x e
/-- u stands before v in a and behind it in b. -/
def trn (a b : List Int) (u v : Int) : Nat := if ixI a u < ixI a v ∧ ixI b v < ixI b u then 1 else 0
def dN (a b l : List Int) : Nat := sm (fun u => sm (fun v => trn a b u v) l) l
theorem dN_perm {a b l q : List Int} (h : List.Perm l q) : dN a b l = dN a b q := by
  unfold dN
  rw [sm_perm _ h]
  exact sm_congr fun u _ => sm_perm _ h
theorem dN_symm (a b l : List Int) : dN a b l = dN b a l := by
  unfold dN
  rw [sm_swap]
  refine sm_congr fun u _ => sm_congr fun v _ => ?_
  unfold trn
  by_cases h : ixI a v < ixI a u ∧ ixI b u < ixI b v
  · rw [if_pos h, if_pos ⟨h.2, h.1⟩]
  · rw [if_neg h, if_neg (fun e => h ⟨e.2, e.1⟩)]
theorem ixI_pos {zs : List Int} {x : Int} (h : x ∈ zs) : ∃ k : Nat, ixI zs x = (k : Int) ∧ k < zs.length ∧ atI zs k = x := by
  have hs := plI_mem (zs := zs) (x := x)
  rw [decide_eq_true h] at hs
  cases hp : plI zs x with
  | none => rw [hp] at hs; cases hs
  | some k => exact ⟨k, by unfold ixI; rw [hp], plI_lt hp, plI_val hp⟩
theorem ixI_inj {zs : List Int} {x y : Int} (hx : x ∈ zs) (hy : y ∈ zs) (h : ixI zs x = ixI zs y) : x = y := by
  obtain ⟨i, e1, _, e2⟩ := ixI_pos hx
  obtain ⟨j, e3, _, e4⟩ := ixI_pos hy
  have : i = j := by omega
  rw [← e2, ← e4, this]
theorem atI_inj {zs : List Int} (hn : zs.Nodup) {i j : Nat} (hi : i < zs.length) (hj : j < zs.length) (h : atI zs i = atI zs j) : i = j := by
  have e1 : atI zs i = zs[i] := by unfold atI; rw [List.getElem?_eq_getElem hi]; rfl
  have e2 : atI zs j = zs[j] := by unfold atI; rw [List.getElem?_eq_getElem hj]; rfl
  rw [e1, e2] at h
  have hp := List.pairwise_iff_getElem.1 hn
  rcases Nat.lt_trichotomy i j with e | e | e
  · exact absurd h (hp i j hi hj e)
  · exact e
  · exact absurd h.symm (hp j i hj hi e)
theorem ixI_of {zs : List Int} (hn : zs.Nodup) {i : Nat} (hi : i < zs.length) : ixI zs (atI zs i) = (i : Int) := by
  obtain ⟨k, e1, h1, e2⟩ := ixI_pos (atI_mem hi)
  rw [e1, atI_inj hn h1 hi e2]
theorem dN_tri {a b c l : List Int} (hb : ∀ x ∈ l, x ∈ b) : dN a c l ≤ dN a b l + dN b c l := by
  unfold dN
  rw [← sm_add]
  refine sm_le fun u hu => ?_
  rw [← sm_add]
  refine sm_le fun v hv => ?_
  unfold trn
  by_cases h : ixI a u < ixI a v ∧ ixI c v < ixI c u
  · rw [if_pos h]
    by_cases h1 : ixI b v < ixI b u
    · rw [if_pos ⟨h.1, h1⟩]; omega
    · have h2 : ixI b u ≠ ixI b v := fun e => by have := ixI_inj (hb u hu) (hb v hv) e; rw [this] at h; omega
      rw [if_pos (⟨by omega, h.2⟩ : ixI b u < ixI b v ∧ ixI c v < ixI c u)]; omega
  · rw [if_neg h]; omega
theorem takeI {zs : List Int} {i : Nat} (hi : i < zs.length) : zs.take (i + 1) = zs.take i ++ [atI zs i] := by
  rw [List.take_add_one, List.getElem?_eq_getElem hi]
  unfold atI
  rw [List.getElem?_eq_getElem hi]; rfl
theorem rowT_sm {a b : List Int} (hn : a.Nodup) {i : Nat} (hi : i < a.length) : ∀ k, k ≤ a.length → rowT a b i k = sm (fun v => trn a b (atI a i) v) (a.take k)
  | 0, _ => rfl
  | k + 1, hk => by
    unfold rowT
    rw [takeI (by omega), sm_app, rowT_sm hn hi k (by omega)]
    show _ = _ + (trn a b (atI a i) (atI a k) + 0)
    unfold trn invB
    rw [ixI_of hn hi, ixI_of hn (show k < a.length by omega), Nat.add_zero]
    congr 1
    by_cases h : (i : Int) < (k : Int) ∧ ixI b (atI a k) < ixI b (atI a i)
    · rw [if_pos h, if_pos ⟨by omega, decide_eq_true h.2⟩]
    · rw [if_neg h, if_neg (fun e => h ⟨by omega, of_decide_eq_true e.2⟩)]
theorem totT_sm {a b : List Int} (hn : a.Nodup) : ∀ i, i ≤ a.length → totT a b a.length i = sm (fun u => sm (fun v => trn a b u v) a) (a.take i)
  | 0, _ => rfl
  | i + 1, hi => by
    unfold totT
    rw [takeI (by omega), sm_app, totT_sm hn i (by omega), rowT_sm hn (by omega) a.length (Nat.le_refl _), List.take_length]
    rfl
theorem turnN_dN {a b : List Int} (hn : a.Nodup) : turnN a b = dN a b a := by
  unfold turnN dN
  rw [totT_sm hn _ (Nat.le_refl _), List.take_length]
theorem turn_symm {a b : List Int} (hn : a.Nodup) (h : List.Perm a b) : turnN a b = turnN b a := by
  rw [turnN_dN hn, turnN_dN (h.nodup_iff.1 hn), dN_symm]
  exact dN_perm h
theorem turn_tri {a b c : List Int} (hn : a.Nodup) (h : List.Perm a b) : turnN a c ≤ turnN a b + turnN b c := by
  rw [turnN_dN hn, turnN_dN hn, turnN_dN (h.nodup_iff.1 hn), dN_perm (l := b) (q := a) h.symm]
  exact dN_tri fun x hx => h.mem_iff.1 hx
theorem rise_ge {f : Nat → Nat} {n : Nat} (h : ∀ i, i + 1 < n → f i < f (i + 1)) : ∀ i, i < n → i ≤ f i
  | 0, _ => Nat.zero_le _
  | i + 1, hi => by have := rise_ge h i (by omega); have := h i hi; omega
theorem rise_le {f : Nat → Nat} {n : Nat} (h : ∀ i, i + 1 < n → f i < f (i + 1)) (hf : ∀ i, i < n → f i < n) : ∀ d i, i + d + 1 = n → f i ≤ i
  | 0, i, e => by have := hf i (by omega); omega
  | d + 1, i, e => by have := rise_le h hf d (i + 1) (by omega); have := h i (by omega); omega
theorem turn_zero {a b : List Int} (hn : a.Nodup) (h : List.Perm a b) (h0 : turnN a b = 0) : a = b := by
  have hnb := h.nodup_iff.1 hn
  rw [turnN_dN hn] at h0
  have hz : ∀ u ∈ a, ∀ v ∈ a, ¬ (ixI a u < ixI a v ∧ ixI b v < ixI b u) := fun u hu v hv e => by
    have h1 := sm_none (sm_none h0 u hu) v hv
    unfold trn at h1
    rw [if_pos e] at h1; cases h1
  have hlen := h.length_eq
  have hp : ∀ i, i < a.length → ixI b (atI a i) = ((ixI b (atI a i)).toNat : Int) ∧ (ixI b (atI a i)).toNat < a.length ∧ atI b (ixI b (atI a i)).toNat = atI a i := fun i hi => by
    obtain ⟨k, e1, e2, e3⟩ := ixI_pos (h.mem_iff.1 (atI_mem hi))
    rw [e1, Int.toNat_natCast]
    exact ⟨rfl, by omega, e3⟩
  have hr : ∀ i, i + 1 < a.length → (ixI b (atI a i)).toNat < (ixI b (atI a (i + 1))).toNat := fun i hi => by
    have h1 := hz _ (atI_mem (show i < a.length by omega)) _ (atI_mem hi)
    rw [ixI_of hn (show i < a.length by omega), ixI_of hn hi] at h1
    have h2 : ixI b (atI a i) ≠ ixI b (atI a (i + 1)) := fun e => by
      have := ixI_inj (h.mem_iff.1 (atI_mem (show i < a.length by omega))) (h.mem_iff.1 (atI_mem hi)) e
      have := atI_inj hn (by omega) hi this
      omega
    have h3 := (hp i (by omega)).1
    have h4 := (hp (i + 1) hi).1
    omega
  have he : ∀ i, i < a.length → (ixI b (atI a i)).toNat = i := fun i hi => by
    have h1 := rise_ge (f := fun i => (ixI b (atI a i)).toNat) hr i hi
    have h2 := rise_le (f := fun i => (ixI b (atI a i)).toNat) hr (fun i hi => (hp i hi).2.1) (a.length - 1 - i) i (by omega)
    exact Nat.le_antisymm h2 h1
  refine List.ext_getElem hlen fun i h1 h2 => ?_
  have h3 := (hp i h1).2.2
  rw [he i h1] at h3
  have e1 : atI a i = a[i] := by unfold atI; rw [List.getElem?_eq_getElem h1]; rfl
  have e2 : atI b i = b[i] := by unfold atI; rw [List.getElem?_eq_getElem h2]; rfl
  rw [← e1, ← e2, h3]
theorem turn_self {a : List Int} (hn : a.Nodup) : turnN a a = 0 := by
  rw [turnN_dN hn]
  unfold dN
  rw [show (fun u => sm (fun v => trn a a u v) a) = fun _ => 0 from funext fun u => by
    rw [show (fun v => trn a a u v) = fun _ => 0 from funext fun v => if_neg (by omega)]
    exact sm_zero a]
  exact sm_zero a
theorem atI_rev {a : List Int} {k : Nat} (hk : k < a.length) : atI a.reverse (a.length - 1 - k) = atI a k := by
  unfold atI
  rw [List.getElem?_reverse (by omega), show a.length - 1 - (a.length - 1 - k) = k by omega]
theorem ixI_rev {a : List Int} (hn : a.Nodup) {k : Nat} (hk : k < a.length) : ixI a.reverse (atI a k) = ((a.length - 1 - k : Nat) : Int) := by
  rw [← atI_rev hk]
  exact ixI_of ((List.reverse_perm a).nodup_iff.2 hn) (by rw [List.length_reverse]; omega)
theorem rowT_rev {a : List Int} (hn : a.Nodup) {i : Nat} (hi : i < a.length) : ∀ k, k ≤ a.length → rowT a a.reverse i k = k - (i + 1)
  | 0, _ => by unfold rowT; omega
  | k + 1, hk => by
    unfold rowT invB
    rw [rowT_rev hn hi k (by omega), ixI_rev hn hi, ixI_rev hn (show k < a.length by omega)]
    by_cases h : i < k
    · rw [if_pos ⟨h, decide_eq_true (by omega)⟩]; omega
    · rw [if_neg (fun e => h e.1)]; omega
theorem totT_rev {a : List Int} (hn : a.Nodup) : ∀ i, i ≤ a.length → 2 * totT a a.reverse a.length i + i * i + i = 2 * (i * a.length)
  | 0, _ => by simp [totT]
  | i + 1, hi => by
    unfold totT
    rw [rowT_rev hn (by omega) _ (Nat.le_refl _)]
    have ih := totT_rev hn i (by omega)
    rw [Nat.succ_mul (i) a.length, show (i + 1) * (i + 1) = i * i + 2 * i + 1 by rw [Nat.succ_mul, Nat.mul_succ]; omega]
    omega
theorem turn_rev {a : List Int} (hn : a.Nodup) : 2 * turnN a a.reverse + a.length * a.length + a.length = 2 * (a.length * a.length) := totT_rev hn a.length (Nat.le_refl _)
theorem perm_into : ∀ {l m : List Int}, l.Nodup → (∀ x ∈ l, x ∈ m) → m.length ≤ l.length → List.Perm l m
  | [], m, _, _, h => by
    have : m = [] := List.eq_nil_of_length_eq_zero (by simpa using h)
    rw [this]
  | x :: l, m, hn, h, hl => by
    obtain ⟨h1, h2⟩ := List.nodup_cons.1 hn
    have hx := h x List.mem_cons_self
    have hp := List.perm_cons_erase hx
    refine (List.Perm.cons x (perm_into h2 (fun y hy => ?_) ?_)).trans hp.symm
    · have hy2 := hp.mem_iff.1 (h y (List.mem_cons_of_mem _ hy))
      rcases List.mem_cons.1 hy2 with e | e
      · exact absurd (e ▸ hy) h1
      · exact e
    · have := hp.length_eq
      simp only [List.length_cons] at this hl
      omega
theorem startL_at {m k : Nat} (hk : k < m) : atI (startL m) k = (k : Int) := by
  unfold atI startL
  rw [List.getElem?_map, List.getElem?_range hk]; rfl
theorem startL_mem {m : Nat} {x : Int} : x ∈ startL m ↔ ∃ r : Nat, x = (r : Int) ∧ r < m := by
  unfold startL
  rw [List.mem_map]
  exact ⟨fun ⟨r, h1, h2⟩ => ⟨r, h2.symm, List.mem_range.1 h1⟩, fun ⟨r, h1, h2⟩ => ⟨r, List.mem_range.2 h2, h1.symm⟩⟩
theorem startL_nodup : ∀ m, (startL m).Nodup
  | 0 => List.nodup_nil
  | m + 1 => by
    rw [startL_succ, List.nodup_append]
    refine ⟨startL_nodup m, by simp, fun x hx y hy e => ?_⟩
    obtain ⟨r, e1, e2⟩ := startL_mem.1 hx
    rw [List.mem_singleton] at hy
    omega
theorem nodup_take : ∀ {zs : List Int}, (∀ k, k < zs.length → atI zs k ∉ zs.take k) → ∀ k, k ≤ zs.length → (zs.take k).Nodup
  | zs, h, 0, _ => by rw [List.take_zero]; exact List.nodup_nil
  | zs, h, k + 1, hk => by
    rw [takeI (by omega), List.nodup_append]
    refine ⟨nodup_take h k (by omega), by simp, fun x hx y hy e => ?_⟩
    rw [List.mem_singleton] at hy
    exact h k (by omega) (by rw [← hy, ← e]; exact hx)
theorem okO_perm {zs : List Int} {m : Nat} (h : okO zs m = true) : List.Perm zs (startL m) := by
  have hr := okO_rolls h
  unfold okO at h
  rw [Bool.and_eq_true, Bool.and_eq_true] at h
  have h3 := h.2
  unfold allB at h3
  rw [List.all_eq_true] at h3
  have hd : zs.Nodup := by
    have := nodup_take (zs := zs) (fun k hk e => by
      have := of_decide_eq_true (h3 k (List.mem_range.2 hk))
      exact (ixI_mem.1 this) e) zs.length (Nat.le_refl _)
    rwa [List.take_length] at this
  refine perm_into hd (fun x hx => ?_) (by rw [startL_len, hr.1]; exact Nat.le_refl _)
  obtain ⟨k, _, hk, e⟩ := ixI_pos hx
  obtain ⟨r, e2, hr2⟩ := hr.2 k (by omega)
  exact startL_mem.2 ⟨r, by rw [← e, e2], hr2⟩
theorem perm_okO {zs : List Int} {m : Nat} (h : List.Perm zs (startL m)) : okO zs m = true := by
  have hl : zs.length = m := by rw [h.length_eq, startL_len]
  have hn : zs.Nodup := h.nodup_iff.2 (startL_nodup m)
  unfold okO belB
  rw [Bool.and_eq_true, Bool.and_eq_true]
  refine ⟨⟨decide_eq_true hl, ?_⟩, ?_⟩
  · refine (allB_good fun k hk => ?_).symm
    obtain ⟨r, e, hr⟩ := startL_mem.1 (h.mem_iff.1 (atI_mem hk))
    unfold lowB
    rw [e]
    simp
    omega
  · refine (allB_good fun k hk => decide_eq_true (ixI_mem.2 fun e => ?_)).symm
    obtain ⟨j, _, hj, e2⟩ := ixI_pos e
    rw [List.length_take] at hj
    rw [show atI (zs.take k) j = atI zs j from by unfold atI; rw [List.getElem?_take_of_lt (by omega)]] at e2
    have := atI_inj hn (show j < zs.length by omega) hk e2
    omega
theorem pad_perm {zs ys : List Int} (h : List.Perm zs ys) : List.Perm (padO zs) (padO ys) := by
  unfold padO
  rw [h.length_eq]
  exact List.Perm.append_right _ h
theorem startL_pad : ∀ m, m ≤ 6 → padO (startL m) = o6 := by decide
theorem okO_full {zs : List Int} {m : Nat} (h : okO zs m = true) (hm : m ≤ 6) : FullO (padO zs) := by
  have := pad_perm (okO_perm h)
  rwa [startL_pad m hm] at this
end Go.Proofs.Ytcnjkdkkflpgnaa
/- Layer 8: lists of lists that are read, as the frame and as a call gives them. -/
namespace Go.Proofs.Ytcnjkdkkflpgnaa
open Go.RowKit Go.Maps
set_option linter.unusedVariables false

/-- The slice A n of slices reads as these lists. -/
structure Sll (w : World) (A : Option Addr) (n c : Nat) (R : List (List Int)) : Prop where
  len : R.length = n
  big : n ≤ 9223372036854775807
  rows : ∀ k, k < n → ∃ b off, A = some ⟨b, off, none⟩ ∧ b < w.heap.size ∧ ∃ A' n' c', w.cell? ⟨b, off + k, none⟩ = some (.slice A' n' c') ∧ Sl w A' n' c' (ordAt R k)
theorem Sll.below {w w' : World} {A : Option Addr} {n c B : Nat} {R : List (List Int)} (h : Sll w A n c R) (hb : Below B w w') (hB : w.heap.size ≤ B) : Sll w' A n c R :=
  ⟨h.len, h.big, fun k hk => by
    obtain ⟨b, off, e, hlt, A', n', c', hc, hs⟩ := h.rows k hk
    exact ⟨b, off, e, Nat.lt_of_lt_of_le hlt hb.size, A', n', c', (hb.cell (p := ⟨b, off + k, none⟩) (by show b < B; omega)).trans hc, hs.below hb hB⟩⟩
theorem Hst.sll {w : World} {B n : Nat} {v : Value} {rows : List (List Int)} (h : Hst w B v rows) (hn : rows.length = n) (hb : n ≤ 1000000) (hr : ∀ k, k < n → (ordAt rows k).length ≤ 1099511627776) : ∃ A c, v = .slice A n c ∧ Sll w A n c rows := by
  obtain ⟨vs, hov, hvl, hvr⟩ := h
  obtain ⟨A5, c5, rfl⟩ := hov.form
  refine ⟨A5, c5, by rw [hvl, hn], hn, by omega, fun k hk => ?_⟩
  obtain ⟨u, hu, ho⟩ := hvr k (by omega)
  have hx := hov
  rcases hov.2 with ⟨_, h1⟩ | ⟨g5, cap, cur, h1, h2, h3, h4⟩
  · exfalso; omega
  · injection h1 with h1 _ h6
    subst h1 h6
    obtain ⟨A6, c6, e6, hs6⟩ := ho.sl_len rfl (hr k hk)
    refine ⟨g5, 0, rfl, (Array.getElem?_eq_some_iff.1 h3).1, A6, _, c6, ?_, hs6⟩
    have hc := World.ownsRow.cellAt hx k (by omega)
    rw [Nat.zero_add, hc, hu, e6]
section
variable {H : Type} {enc : TypeId × Value → H} {w : World} {base : Nat} {held : Bool}
theorem cellsRowS : Try.prog.cellsOf 22 = 1 := by kernel_rfl
theorem cellsIntS : Try.prog.cellsOf 3 = 1 := by kernel_rfl
set_option maxRecDepth 100000 in
/-- The argument is a list of lists. -/
theorem rows_in {fuel : Nat} {A : Option Addr} {len cap : Nat} {x : DataW H × List MemPlace} (h : DataW.trod enc Try.prog w base (fun _ => true) held fuel 43 [.slice A len cap] = some x) : ∃ R, Sll w A len cap R := by
  rcases Go.Deep.open_int_rows Try.underlying43 Try.underlying22 Try.underlying3 cellsRowS cellsIntS h with ⟨hcs, _⟩ | ⟨a, len', cap', A', L, C, Z, hcs, _, hl, hm, _, hx⟩
  · injection hcs with hcs
    injection hcs with e1 e2 e3
    subst e1; subst e2; subst e3
    exact ⟨[], rfl, by omega, fun k hk => absurd hk (Nat.not_lt_zero _)⟩
  · injection hcs with hcs
    injection hcs with e1 e2 e3
    subst e1; subst e2; subst e3
    refine ⟨(List.range len).map fun r => (Z r).take (L r), by simp, by unfold maxLen at hm; omega, fun k hk => ?_⟩
    obtain ⟨hc, h1, h2, h3, h4, h5, h6⟩ := hx k (by omega)
    have hsp : a.spot = none := by simpa [Addr.add] using World.cell?_spot (hx 0 (by omega)).1
    obtain ⟨b, off, spot⟩ := a
    subst hsp
    rw [Go.WideShapes.add_plain] at hc
    have hat : ordAt ((List.range len).map fun r => (Z r).take (L r)) k = (Z k).take (L k) := by unfold ordAt; rw [List.getElem?_map, List.getElem?_range hk]; rfl
    rw [hat]
    refine ⟨b, off, rfl, lt_of_cell hc, A' k, L k, C k, hc, Sl.of_row ?_⟩
    cases hA : A' k with
    | none =>
      have := h5 hA
      exact .inl ⟨rfl, by omega, by omega, List.eq_nil_of_length_eq_zero (by omega)⟩
    | some a' => exact .inr ⟨a', rfl, h1, h2, h3, fun i hi => (h6 a' hA).2 i (by omega), h4⟩
end
end Go.Proofs.Ytcnjkdkkflpgnaa
