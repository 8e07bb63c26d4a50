import Derived.Test.YthlccidbphkfaaaT19
import Derived.Test.YthlccidbphkfaaaT12
import Derived.Test.YthlccidbphkfaaaT07
import Derived.Test.YthlccidbphkfaaaT08
/- Layer 3, plain mathematics: the longest common subsequence. -/
namespace Go.Proofs.Ythlccidbphkfaaa
open Go.RowKit
set_option linter.unusedVariables false

/-- The place behind the next letter, if there is one. -/
def nx (w : List Int) (i c : Nat) : Option Nat := if nextF w i (97 + (c : Int)) < 0 then none else some (nextF w i (97 + (c : Int))).toNat
theorem nx_none {w : List Int} {i c : Nat} (h : nx w i c = none) : nextF w i (97 + (c : Int)) = -1 := by
  unfold nx at h
  split at h
  · rcases nextF_rng w i (97 + (c : Int)) with h1 | h1 <;> omega
  · cases h
theorem nx_some {w : List Int} {i c k : Nat} (h : nx w i c = some k) : nextF w i (97 + (c : Int)) = (k : Int) ∧ i < k ∧ k ≤ w.length := by
  unfold nx at h
  split at h
  · cases h
  · injection h with h
    rcases nextF_rng w i (97 + (c : Int)) with h1 | h1 <;> omega
theorem nx_of {w : List Int} {i c k : Nat} (h : nextF w i (97 + (c : Int)) = (k : Int)) : nx w i c = some k := by
  unfold nx
  rw [h, if_neg (by omega)]; rfl
theorem nx_of_none {w : List Int} {i c : Nat} (h : nextF w i (97 + (c : Int)) < 0) : nx w i c = none := if_pos h
def valM (f : Nat → Nat) : Nat → Nat
  | 0 => 0
  | m + 1 => max (valM f m) (f m)
theorem valM_ge {f : Nat → Nat} : ∀ (m : Nat) {c : Nat}, c < m → f c ≤ valM f m
  | m + 1, c, h => by
    rw [valM]
    by_cases e : c = m
    · subst e; omega
    · have := valM_ge (f := f) m (c := c) (by omega); omega
theorem valM_at {f : Nat → Nat} : ∀ (m : Nat), 0 < valM f m → ∃ c, c < m ∧ f c = valM f m
  | m + 1, h => by
    rw [valM] at h ⊢
    by_cases e : valM f m ≤ f m
    · exact ⟨m, by omega, by omega⟩
    · obtain ⟨c, h1, h2⟩ := valM_at (f := f) m (by omega)
      exact ⟨c, by omega, by omega⟩
theorem valM_congr {f g : Nat → Nat} : ∀ (m : Nat), (∀ c, c < m → f c = g c) → valM f m = valM g m
  | 0, _ => rfl
  | m + 1, h => by rw [valM, valM, valM_congr m (fun c hc => h c (by omega)), h m (by omega)]
def both (u w : List Int) (i j c : Nat) : Option (Nat × Nat) := match nx u i c, nx w j c with
  | some x, some y => some (x, y)
  | _, _ => none
theorem both_some {u w : List Int} {i j c x y : Nat} (h : both u w i j c = some (x, y)) : nx u i c = some x ∧ nx w j c = some y := by
  unfold both at h
  split at h
  · rename_i h1 h2
    injection h with h; injection h with e1 e2
    subst e1; subst e2
    exact ⟨h1, h2⟩
  · cases h
theorem both_of {u w : List Int} {i j c x y : Nat} (h1 : nx u i c = some x) (h2 : nx w j c = some y) : both u w i j c = some (x, y) := by
  unfold both; rw [h1, h2]
theorem both_swap (u w : List Int) (i j c : Nat) : both w u j i c = (both u w i j c).map fun p => (p.2, p.1) := by
  unfold both
  cases nx u i c <;> cases nx w j c <;> rfl
def lcsT (u w : List Int) : Nat → Nat → Nat → Nat
  | 0, _, _ => 0
  | t + 1, i, j => valM (fun c => match both u w i j c with | some p => 1 + lcsT u w t p.1 p.2 | none => 0) 4
def lcs (u w : List Int) (i j : Nat) : Nat := lcsT u w (u.length + 1 - i) i j
theorem lcsT_same (u w : List Int) (t : Nat) : ∀ (s i j : Nat), i ≤ u.length → u.length + 1 ≤ t + i → u.length + 1 ≤ s + i → lcsT u w t i j = lcsT u w s i j := by
  induction t with
  | zero => intro s i j h1 h2; omega
  | succ t ih =>
    intro s i j h1 h2 h3
    obtain ⟨s, rfl⟩ : ∃ s', s = s' + 1 := ⟨s - 1, by omega⟩
    rw [lcsT, lcsT]
    refine valM_congr 4 fun c hc => ?_
    cases hb : both u w i j c with
    | none => rfl
    | some p =>
      obtain ⟨h4, h5⟩ := both_some hb
      have := nx_some h4
      show 1 + lcsT u w t p.1 p.2 = 1 + lcsT u w s p.1 p.2
      rw [ih s p.1 p.2 (by omega) (by omega) (by omega)]
def valL (u w : List Int) (i j c : Nat) : Nat := match both u w i j c with | some p => 1 + lcs u w p.1 p.2 | none => 0
theorem lcs_eq (u w : List Int) (i j : Nat) (hi : i ≤ u.length) : lcs u w i j = valM (valL u w i j) 4 := by
  unfold lcs
  rw [show u.length + 1 - i = (u.length - i) + 1 from by omega, lcsT]
  refine valM_congr 4 fun c hc => ?_
  unfold valL
  cases hb : both u w i j c with
  | none => rfl
  | some p =>
    obtain ⟨h4, h5⟩ := both_some hb
    have := nx_some h4
    show 1 + lcsT u w (u.length - i) p.1 p.2 = 1 + lcs u w p.1 p.2
    unfold lcs
    rw [lcsT_same u w (u.length - i) (u.length + 1 - p.1) p.1 p.2 (by omega) (by omega) (by omega)]
/-- No common subsequence is longer. -/
theorem lcs_ge {u w : List Int} : ∀ (x : List Int) (i j : Nat), i ≤ u.length → j ≤ w.length → isW 4 x → x.Sublist (u.drop i) → x.Sublist (w.drop j) → x.length ≤ lcs u w i j := by
  intro x
  induction x with
  | nil => intro i j _ _ _ _ _; exact Nat.zero_le _
  | cons a y ih =>
    intro i j hi hj hx h1 h2
    have ha := hx a (by simp)
    obtain ⟨c, hc⟩ : ∃ c : Nat, a = 97 + (c : Int) := ⟨(a - 97).toNat, by omega⟩
    subst hc
    obtain ⟨K1, k1, k2, k3⟩ := (cons_sub hi _ _).1 h1
    obtain ⟨K2, l1, l2, l3⟩ := (cons_sub hj _ _).1 h2
    have hb := both_of (nx_of k1) (nx_of l1)
    have hv : valL u w i j c = 1 + lcs u w K1 K2 := by unfold valL; rw [hb]
    have hm := valM_ge (f := valL u w i j) 4 (c := c) (by omega)
    have hr := ih K1 K2 k2 l2 (fun b hb => hx b (List.mem_cons_of_mem _ hb)) k3 l3
    rw [lcs_eq u w i j hi]
    rw [hv] at hm
    rw [List.length_cons]
    omega
/-- The first one of the longest common subsequences, from two places on. -/
inductive IsG (u w : List Int) : Nat → Nat → List Int → Prop
  | nil {i j : Nat} : lcs u w i j = 0 → IsG u w i j []
  | cons {i j c x y : Nat} {z : List Int} : c < 4 → both u w i j c = some (x, y) → lcs u w i j = 1 + lcs u w x y → (∀ d, d < c → valL u w i j d ≠ lcs u w i j) → IsG u w x y z → IsG u w i j ((97 + (c : Int)) :: z)
theorem valL_both {u w : List Int} {i j c x y : Nat} (h : both u w i j c = some (x, y)) : valL u w i j c = 1 + lcs u w x y := by unfold valL; rw [h]
theorem IsG.uniq {u w : List Int} {i j : Nat} {a b : List Int} (h : IsG u w i j a) : IsG u w i j b → a = b := by
  induction h generalizing b with
  | nil h0 =>
    intro k
    cases k with
    | nil => rfl
    | cons _ _ h1 _ _ => omega
  | cons hc hb he hf hz ih =>
    rename_i i j c x y z
    intro k
    cases k with
    | nil h0 => omega
    | cons hc' hb' he' hf' hz' =>
      rename_i c' x' y' z'
      have e1 := valL_both hb
      have e2 := valL_both hb'
      have hcc : c = c' := by
        rcases Nat.lt_trichotomy c c' with h | h | h
        · exact absurd (e1.trans he.symm) (hf' c h)
        · exact h
        · exact absurd (e2.trans he'.symm) (hf c' h)
      subst hcc
      rw [hb] at hb'
      injection hb' with hb'
      injection hb' with e3 e4
      subst e3; subst e4
      rw [ih hz']
theorem IsG.length {u w : List Int} {i j : Nat} {a : List Int} (h : IsG u w i j a) : a.length = lcs u w i j := by
  induction h with
  | nil h0 => exact h0.symm
  | cons hc hb he hf hz ih => rw [List.length_cons, ih, he]; omega
theorem IsG.word {u w : List Int} {i j : Nat} {a : List Int} (h : IsG u w i j a) : isW 4 a := by
  induction h with
  | nil _ => intro b hb; cases hb
  | cons hc hb he hf hz ih =>
    intro b hb
    rcases List.mem_cons.1 hb with rfl | hb
    · omega
    · exact ih b hb
theorem IsG.sub {u w : List Int} {i j : Nat} {a : List Int} (h : IsG u w i j a) : i ≤ u.length → j ≤ w.length → a.Sublist (u.drop i) ∧ a.Sublist (w.drop j) := by
  induction h with
  | nil _ => intro _ _; exact ⟨List.nil_sublist _, List.nil_sublist _⟩
  | cons hc hb he hf hz ih =>
    intro hi hj
    obtain ⟨h1, h2⟩ := both_some hb
    have n1 := nx_some h1
    have n2 := nx_some h2
    obtain ⟨s1, s2⟩ := ih n1.2.2 n2.2.2
    exact ⟨(cons_sub hi _ _).2 ⟨_, n1.1, n1.2.2, s1⟩, (cons_sub hj _ _).2 ⟨_, n2.1, n2.2.2, s2⟩⟩
/-- There is one. -/
theorem IsG.exists (u w : List Int) : ∀ (t i j : Nat), i ≤ u.length → u.length + 1 ≤ t + i → ∃ a, IsG u w i j a := by
  intro t
  induction t with
  | zero => intro i j h1 h2; omega
  | succ t ih =>
    intro i j h1 h2
    by_cases h0 : lcs u w i j = 0
    · exact ⟨[], .nil h0⟩
    · have he := lcs_eq u w i j h1
      have hex : ∃ c, c < 4 ∧ valL u w i j c = lcs u w i j := by
        obtain ⟨c, c1, c2⟩ := valM_at (f := valL u w i j) 4 (by omega)
        exact ⟨c, c1, by omega⟩
      have least : ∀ n c, c < n → c < 4 → valL u w i j c = lcs u w i j → ∃ d, d < 4 ∧ valL u w i j d = lcs u w i j ∧ ∀ e, e < d → valL u w i j e ≠ lcs u w i j := by
        intro n
        induction n with
        | zero => intro c hc; omega
        | succ n ihn =>
          intro c hcn hc hv
          by_cases hl : ∃ e, e < c ∧ valL u w i j e = lcs u w i j
          · obtain ⟨e, h5, h6⟩ := hl
            exact ihn e (by omega) (by omega) h6
          · exact ⟨c, hc, hv, fun e h5 h6 => hl ⟨e, h5, h6⟩⟩
      obtain ⟨c, hc, hv⟩ := hex
      obtain ⟨d, d1, d2, d3⟩ := least 4 c hc hc hv
      cases hb : both u w i j d with
      | none => unfold valL at d2; rw [hb] at d2; exact absurd d2.symm h0
      | some p =>
        obtain ⟨x, y⟩ := p
        have n1 := nx_some (both_some hb).1
        obtain ⟨z, hz⟩ := ih x y n1.2.2 (by omega)
        exact ⟨_, .cons d1 hb (by rw [← d2, valL_both hb]) d3 hz⟩
theorem lcs_le {u w : List Int} {n i j : Nat} (hi : i ≤ u.length) (hj : j ≤ w.length) (h : ∀ x, isW 4 x → x.Sublist (u.drop i) → x.Sublist (w.drop j) → x.length ≤ n) : lcs u w i j ≤ n := by
  obtain ⟨a, ha⟩ := IsG.exists u w (u.length + 1) i j hi (by omega)
  rw [← ha.length]
  exact h a ha.word (ha.sub hi hj).1 (ha.sub hi hj).2
theorem lcs_symm {u w : List Int} {i j : Nat} (hi : i ≤ u.length) (hj : j ≤ w.length) : lcs u w i j = lcs w u j i :=
  Nat.le_antisymm (lcs_le hi hj fun x hx h1 h2 => lcs_ge x j i hj hi hx h2 h1) (lcs_le hj hi fun x hx h1 h2 => lcs_ge x i j hi hj hx h2 h1)
theorem valL_symm {u w : List Int} {i j c : Nat} (hi : i ≤ u.length) (hj : j ≤ w.length) : valL w u j i c = valL u w i j c := by
  unfold valL
  rw [both_swap]
  cases hb : both u w i j c with
  | none => rfl
  | some p =>
    obtain ⟨x, y⟩ := p
    have n1 := nx_some (both_some hb).1
    have n2 := nx_some (both_some hb).2
    show 1 + lcs w u y x = 1 + lcs u w x y
    rw [lcs_symm n2.2.2 n1.2.2]
theorem IsG.symm {u w : List Int} {i j : Nat} {a : List Int} (h : IsG u w i j a) : i ≤ u.length → j ≤ w.length → IsG w u j i a := by
  induction h with
  | nil h0 => intro hi hj; exact .nil (by rw [lcs_symm hj hi]; exact h0)
  | cons hc hb he hf hz ih =>
    intro hi hj
    have n1 := nx_some (both_some hb).1
    have n2 := nx_some (both_some hb).2
    refine .cons hc (by rw [both_swap, hb]; rfl) (by rw [lcs_symm hj hi, lcs_symm n2.2.2 n1.2.2]; exact he) (fun d hd => ?_) (ih n1.2.2 n2.2.2)
    rw [valL_symm hi hj, lcs_symm hj hi]
    exact hf d hd
/-- A word with itself. -/
theorem lcs_self {u : List Int} (hu : isW 4 u) {i : Nat} (hi : i ≤ u.length) : lcs u u i i = u.length - i := by
  refine Nat.le_antisymm (lcs_le hi hi fun x _ h1 _ => ?_) ?_
  · have := h1.length_le
    rwa [List.length_drop] at this
  · have := lcs_ge (u.drop i) i i hi hi (fun b hb => hu b (List.mem_of_mem_drop hb)) (List.Sublist.refl _) (List.Sublist.refl _)
    rwa [List.length_drop] at this
theorem IsG.self {u : List Int} (hu : isW 4 u) {a : List Int} (h : IsG u u 0 0 a) : a = u := by
  have h1 := h.length
  rw [lcs_self hu (Nat.zero_le _), Nat.sub_zero] at h1
  have h2 := (h.sub (Nat.zero_le _) (Nat.zero_le _)).1
  rw [List.drop_zero] at h2
  exact h2.eq_of_length h1
/-- The table's recursion. -/
theorem lcs_table {u w : List Int} {i k : Nat} (hu : isW 4 u) (hi : i < u.length) (hk : k < w.length) :
    lcs u w i k = max (max (lcs u w i (k + 1)) (lcs u w (i + 1) k)) (if u[i]?.getD 0 = w[k]?.getD 0 then 1 + lcs u w (i + 1) (k + 1) else 0) := by
  have hdu : u.drop i = u[i]?.getD 0 :: u.drop (i + 1) := by rw [List.drop_eq_getElem_cons hi, List.getElem?_eq_getElem hi]; rfl
  have hdw : w.drop k = w[k]?.getD 0 :: w.drop (k + 1) := by rw [List.drop_eq_getElem_cons hk, List.getElem?_eq_getElem hk]; rfl
  have hua : 97 ≤ u[i]?.getD 0 ∧ u[i]?.getD 0 < 97 + ((4 : Nat) : Int) := by
    rw [List.getElem?_eq_getElem hi, Option.getD_some]
    exact hu _ (List.getElem_mem hi)
  generalize u[i]?.getD 0 = a at *
  generalize w[k]?.getD 0 = b at *
  have i0 : i ≤ u.length := by omega
  have i1 : i + 1 ≤ u.length := by omega
  have k0 : k ≤ w.length := by omega
  have k1 : k + 1 ≤ w.length := by omega
  refine Nat.le_antisymm (lcs_le i0 k0 fun x hx h1 h2 => ?_) (Nat.max_le.2 ⟨Nat.max_le.2 ⟨?_, ?_⟩, ?_⟩)
  · rw [hdu] at h1
    rw [hdw] at h2
    by_cases h3 : x.Sublist (u.drop (i + 1))
    · have := lcs_ge x (i + 1) k i1 k0 hx h3 (by rw [hdw]; exact h2)
      omega
    · by_cases h4 : x.Sublist (w.drop (k + 1))
      · have := lcs_ge x i (k + 1) i0 k1 hx (by rw [hdu]; exact h1) h4
        omega
      · cases h1 with
        | cons _ h1 => exact absurd h1 h3
        | cons_cons _ h1 =>
          cases h2 with
          | cons _ h2 => exact absurd h2 h4
          | cons_cons _ h2 =>
            rename_i z
            have := lcs_ge z (i + 1) (k + 1) i1 k1 (fun c hc => hx c (List.mem_cons_of_mem _ hc)) h1 h2
            rw [if_pos rfl, List.length_cons]
            omega
  · exact lcs_le i0 k1 fun x hx h1 h2 => lcs_ge x i k i0 k0 hx h1 (h2.trans (by rw [hdw]; exact List.sublist_cons_self _ _))
  · exact lcs_le i1 k0 fun x hx h1 h2 => lcs_ge x i k i0 k0 hx (h1.trans (by rw [hdu]; exact List.sublist_cons_self _ _)) h2
  · split
    · rename_i e
      have key : lcs u w (i + 1) (k + 1) ≤ lcs u w i k - 1 := by
        refine lcs_le i1 k1 fun x hx h1 h2 => ?_
        have := lcs_ge (a :: x) i k i0 k0 (fun c hc => by
          rcases List.mem_cons.1 hc with rfl | hc
          · exact hua
          · exact hx c hc) (by rw [hdu]; exact h1.cons_cons a) (by rw [hdw, ← e]; exact h2.cons_cons a)
        rw [List.length_cons] at this
        omega
      have := lcs_ge [a] i k i0 k0 (fun c hc => by rw [List.mem_singleton.1 hc]; exact hua) (by rw [hdu]; simp) (by rw [hdw, ← e]; simp)
      rw [List.length_singleton] at this
      omega
    · exact Nat.zero_le _
theorem lcs_end {u w : List Int} {i k : Nat} (hi : i ≤ u.length) (hk : k ≤ w.length) (h : i = u.length ∨ k = w.length) : lcs u w i k = 0 := by
  refine Nat.le_zero.1 (lcs_le hi hk fun x _ h1 h2 => ?_)
  rcases h with rfl | rfl
  · rw [List.drop_length] at h1; rw [List.sublist_nil.1 h1]; exact Nat.le_refl _
  · rw [List.drop_length] at h2; rw [List.sublist_nil.1 h2]; exact Nat.le_refl _
theorem lcs_bound {u w : List Int} {i k : Nat} (hi : i ≤ u.length) (hk : k ≤ w.length) : lcs u w i k ≤ u.length - i := lcs_le hi hk fun x _ h1 _ => by
  have := h1.length_le
  rwa [List.length_drop] at this
end Go.Proofs.Ythlccidbphkfaaa
/- Layer 3: the program's lengths. -/
namespace Go.Proofs.Ythlccidbphkfaaa
open Go.RowKit
set_option linter.unusedVariables false

/-- What the map holds when the rows from a on are done, and of the row before it the places from b on. -/
def tab (us ws : List Int) (a b : Nat) : Nat × Nat → Option Lit := fun p => if p.1 ≤ us.length ∧ p.2 ≤ ws.length ∧ (a ≤ p.1 ∨ (p.1 + 1 = a ∧ b ≤ p.2)) then some (.int .i64 ((lcs us ws p.1 p.2 : Nat) + 1 : Int)) else none
theorem tab_start (us ws : List Int) : tab us ws (us.length + 1) (ws.length + 1) = fun _ => none := by
  funext p
  unfold tab
  rw [if_neg (by omega)]
theorem tab_row (us ws : List Int) (a : Nat) : tab us ws (a + 1) 0 = tab us ws a (ws.length + 1) := by
  funext p
  unfold tab
  by_cases h : p.1 ≤ us.length ∧ p.2 ≤ ws.length ∧ (a + 1 ≤ p.1 ∨ (p.1 + 1 = a + 1 ∧ 0 ≤ p.2))
  · rw [if_pos h, if_pos (by omega)]
  · rw [if_neg h, if_neg (by omega)]
theorem tab_put {us ws : List Int} {i j : Nat} (hi : i ≤ us.length) (hj : j ≤ ws.length) : putK (tab us ws (i + 1) (j + 1)) (i, j) (.int .i64 ((lcs us ws i j : Nat) + 1 : Int)) = tab us ws (i + 1) j := by
  funext p
  unfold putK
  by_cases e : p = (i, j)
  · subst e
    rw [if_pos rfl]
    unfold tab
    rw [if_pos ⟨hi, hj, .inr ⟨rfl, Nat.le_refl _⟩⟩]
  · rw [if_neg e]
    have hne : p.1 = i → p.2 ≠ j := fun h1 h2 => e (Prod.ext h1 h2)
    unfold tab
    by_cases h : p.1 ≤ us.length ∧ p.2 ≤ ws.length ∧ (i + 1 ≤ p.1 ∨ (p.1 + 1 = i + 1 ∧ j + 1 ≤ p.2))
    · rw [if_pos h, if_pos (by omega)]
    · have h' : ¬ (p.1 ≤ us.length ∧ p.2 ≤ ws.length ∧ (i + 1 ≤ p.1 ∨ (p.1 + 1 = i + 1 ∧ j ≤ p.2))) := by
        rintro ⟨g1, g2, g3⟩
        apply h
        refine ⟨g1, g2, ?_⟩
        rcases g3 with h3 | h3
        · exact .inl h3
        · have := hne (by omega)
          exact .inr ⟨h3.1, by omega⟩
      rw [if_neg h, if_neg h']
/-- A step of the program and the next place. -/
theorem stepF_nx {w : List Int} (hw : w.length ≤ 60) (i c : Nat) : (nx w i c = none ∧ stepF w i c = 61) ∨ ∃ k : Nat, nx w i c = some k ∧ stepF w i c = (k : Int) ∧ i < k ∧ k ≤ w.length := by
  rcases stepF_next (w := w) (p := i) (c := c) with ⟨h1, h2⟩ | ⟨k, h1, h2, h3, h4⟩
  · exact .inl ⟨nx_of_none h1, h2⟩
  · exact .inr ⟨k, nx_of h1, h2, h3, h4⟩
theorem tab_look {us ws : List Int} (hu : us.length ≤ 60) (hw : ws.length ≤ 60) (i j c a b : Nat) (ha : a ≤ i + 1) : ∃ x y : Nat, stepF us i c = (x : Int) ∧ stepF ws j c = (y : Int) ∧ x < 62 ∧ y < 62 ∧ (tab us ws a b (x, y)).getD (.int .i64 0) = .int .i64 ((valL us ws i j c : Nat) : Int) := by
  unfold valL both
  rcases stepF_nx hu i c with ⟨h1, h2⟩ | ⟨x, h1, h2, h3, h4⟩
  · rcases stepF_nx hw j c with ⟨g1, g2⟩ | ⟨y, g1, g2, g3, g4⟩
    · refine ⟨61, 61, h2, g2, by omega, by omega, ?_⟩
      rw [h1, g1]; unfold tab; rw [if_neg (by show ¬ (61 ≤ us.length ∧ _); omega)]; rfl
    · refine ⟨61, y, h2, g2, by omega, by omega, ?_⟩
      rw [h1, g1]; unfold tab; rw [if_neg (by show ¬ (61 ≤ us.length ∧ _); omega)]; rfl
  · rcases stepF_nx hw j c with ⟨g1, g2⟩ | ⟨y, g1, g2, g3, g4⟩
    · refine ⟨x, 61, h2, g2, by omega, by omega, ?_⟩
      rw [h1, g1]; unfold tab; rw [if_neg (by show ¬ (_ ∧ 61 ≤ ws.length ∧ _); omega)]; rfl
    · refine ⟨x, y, h2, g2, by omega, by omega, ?_⟩
      rw [h1, g1]
      unfold tab
      rw [if_pos ⟨h4, g4, .inl (by omega)⟩]
      show Lit.int .i64 ((lcs us ws x y : Nat) + 1 : Int) = .int .i64 ((1 + lcs us ws x y : Nat) : Int)
      congr 1
      omega
theorem valM_next (f : Nat → Nat) (m : Nat) : valM f (m + 1) = max (valM f m) (f m) := rfl
theorem valM_le {us ws : List Int} {i j : Nat} (hi : i ≤ us.length) (hj : j ≤ ws.length) (hu : us.length ≤ 60) (m : Nat) (hm : m ≤ 4) : valM (valL us ws i j) m ≤ 60 := by
  have h1 : valM (valL us ws i j) m ≤ valM (valL us ws i j) 4 := by
    rcases (by omega : m = 0 ∨ m = 1 ∨ m = 2 ∨ m = 3 ∨ m = 4) with rfl | rfl | rfl | rfl | rfl <;> simp only [valM] <;> omega
  rw [← lcs_eq us ws i j hi] at h1
  have := lcs_bound hi hj (u := us) (w := ws)
  omega
theorem valL_le {us ws : List Int} {i j : Nat} (hi : i ≤ us.length) (hj : j ≤ ws.length) (hu : us.length ≤ 60) (m : Nat) (hm : m < 4) : valL us ws i j m ≤ 60 := by
  have := valM_le hi hj hu (m + 1) (by omega)
  rw [valM_next] at this
  omega
/-- What lengths keeps. -/
structure LnI (us ws : List Int) (bT t : Nat) (w : World) (a b q : Nat) (wr : World) : Prop where
  m : KM encPair wr 3 w.heap.size q (tab us ws a b)
  row : Rw wr bT t 496 (join2 (stepG us) (stepG ws))
  bl : Below w.heap.size w wr
theorem LnI.below {us ws : List Int} {bT t : Nat} {w : World} {a b q : Nat} {wr w' : World} (h : LnI us ws bT t w a b q wr) (hb : Below wr.heap.size wr w') : LnI us ws bT t w a b q w' :=
  ⟨h.m.below hb h.m.lt, h.row.below hb h.row.lt, h.bl.trans (hb.mono h.bl.size)⟩
theorem LnI.store {us ws : List Int} {bT t : Nat} {w : World} {i j q : Nat} {wr w' : World} (h : LnI us ws bT t w (i + 1) (j + 1) q wr) (hi : i ≤ us.length) (hj : j ≤ ws.length) (hT : bT < w.heap.size) (hk : KM encPair w' 3 w.heap.size (q + 1) (putK (tab us ws (i + 1) (j + 1)) (i, j) (.int .i64 ((lcs us ws i j : Nat) + 1 : Int)))) (hg : World.grownBy wr w' (some w.heap.size)) :
    LnI us ws bT t w (i + 1) j (q + 1) w' := by
  rw [tab_put hi hj] at hk
  refine ⟨hk, h.row.of_block (hg.block bT h.row.lt (fun e => by injection e with e; omega)), ?_⟩
  exact ⟨hg.os.trans h.bl.os, hg.tape.trans h.bl.tape, hg.output.trans h.bl.output, Nat.le_trans h.bl.size hg.size, fun k hk => (hg.block k (Nat.lt_of_lt_of_le hk h.bl.size) (fun e => by injection e with e; omega)).trans (h.bl.block k hk)⟩
set_option maxRecDepth 100000 in
set_option maxHeartbeats 1600000 in
theorem lengths_any (bT t m n : Nat) (us ws : List Int) (w : World) (hum : us.length = m) (hwn : ws.length = n) (hm : m ≤ 60) (hn : n ≤ 60) (hr : Rw w bT t 496 (join2 (stepG us) (stepG ws))) :
    Calls Try.prog 51 #[.pointer (some ⟨bT, 0, none⟩), .int .i64 (m : Int), .int .i64 (n : Int)] w fun e w' => ∃ b q, e = .returned (.map (some b)) ∧ KM encPair w' 3 b q (tab us ws 0 (n + 1)) ∧ Below w.heap.size w w' := by
  have hT := hr.lt
  have HUM := Lib.hid hum
  have HWN := Lib.hid hwn
  have HR := Lib.hid hr
  clear hum hwn hr
  have hmm := @run_makeMap Try.prog
  go_enter Try.func51, Try.ntmps51
  go_wp2
  clear hmm
  have H0 : Hid (LnI us ws bT t w (m + 1) (n + 1) 0 (w.alloc (.map #[] 0))) := by
    refine ⟨?_, HR.out.alloc _, (Below.refl _ w).alloc (Nat.le_refl _) _⟩
    have := KM.made encPair w 3
    rw [← HUM.out, ← HWN.out, tab_start]
    exact this
  generalize w.alloc (.map #[] 0) = w0 at H0 ⊢
  go_loopw [8] (fun i w' => ∃ a : Nat, a ≤ m + 1 ∧ i = .int .i64 ((a : Int) - 1) ∧ Hid (LnI us ws bT t w a (n + 1) ((m + 1 - a) * (n + 1)) w')) (fun i _ => (intOf i + 1).toNat)
  case atStart => exact ⟨m + 1, by omega, by go_num, by rw [Hid, Nat.sub_self, Nat.zero_mul]; exact H0⟩
  case round =>
    obtain ⟨a, ha, rfl, HI⟩ := hrel
    obtain ⟨wo, rfl⟩ : ∃ wo : World, wo = wr := ⟨_, rfl⟩
    clear H0
    cases a with
    | zero =>
      go_wp2
      go_ret
      exact ⟨_, _, rfl, HI.out.m, HI.out.bl⟩
    | succ i =>
      rw [show (((i + 1 : Nat) : Int) - 1) = (i : Int) from by omega]
      have HI0 : Hid (LnI us ws bT t w (i + 1) (n + 1) ((m - i) * (n + 1)) wo) := by have := HI.out; rwa [show m + 1 - (i + 1) = m - i from by omega] at this
      clear HI
      go_wp2
      go_loopw [9] (fun j w' => ∃ b : Nat, b ≤ n + 1 ∧ j = .int .i64 ((b : Int) - 1) ∧ Hid (LnI us ws bT t w (i + 1) b ((m - i) * (n + 1) + (n + 1 - b)) w')) (fun j _ => (intOf j + 1).toNat)
      case atStart => exact ⟨n + 1, by omega, by go_num, by rw [Hid, Nat.sub_self, Nat.add_zero]; exact HI0.out⟩
      case round =>
        obtain ⟨b, hb, rfl, HI⟩ := hrel
        obtain ⟨wi, rfl⟩ : ∃ wi : World, wi = wr := ⟨_, rfl⟩
        clear HI0
        cases b with
        | zero =>
          have HE : Hid (LnI us ws bT t w i (n + 1) ((m + 1 - i) * (n + 1)) wi) := by
            have h1 := HI.out
            rw [show (m - i) * (n + 1) + (n + 1 - 0) = (m + 1 - i) * (n + 1) from by rw [show m + 1 - i = (m - i) + 1 from by omega, Nat.succ_mul]; rfl] at h1
            have e : tab us ws (i + 1) 0 = tab us ws i (n + 1) := by rw [tab_row, HWN.out]
            exact ⟨by rw [← e]; exact h1.m, h1.row, h1.bl⟩
          clear HI
          go_wp2
          exact ⟨⟨i, by omega, by go_num, HE⟩, by simp [intOf] <;> omega⟩
        | succ j =>
          rw [show (((j + 1 : Nat) : Int) - 1) = (j : Int) from by omega]
          go_wp2
          have hb1 : Below wi.heap.size wi (wi.alloc (.cells #[.int .i64 (i : Int), .int .i64 (j : Int)] 80)) := (Below.refl _ wi).alloc (Nat.le_refl _) _
          have hn1 : (wi.alloc (.cells #[.int .i64 (i : Int), .int .i64 (j : Int)] 80)).heap[wi.heap.size]? = some (.cells #[.int .i64 (i : Int), .int .i64 (j : Int)] 80 (0, 0)) := heap_alloc_last _ _
          generalize wi.alloc (.cells #[.int .i64 (i : Int), .int .i64 (j : Int)] 80) = w1 at hb1 hn1 ⊢
          have HI1 := Lib.hid (HI.out.below hb1)
          have HN1 := Lib.hid hn1
          have hlt1 : wi.heap.size < w1.heap.size := (Array.getElem?_eq_some_iff.1 hn1).1
          clear hn1 hb1 HI
          generalize wi.heap.size = bn at *
          have hil : i ≤ us.length := by rw [HUM.out]; omega
          have hjl : j ≤ ws.length := by rw [HWN.out]; omega
          have HV := Lib.hid (fun d hd => valM_le hil hjl (by rw [HUM.out]; exact hm) d hd)
          have HV2 := Lib.hid (fun d hd => valL_le hil hjl (by rw [HUM.out]; exact hm) d hd)
          have HLO := Lib.hid (fun d => tab_look (by rw [HUM.out]; exact hm) (by rw [HWN.out]; exact hn) i j d (i + 1) (j + 1) (Nat.le_refl _) (us := us) (ws := ws))
          have HIL := Lib.hid hil
          have HJL := Lib.hid hjl
          clear hil hjl
          go_loopw [11, 27] (fun mo c w' => ∃ d : Nat, d ≤ 4 ∧ mo = .int .i64 ((valM (valL us ws i j) d : Nat) : Int) ∧ c = .int .i64 (d : Int) ∧ Below w1.heap.size w1 w') (fun _ c _ => 4 - (intOf c).toNat)
          case atStart => exact ⟨0, by omega, by go_num, by go_num, Below.refl _ _⟩
          case round =>
            obtain ⟨d, hd, rfl, rfl, hW⟩ := hrel
            obtain ⟨wd, rfl⟩ : ∃ wd : World, wd = wr := ⟨_, rfl⟩
            have hmo := HV.out d hd
            have hcell := (hW.block bn hlt1).trans HN1.out
            have c0 : wd.cell? ⟨bn, 0, none⟩ = some (.int .i64 (i : Int)) := by rw [cell_of_row _ _ _ _ _ _ hcell]; rfl
            have c1 : wd.cell? ⟨bn, 1, none⟩ = some (.int .i64 (j : Int)) := by rw [cell_of_row _ _ _ _ _ _ hcell]; rfl
            clear hcell
            have HId := Lib.hid (HI1.out.below hW)
            by_cases hd4 : d < 4
            · obtain ⟨x, y, hx1, hy1, hx2, hy2, hlk⟩ := HLO.out d
              have HAF : Hid (∀ V, Rw V bT t 496 (join2 (stepG us) (stepG ws)) → Calls Try.prog 52 #[.pointer (some ⟨bT, 0, none⟩), .agg #[.int .i64 (i : Int), .int .i64 (j : Int)], .int .i64 (d : Int)] V fun e w' =>
                  e = .returned (.agg #[.int .i64 (x : Int), .int .i64 (y : Int)]) ∧ Below V.heap.size V w') := fun V hV => by
                have := after_any bT t i j d _ V hV (by omega) (by omega) (by omega)
                rw [join2, if_pos (by omega), stepG_at _ (by omega), hx1, join2, if_neg (by omega), show 248 + j * 4 + d - 248 = j * 4 + d from by omega, stepG_at _ (by omega), hy1] at this
                exact this
              have hvb := HV2.out d hd4
              have HVN : Hid (valM (valL us ws i j) (d + 1) = max (valM (valL us ws i j) d) (valL us ws i j d)) := valM_next _ _
              have HLK := Lib.hid hlk
              have HXY : Hid (x ≤ 1000 ∧ y ≤ 1000) := ⟨by omega, by omega⟩
              clear hlk hx1 hy1
              generalize valM (valL us ws i j) d = mo at *
              generalize valL us ws i j d = va at *
              go_wp2_with (first | (go_at_call 52; refine (HAF.out _ HId.out.row).mono ?_; rintro e w5 ⟨rfl, hb5⟩; have HI5 := Lib.hid (HId.out.below hb5)) | (refine lookIK_law (E := encPair) _ rfl (.tmp 31) (.tmp 35) 77 rfl Try.underlying77 w.heap.size _ _ rfl HI5.out.m (k := (x, y)) HXY.out rfl (va : Int) HLK.out ?_))
              exact ⟨⟨d + 1, by omega, by rw [HVN.out]; congr 1; split <;> omega, by go_num, hW.trans (hb5.mono hW.size)⟩, by simp [intOf] <;> omega⟩
            · obtain rfl : d = 4 := by omega
              obtain ⟨L, hL⟩ : ∃ L, valM (valL us ws i j) 4 = L := ⟨_, rfl⟩
              have HLL : Hid (L = lcs us ws i j) := by rw [Hid, ← hL, lcs_eq us ws i j HIL.out]
              rw [hL] at hmo ⊢
              clear hL HV HV2 HLO HI1
              have HQ : Hid ((m - i) * (n + 1) + (n + 1 - (j + 1)) ≤ 1099511627776) := by
                have : (m - i) * (n + 1) ≤ 60 * 61 := Nat.mul_le_mul (by omega) (by omega)
                rw [Hid]; omega
              have HQ2 : Hid ((m - i) * (n + 1) + (n + 1 - (j + 1)) + 1 = (m - i) * (n + 1) + (n + 1 - j)) := by rw [Hid]; omega
              generalize (m - i) * (n + 1) + (n + 1 - (j + 1)) = q at HQ HQ2 HId
              have HIJ : Hid (i ≤ 1000 ∧ j ≤ 1000) := ⟨by omega, by omega⟩
              have HWF : Hid ((Lit.int .i64 ((L : Int) + 1)).wf = true) := WalkArith.wf_i64 (by omega)
              go_wp2_with (refine storeK_law (E := encPair) _ rfl (.tmp 39) (.tmp 40) (.tmp 42) 77 rfl 3 Try.underlying77 w.heap.size _ _ rfl HId.out.m HQ.out (k := (i, j)) HIJ.out rfl (.int .i64 ((L : Int) + 1)) rfl (.int .i64 ((L : Int) + 1)) (plainElem_int Try.underlying3 HWF.out) ?_; intro w7 hm7 hg7; have HS7 : Hid (LnI us ws bT t w (i + 1) j (q + 1) w7) := (by have hm8 := hm7; rw [HLL.out] at hm8; exact HId.out.store HIL.out HJL.out hT hm8 hg7); clear hm7 hg7)
              rw [HQ2.out] at HS7
              exact ⟨⟨j, by omega, by go_num, HS7⟩, by simp [intOf] <;> omega⟩
end Go.Proofs.Ythlccidbphkfaaa
