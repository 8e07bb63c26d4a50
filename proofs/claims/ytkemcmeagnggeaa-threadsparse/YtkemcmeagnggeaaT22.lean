import Derived.Test.YtkemcmeagnggeaaT19
import Derived.Test.YtkemcmeagnggeaaT13
import Derived.Test.YtkemcmeagnggeaaT17
import Derived.Test.YtkemcmeagnggeaaT03
import Derived.Deep.DeepMust
import Derived.Test.YtkemcmeagnggeaaT01
import Derived.Deep.RegionHeldLaw
import Derived.Deep.AppendLies
import Derived.Deep.RegionLaw
/- Layer 3, plain mathematics: the reference's search for the first word that parts two. -/
namespace Go.Proofs.Ytkemcmeagnggeaa
open Go.RowKit
set_option linter.unusedVariables false

/-- The place behind a letter, or -1. -/
def stepR (w : List Int) (p : Int) (c : Nat) : Int := if p < 0 then -1 else nextF w p.toNat (97 + (c : Int))
def twoR (u w : List Int) (s : Int × Int) (c : Nat) : Int × Int := (stepR u s.1 c, stepR w s.2 c)
def deadR (s : Int × Int) : Prop := s.1 < 0 ∧ s.2 < 0
def badR (s : Int × Int) : Prop := ¬ (s.1 < 0 ↔ s.2 < 0)
def runR (w : List Int) (p : Int) (x : List Int) : Int := x.foldl (fun p b => stepR w p (b - 97).toNat) p
theorem two_run (u w : List Int) (x : List Int) : ∀ p q : Int, runS (twoR u w) (p, q) x = (runR u p x, runR w q x) := by
  induction x with
  | nil => intro p q; rfl
  | cons b x ih => intro p q; exact ih (stepR u p (b - 97).toNat) (stepR w q (b - 97).toNat)
theorem stepR_neg {w : List Int} {p : Int} (h : p < 0) (c : Nat) : stepR w p c = -1 := if_pos h
theorem stepR_pos {w : List Int} {p : Nat} (c : Nat) : stepR w (p : Int) c = nextF w p (97 + (c : Int)) := by unfold stepR; rw [if_neg (by omega)]; rfl
theorem stepR_rng (w : List Int) (p : Int) (c : Nat) : stepR w p c = -1 ∨ (0 ≤ p ∧ p < stepR w p c ∧ stepR w p c ≤ w.length) := by
  by_cases h : p < 0
  · exact .inl (stepR_neg h c)
  · obtain ⟨n, rfl⟩ : ∃ n : Nat, p = (n : Int) := ⟨p.toNat, by omega⟩
    rw [stepR_pos]
    rcases nextF_rng w n (97 + (c : Int)) with h1 | ⟨h1, h2⟩
    · exact .inl h1
    · exact .inr ⟨by omega, h1, h2⟩
theorem dead_two' {u w : List Int} (s : Int × Int) (c : Nat) (h : deadR s) : deadR (twoR u w s c) := by
  obtain ⟨h1, h2⟩ := h
  unfold deadR twoR
  rw [stepR_neg h1, stepR_neg h2]
  exact ⟨by decide, by decide⟩
theorem dead_bad (s : Int × Int) (h : deadR s) : ¬ badR s := fun hb => hb ⟨fun _ => h.2, fun _ => h.1⟩
theorem runR_rng (w : List Int) (x : List Int) : ∀ p : Int, p = -1 ∨ (0 ≤ p ∧ p ≤ w.length) → runR w p x = -1 ∨ (p + x.length ≤ runR w p x ∧ 0 ≤ p ∧ runR w p x ≤ w.length) := by
  induction x with
  | nil =>
    intro p hp
    rcases hp with rfl | hp
    · exact .inl rfl
    · exact .inr ⟨by show p + ((0 : Nat) : Int) ≤ p; omega, hp.1, hp.2⟩
  | cons b x ih =>
    intro p hp
    show runR w (stepR w p (b - 97).toNat) x = -1 ∨ (p + ((x.length + 1 : Nat) : Int) ≤ runR w (stepR w p (b - 97).toNat) x ∧ 0 ≤ p ∧ runR w (stepR w p (b - 97).toNat) x ≤ w.length)
    rcases stepR_rng w p (b - 97).toNat with h | ⟨h1, h2, h3⟩
    · rcases ih _ (.inl h) with h4 | ⟨h4, h5, h6⟩
      · exact .inl h4
      · omega
    · rcases ih _ (.inr ⟨by omega, h3⟩) with h4 | ⟨h4, h5, h6⟩
      · exact .inl h4
      · exact .inr ⟨by omega, h1, h6⟩
theorem runR_snoc (w : List Int) (p : Int) (x : List Int) (c : Nat) : runR w p (x ++ [97 + (c : Int)]) = stepR w (runR w p x) c := by
  unfold runR
  rw [List.foldl_append]
  show stepR w _ _ = _
  congr 1
  omega
theorem withinTo_runR {w x : List Int} {k : Nat} (hx : isW k x) : ∀ n, n ≤ x.length → (withinTo x w n = none ∧ runR w 0 (x.take n) = -1) ∨ ∃ q, withinTo x w n = some q ∧ runR w 0 (x.take n) = (q.2 : Int) := by
  intro n
  induction n with
  | zero => intro _; exact .inr ⟨([], 0), rfl, rfl⟩
  | succ n ih =>
    intro hn
    obtain ⟨c, hc, hxc⟩ := isW_letter hx (i := n) (by omega)
    rw [take_snoc (by omega), hxc, runR_snoc]
    rcases ih (by omega) with ⟨h1, h2⟩ | ⟨⟨l, p⟩, h1, h2⟩
    · left
      exact ⟨withinTo_none (Nat.le_succ n) h1, by rw [h2]; exact stepR_neg (by decide) c⟩
    · rw [h2, stepR_pos, withinTo, h1, hxc]
      dsimp only
      rcases nextF_rng w p (97 + (c : Int)) with h4 | ⟨h4, h5⟩
      · left; rw [if_pos (by omega)]; exact ⟨rfl, h4⟩
      · right
        rw [if_neg (by omega)]
        exact ⟨_, rfl, by show nextF w p (97 + (c : Int)) = (((nextF w p (97 + (c : Int))).toNat : Nat) : Int); omega⟩
theorem runR_sub {w x : List Int} {k : Nat} (hx : isW k x) : runR w 0 x < 0 ↔ subB x w = false := by
  unfold subB withinF
  rcases withinTo_runR (w := w) hx x.length (Nat.le_refl _) with ⟨h1, h2⟩ | ⟨q, h1, h2⟩
  · rw [List.take_length] at h2
    rw [h1, h2]
    exact ⟨fun _ => rfl, fun _ => by decide⟩
  · rw [List.take_length] at h2
    rw [h1, h2]
    constructor
    · intro h; omega
    · intro h; cases h
theorem badR_iff {u w x : List Int} {k : Nat} (hx : isW k x) : badR (runS (twoR u w) (0, 0) x) ↔ DifP u w x := by
  rw [two_run]
  unfold badR DifP
  show ¬ (runR u 0 x < 0 ↔ runR w 0 x < 0) ↔ _
  rw [runR_sub hx, runR_sub hx]
  cases subB x u <;> cases subB x w <;> simp
/-- What a state of the search says about its word. -/
theorem state_rng {u w : List Int} {x : List Int} {s : Int × Int} (h : runS (twoR u w) (0, 0) x = s) : (s.1 = -1 ∨ ((x.length : Int) ≤ s.1 ∧ s.1 ≤ u.length)) ∧ (s.2 = -1 ∨ ((x.length : Int) ≤ s.2 ∧ s.2 ≤ w.length)) := by
  subst h
  rw [two_run]
  refine ⟨?_, ?_⟩
  · rcases runR_rng u x 0 (.inr ⟨by omega, by omega⟩) with h | ⟨h1, h2, h3⟩
    · exact .inl h
    · exact .inr ⟨by show (x.length : Int) ≤ runR u 0 x; omega, h3⟩
  · rcases runR_rng w x 0 (.inr ⟨by omega, by omega⟩) with h | ⟨h1, h2, h3⟩
    · exact .inl h
    · exact .inr ⟨by show (x.length : Int) ≤ runR w 0 x; omega, h3⟩
/-- How many states there are. -/
theorem ints_lt {l : List (Int × Int)} {m n : Nat} (hd : l.Nodup) (h : ∀ x ∈ l, -1 ≤ x.1 ∧ x.1 ≤ m ∧ -1 ≤ x.2 ∧ x.2 ≤ n) : l.length ≤ (m + 2) * (n + 2) := by
  have h1 : (l.map fun x => (x.1 + 1).toNat * (n + 2) + (x.2 + 1).toNat).Nodup := by
    induction l with
    | nil => exact List.nodup_nil
    | cons a l ih =>
      have hd' := List.nodup_cons.1 hd
      rw [List.map_cons]
      refine List.nodup_cons.2 ⟨fun hm => ?_, ih hd'.2 fun x hx => h x (List.mem_cons_of_mem _ hx)⟩
      obtain ⟨b, hb, e⟩ := List.mem_map.1 hm
      have ha1 := h a (by simp)
      have hb1 := h b (List.mem_cons_of_mem _ hb)
      have e1 : (b.1 + 1).toNat = (a.1 + 1).toNat := by
        have d1 := congrArg (· / (n + 2)) e
        rw [Nat.mul_comm, Nat.mul_add_div (by omega), Nat.mul_comm (a.1 + 1).toNat, Nat.mul_add_div (by omega), Nat.div_eq_of_lt (by omega), Nat.div_eq_of_lt (by omega)] at d1
        omega
      have e2 : (b.2 + 1).toNat = (a.2 + 1).toNat := by
        rw [e1] at e; omega
      have : b = a := Prod.ext (by omega) (by omega)
      exact hd'.1 (this ▸ hb)
  have h2 := nodup_lt ((m + 2) * (n + 2)) _ h1 fun y hy => by
    obtain ⟨x, hx, rfl⟩ := List.mem_map.1 hy
    have := h x hx
    have h3 : (x.1 + 1).toNat ≤ m + 1 := by omega
    have h4 : (x.2 + 1).toNat < n + 2 := by omega
    calc (x.1 + 1).toNat * (n + 2) + (x.2 + 1).toNat < (x.1 + 1).toNat * (n + 2) + (n + 2) := by omega
      _ = ((x.1 + 1).toNat + 1) * (n + 2) := by rw [Nat.succ_mul]
      _ ≤ (m + 2) * (n + 2) := Nat.mul_le_mul_right _ (by omega)
  rwa [List.length_map] at h2
end Go.Proofs.Ytkemcmeagnggeaa
/- Layer 3, plain mathematics: arches, and the words that are absent. -/
namespace Go.Proofs.Ytkemcmeagnggeaa
open Go.RowKit
set_option linter.unusedVariables false

/-- How many of the first n letters have been seen. -/
def cntB (sn : Nat → Bool) : Nat → Nat
  | 0 => 0
  | n + 1 => cntB sn n + (if sn n = true then 1 else 0)
theorem cntB_le (sn : Nat → Bool) : ∀ n, cntB sn n ≤ n
  | 0 => Nat.le_refl _
  | n + 1 => by
    have := cntB_le sn n
    rw [cntB]
    split <;> omega
theorem cntB_full (sn : Nat → Bool) : ∀ n, cntB sn n = n → ∀ c, c < n → sn c = true
  | 0, _, c, hc => by omega
  | n + 1, h, c, hc => by
    have h1 := cntB_le sn n
    rw [cntB] at h
    split at h
    · rename_i e
      by_cases hcn : c = n
      · rw [hcn]; exact e
      · exact cntB_full sn n (by omega) c (by omega)
    · omega
theorem cntB_none : ∀ n, cntB (fun _ => false) n = 0
  | 0 => rfl
  | n + 1 => by rw [cntB, cntB_none n]; rfl
theorem cntB_mark (sn : Nat → Bool) (c : Nat) : ∀ n, cntB (mark sn c) n = if c < n then cntS sn (cntB sn n) c else cntB sn n
  | 0 => rfl
  | n + 1 => by
    have ih := cntB_mark sn c n
    rw [cntB, ih, cntB]
    by_cases h : c < n
    · have e1 : mark sn c n = sn n := mark_other sn (by omega)
      have e2 : c < n + 1 := by omega
      simp only [h, e2, e1, if_true]
      unfold cntS
      split <;> omega
    · by_cases e : c = n
      · subst e
        have e2 : c < c + 1 := by omega
        simp only [h, e2, mark_same, if_true, if_false]
        unfold cntS
        cases sn c <;> simp
      · have e1 : mark sn c n = sn n := mark_other sn (by omega)
        have e2 : ¬ c < n + 1 := by omega
        simp only [h, e2, e1, if_false]
theorem stepF_cases (w : List Int) (p c : Nat) : (∃ i : Nat, p ≤ i ∧ i < w.length ∧ w[i]?.getD 0 = 97 + (c : Int) ∧ (∀ j, p ≤ j → j < i → w[j]?.getD 0 ≠ 97 + (c : Int)) ∧ stepF w p c = (i : Int) + 1) ∨ ((∀ j, p ≤ j → j < w.length → w[j]?.getD 0 ≠ 97 + (c : Int)) ∧ stepF w p c = 61) := by
  unfold stepF
  rcases nextF_cases w p (97 + (c : Int)) with ⟨i, h1, h2, h3, h4, h5⟩ | ⟨h1, h2⟩
  · exact .inl ⟨i, h1, h2, h3, h4, by rw [h5, if_neg (by omega)]⟩
  · exact .inr ⟨h1, by rw [h2]; rfl⟩
theorem stepF_le {w : List Int} (hw : w.length ≤ 60) {p c i : Nat} (hp : p ≤ i) (hi : i < w.length) : stepF w p c ≤ (i : Int) + 1 ↔ stepF w p c ≤ (i : Int) ∨ w[i]?.getD 0 = 97 + (c : Int) := by
  rcases stepF_cases w p c with ⟨j, h1, h2, h3, h4, h5⟩ | ⟨h1, h2⟩
  · rw [h5]
    constructor
    · intro h
      by_cases e : j = i
      · subst e; exact .inr h3
      · exact .inl (by omega)
    · rintro (h | h)
      · omega
      · have : ¬ i < j := fun hlt => h4 i hp hlt h
        omega
  · rw [h2]
    constructor
    · intro h; omega
    · rintro (h | h)
      · omega
      · exact absurd h (h1 i hp hi)
theorem stepF_mono {w : List Int} (hw : w.length ≤ 60) {p q c : Nat} (h : p ≤ q) : stepF w p c ≤ stepF w q c := by
  rcases stepF_cases w q c with ⟨j, h1, h2, h3, h4, h5⟩ | ⟨h1, h2⟩
  · rw [h5]
    exact (stepF_le hw (by omega) h2).2 (.inr h3)
  · rw [h2]
    rcases stepF_rng (w := w) p c with ⟨h3, _⟩ | ⟨_, h3, _⟩ <;> omega
/-- The scan within the arch that begins at p, before position i. -/
structure ScanI (w : List Int) (k p i : Nat) (sn : Nat → Bool) (m : Nat) : Prop where
  le : p ≤ i
  cnt : m = cntB sn k
  lt : m < k
  seen : ∀ c, c < k → (sn c = true ↔ stepF w p c ≤ (i : Int))
theorem ScanI.start {w : List Int} {k : Nat} (hk : 1 ≤ k) (i : Nat) (hi : i ≤ 60) : ScanI w k i i (fun _ => false) 0 where
  le := Nat.le_refl _
  cnt := (cntB_none k).symm
  lt := hk
  seen := fun c hc => by
    constructor
    · intro h; cases h
    · intro h
      rcases stepF_cases w i c with ⟨j, h1, _, _, _, h5⟩ | ⟨_, h2⟩ <;> omega
theorem scan_step {w : List Int} {k p i c0 m : Nat} {sn : Nat → Bool} (hw : w.length ≤ 60) (h : ScanI w k p i sn m) (hi : i < w.length) (hc : c0 < k) (hwi : w[i]?.getD 0 = 97 + (c0 : Int)) :
    (∀ c, c < k → (mark sn c0 c = true ↔ stepF w p c ≤ ((i + 1 : Nat) : Int))) ∧ cntS sn m c0 = cntB (mark sn c0) k := by
  refine ⟨fun c hck => ?_, by rw [cntB_mark, if_pos hc, h.cnt]⟩
  have hle := stepF_le (c := c) hw h.le hi
  rw [show ((i + 1 : Nat) : Int) = (i : Int) + 1 from by omega, hle]
  by_cases e : c = c0
  · subst e
    rw [mark_same]
    exact ⟨fun _ => .inr hwi, fun _ => rfl⟩
  · rw [mark_other sn e, h.seen c hck, hwi]
    constructor
    · intro h1; exact .inl h1
    · rintro (h1 | h1)
      · exact h1
      · omega
theorem archA_ge {w : List Int} {k p c : Nat} (hc : c < k) : stepF w p c ≤ archA w k p := maxTo_ge (f := fun c => stepF w p c) (k - 1) (by omega)
theorem archA_le {w : List Int} {k p : Nat} (hk : 1 ≤ k) {z : Int} (h : ∀ c, c < k → stepF w p c ≤ z) : archA w k p ≤ z := by
  obtain ⟨c, h1, h2⟩ := maxTo_at (f := fun c => stepF w p c) (k - 1)
  unfold archA
  rw [h2]
  exact h c (by omega)
theorem cntB_lt {sn : Nat → Bool} {n : Nat} (h : cntB sn n < n) : ∃ c, c < n ∧ sn c = false := by
  refine Classical.byContradiction fun hc => ?_
  have key : ∀ m, m ≤ n → cntB sn m = m := by
    intro m
    induction m with
    | zero => intro _; rfl
    | succ m ih =>
      intro hm
      rw [cntB, ih (by omega)]
      cases e : sn m with
      | true => rfl
      | false => exact absurd ⟨m, by omega, e⟩ hc
  have := key n (Nat.le_refl _)
  omega
/-- The program's arches, place by place, are the reference's. -/
theorem arch_scan {w : List Int} {k : Nat} (hw : w.length ≤ 60) (hk : 1 ≤ k) (hl : isW k w) : ∀ i, i ≤ w.length → ∃ p f, archC w k 62 0 = (archTo w k i).l ++ archC w k f p ∧ 62 ≤ f + i ∧ ScanI w k p i (archTo w k i).sn (archTo w k i).m := by
  intro i
  induction i with
  | zero => intro _; exact ⟨0, 62, rfl, by omega, ScanI.start hk 0 (by omega)⟩
  | succ i ih =>
    intro hi
    obtain ⟨p, f, h1, h2, h3⟩ := ih (by omega)
    obtain ⟨c0, hc0, hwi⟩ := isW_letter hl (i := i) (by omega)
    obtain ⟨s1, s2⟩ := scan_step hw h3 (by omega) hc0 hwi
    rw [archTo, hwi, show (97 + (c0 : Int) - 97).toNat = c0 from by omega]
    generalize archTo w k i = S at *
    obtain ⟨l, sn, m⟩ := S
    dsimp only at h1 h3 s1 s2
    by_cases e : cntS sn m c0 = k
    · rw [archStep_hit e]
      have hfull := cntB_full (mark sn c0) k (by omega)
      have hA : archA w k p = ((i + 1 : Nat) : Int) := by
        have a1 : archA w k p ≤ ((i + 1 : Nat) : Int) := archA_le hk fun c hc => (s1 c hc).1 (hfull c hc)
        obtain ⟨c, hc, hcf⟩ := cntB_lt (sn := sn) (n := k) (by have := h3.cnt; have := h3.lt; dsimp only at *; omega)
        have a2 : ¬ stepF w p c ≤ (i : Int) := fun hle => by
          have := (h3.seen c hc).2 hle
          rw [hcf] at this; cases this
        have a3 := archA_ge (w := w) (p := p) hc
        omega
      obtain ⟨f', rfl⟩ : ∃ f', f = f' + 1 := ⟨f - 1, by omega⟩
      refine ⟨i + 1, f', ?_, by omega, ScanI.start hk (i + 1) (by omega)⟩
      rw [h1, archC, hA, if_neg (by omega)]
      simp
    · rw [archStep_no e]
      refine ⟨p, f, h1, by omega, ⟨by have := h3.le; omega, s2, ?_, s1⟩⟩
      have := cntB_le (mark sn c0) k
      show cntS sn m c0 < k
      omega
theorem archC_eq {w : List Int} {k : Nat} (hw : w.length ≤ 60) (hk : 1 ≤ k) (hl : isW k w) : archC w k 62 0 = archF w k := by
  obtain ⟨p, f, h1, h2, h3⟩ := arch_scan hw hk hl w.length (Nat.le_refl _)
  rw [h1]
  obtain ⟨f', rfl⟩ : ∃ f', f = f' + 1 := ⟨f - 1, by omega⟩
  obtain ⟨c, hc, hcf⟩ := cntB_lt (sn := (archTo w k w.length).sn) (n := k) (by have := h3.cnt; have := h3.lt; omega)
  have a2 : ¬ stepF w p c ≤ (w.length : Int) := fun hle => by
    have := (h3.seen c hc).2 hle
    rw [hcf] at this; cases this
  have a3 := archA_ge (w := w) (p := p) hc
  have a4 : archA w k p = 61 := by
    rcases archA_rng (w := w) (k := k) (p := p) hw with h | ⟨q, h4, h5, h6⟩
    · exact h
    · omega
  rw [archC, if_pos a4, List.append_nil]
  rfl
theorem archF_len (w : List Int) (k : Nat) : (archF w k).length ≤ w.length := (archTo_len w k w.length).1

/-- The steps of both kinds. -/
theorem stepR_of {w : List Int} (hw : w.length ≤ 60) (p c : Nat) : (stepF w p c = 61 ∧ stepR w (p : Int) c = -1) ∨ ∃ q : Nat, stepF w p c = (q : Int) ∧ stepR w (p : Int) c = (q : Int) ∧ p < q ∧ q ≤ w.length := by
  rw [stepR_pos]
  rcases stepF_rng (w := w) p c with ⟨h1, h2⟩ | ⟨h1, h2, h3⟩
  · exact .inl ⟨h1, h2⟩
  · exact .inr ⟨(stepF w p c).toNat, by omega, by omega, by omega, by omega⟩
theorem runR_cons (w : List Int) (p : Int) (c : Nat) (x : List Int) : runR w p ((97 + (c : Int)) :: x) = runR w (stepR w p c) x := by
  show runR w (stepR w p (97 + (c : Int) - 97).toNat) x = _
  rw [show (97 + (c : Int) - 97).toNat = c from by omega]
theorem runR_dead (w x : List Int) : runR w (-1) x = -1 := by
  rcases runR_rng w x (-1) (.inl rfl) with h | ⟨_, h, _⟩
  · exact h
  · omega
theorem isW_cons {k c : Nat} {x : List Int} (hc : c < k) (h : isW k x) : isW k ((97 + (c : Int)) :: x) := fun b hb => by
  rcases List.mem_cons.1 hb with rfl | hb
  · omega
  · exact h b hb
/-- A word that is absent, one letter longer than there are arches. -/
theorem absent_word {w : List Int} {k : Nat} (hw : w.length ≤ 60) (hk : 1 ≤ k) : ∀ t p, p ≤ w.length → w.length + 1 ≤ p + t → ∃ x, isW k x ∧ x.length = (archC w k t p).length + 1 ∧ runR w (p : Int) x < 0 := by
  intro t
  induction t with
  | zero => intro p h1 h2; omega
  | succ t ih =>
    intro p h1 h2
    obtain ⟨c, c1, c2⟩ := maxTo_at (f := fun c => stepF w p c) (k - 1)
    have hA : archA w k p = stepF w p c := c2
    rw [archC]
    by_cases e : archA w k p = 61
    · rw [if_pos e]
      refine ⟨[97 + (c : Int)], isW_cons (by omega) (fun b hb => by cases hb), rfl, ?_⟩
      rw [runR_cons]
      rcases stepR_of hw p c with ⟨_, h⟩ | ⟨q, h3, _, _, h4⟩
      · rw [h]; show (-1 : Int) < 0; decide
      · omega
    · rw [if_neg e]
      rcases stepR_of hw p c with ⟨h, _⟩ | ⟨q, h3, h4, h5, h6⟩
      · omega
      · obtain ⟨x, x1, x2, x3⟩ := ih q h6 (by omega)
        refine ⟨(97 + (c : Int)) :: x, isW_cons (by omega) x1, ?_, by rw [runR_cons, h4]; exact x3⟩
        rw [List.length_cons, List.length_cons, x2, hA, h3]; rfl
/-- Words with at most as many letters as there are arches are subsequences. -/
theorem short_in {w : List Int} {k : Nat} (hw : w.length ≤ 60) : ∀ t p r x, r ≤ p → p ≤ w.length → isW k x → x.length ≤ (archC w k t p).length → 0 ≤ runR w (r : Int) x := by
  intro t
  induction t with
  | zero =>
    intro p r x _ _ _ h
    obtain rfl : x = [] := List.eq_nil_of_length_eq_zero (by simpa [archC] using h)
    show (0 : Int) ≤ r; omega
  | succ t ih =>
    intro p r x h1 h2 hx h
    cases x with
    | nil => show (0 : Int) ≤ r; omega
    | cons b x =>
      have hb := hx b (by simp)
      obtain ⟨c, hc⟩ : ∃ c : Nat, b = 97 + (c : Int) := ⟨(b - 97).toNat, by omega⟩
      subst hc
      rw [archC] at h
      by_cases e : archA w k p = 61
      · rw [if_pos e] at h; simp at h
      · rw [if_neg e] at h
        rcases archA_rng (w := w) (k := k) (p := p) hw with h3 | ⟨q, h3, h4, h5⟩
        · exact absurd h3 e
        · have h6 := archA_ge (w := w) (k := k) (p := p) (c := c) (by omega)
          have h7 := stepF_mono (c := c) hw h1
          rw [runR_cons]
          rcases stepR_of hw r c with ⟨h8, _⟩ | ⟨q', h8, h9, h10, h11⟩
          · omega
          · rw [h9]
            refine ih q q' x (by omega) h5 (fun z hz => hx z (List.mem_cons_of_mem _ hz)) ?_
            rw [h3] at h
            simpa using h
/-- The first absent word has one letter more than there are arches. -/
theorem first_absent {w : List Int} {k : Nat} (hw : w.length ≤ 60) (hk : 1 ≤ k) (hl : isW k w) {r : Option (List Int)} (h : IsFirst k (fun y => subB y w = false) r) : ∃ x, r = some x ∧ isW k x ∧ subB x w = false ∧ x.length = (archF w k).length + 1 := by
  obtain ⟨y, y1, y2, y3⟩ : ∃ y, isW k y ∧ y.length = (archC w k 62 0).length + 1 ∧ runR w 0 y < 0 := absent_word (k := k) hw hk 62 0 (Nat.zero_le _) (by omega)
  rw [archC_eq hw hk hl] at y2
  have y4 := (runR_sub y1).1 y3
  cases r with
  | none => exact absurd y4 (h y y1)
  | some x =>
    refine ⟨x, rfl, h.1, h.2.1, ?_⟩
    have h1 := leL_length (h.2.2 y y1 y4)
    by_cases h2 : x.length ≤ (archF w k).length
    · rw [← archC_eq hw hk hl] at h2
      have h3 : 0 ≤ runR w 0 x := short_in hw 62 0 0 x (Nat.le_refl _) (Nat.zero_le _) h.1 h2
      have h4 := (runR_sub h.1).2 h.2.1
      omega
    · omega
theorem short_sub {w : List Int} {k : Nat} (hw : w.length ≤ 60) (hk : 1 ≤ k) (hl : isW k w) {x : List Int} (hx : isW k x) (h : x.length ≤ (archF w k).length) : subB x w = true := by
  rw [← archC_eq hw hk hl] at h
  have h3 : 0 ≤ runR w 0 x := short_in hw 62 0 0 x (Nat.le_refl _) (Nat.zero_le _) hx h
  cases e : subB x w with
  | true => rfl
  | false => have := (runR_sub hx).2 e; omega
/-- The first k letters, again and again. -/
def repK (k : Nat) : Nat → List Int
  | 0 => []
  | n + 1 => repK k n ++ (List.range k).map fun (c : Nat) => 97 + (c : Int)
theorem repK_len (k n : Nat) : (repK k n).length = n * k := by
  induction n with
  | zero => simp [repK]
  | succ n ih => rw [repK, List.length_append, ih, List.length_map, List.length_range, Nat.succ_mul]
theorem repK_sub {k : Nat} : ∀ (n : Nat) (x : List Int), isW k x → x.length ≤ n → x.Sublist (repK k n) := by
  intro n
  induction n with
  | zero => intro x _ h; obtain rfl : x = [] := List.eq_nil_of_length_eq_zero (by omega); exact List.nil_sublist _
  | succ n ih =>
    intro x hx h
    rw [repK, ← List.take_append_drop n x]
    refine List.Sublist.append (ih _ (isW_take hx n) (by rw [List.length_take]; omega)) ?_
    have hl : (x.drop n).length ≤ 1 := by rw [List.length_drop]; omega
    rcases hd : x.drop n with _ | ⟨b, y⟩
    · exact List.nil_sublist _
    · rw [hd] at hl
      obtain rfl : y = [] := List.eq_nil_of_length_eq_zero (by simpa using hl)
      have hb : b ∈ x := List.mem_of_mem_drop (by rw [hd]; simp)
      have := hx b hb
      exact List.singleton_sublist.2 (List.mem_map.2 ⟨(b - 97).toNat, List.mem_range.2 (by omega), by omega⟩)
theorem repK_isW (k : Nat) : ∀ n, isW k (repK k n)
  | 0 => fun b hb => by cases hb
  | n + 1 => fun b hb => by
    rcases List.mem_append.1 hb with hb | hb
    · exact repK_isW k n b hb
    · obtain ⟨c, hc, rfl⟩ := List.mem_map.1 hb
      have := List.mem_range.1 hc
      omega
/-- The first word that parts a word from a long enough list of all letters is the first absent one. -/
theorem absent_parted {w : List Int} {k n : Nat} {x : List Int} (h : IsFirst k (fun y => subB y w = false) (some x)) (hn : x.length ≤ n) : IsFirst k (DifP w (repK k n)) (some x) := by
  have hin : ∀ y, isW k y → y.length ≤ n → subB y (repK k n) = true := fun y hy hl => sub_iff.2 (repK_sub n y hy hl)
  have hxw : subB x w = false := h.2.1
  refine ⟨h.1, ?_, fun y hy hd => ?_⟩
  · unfold DifP
    rw [hxw, hin x h.1 hn]; decide
  · by_cases hl : y.length ≤ n
    · unfold DifP at hd
      rw [hin y hy hl] at hd
      exact h.2.2 y hy (by cases e : subB y w with
        | true => rw [e] at hd; exact absurd rfl hd
        | false => exact e)
    · exact less_long (by omega)
end Go.Proofs.Ytkemcmeagnggeaa
/- Layer 3: the reference's lists of pairs: push and has. -/
namespace Go.Proofs.Ytkemcmeagnggeaa
open Go.RowKit
set_option linter.unusedVariables false

theorem Try.infoPt : (Try.prog.info? 94).map (fun i => (i.zero, i.size, i.bytes)) = some (some (.agg #[.int .i64 0, .int .i64 0]), 2, 16) := by kernel_rfl
def ptsC (ps : List (Int × Int)) : List Value := ps.flatMap fun p => [.int .i64 p.1, .int .i64 p.2]
theorem ptsC_len (ps : List (Int × Int)) : (ptsC ps).length = ps.length * 2 := by
  induction ps with
  | nil => rfl
  | cons p ps ih => simp [ptsC] at *; omega
theorem ptsC_at (ps : List (Int × Int)) : ∀ (j : Nat) (h : j < ps.length), (ptsC ps)[j * 2]? = some (.int .i64 ps[j].1) ∧ (ptsC ps)[j * 2 + 1]? = some (.int .i64 ps[j].2) := by
  induction ps with
  | nil => intro j h; simp at h
  | cons p ps ih =>
    intro j h
    have e : ptsC (p :: ps) = .int .i64 p.1 :: .int .i64 p.2 :: ptsC ps := by simp [ptsC]
    cases j with
    | zero => rw [e]; exact ⟨rfl, rfl⟩
    | succ j =>
      rw [e, show (j + 1) * 2 = j * 2 + 1 + 1 from by omega]
      simp only [List.getElem?_cons_succ, List.getElem_cons_succ]
      exact ih j (by simpa using h)
/-- The call owns the slice v of pairs of ints. -/
def Owp (w : World) (B e : Nat) (v : Value) (ps : List (Int × Int)) : Prop := w.ownsRow B e 2 v ps.length (ptsC ps)
theorem Owp.nil (w : World) (B e : Nat) : Owp w B e (.slice none 0 0) [] := World.ownsRow_nil _ _ _ _
theorem Owp.lt {w : World} {B e : Nat} {v : Value} {zs : List (Int × Int)} (h : Owp w B e v zs) {k : Nat} (hk : v.ownBlock = some k) : B ≤ k ∧ k < w.heap.size := World.ownsRow.lt h k hk
theorem Owp.kept {w w' : World} {B e : Nat} {v u : Value} {zs : List (Int × Int)} (h : Owp w B e v zs) (hg : w.grownBy w' u.ownBlock) (ha : Apart v u) : Owp w' B e v zs := World.ownsRow.kept h hg ha
theorem Owp.below {w w' : World} {B e b : Nat} {v : Value} {zs : List (Int × Int)} (h : Owp w B e v zs) (hb : Below b w w') (hB : w.heap.size ≤ b) : Owp w' B e v zs :=
  World.ownsRow.kept (row := none) h ⟨hb.os, hb.tape, hb.output, hb.size, fun k hk _ => hb.block k (by omega)⟩ (by
    rcases hv : v.ownBlock with _ | k
    · exact .inl rfl
    · exact .inr (by simp))
theorem Owp.alloc {w : World} {B e : Nat} {v : Value} {zs : List (Int × Int)} (h : Owp w B e v zs) (o : Obj) : Owp (w.alloc o) B e v zs := World.ownsRow.alloc h o
theorem Ows.kept {w w' : World} {B e : Nat} {v u : Value} {zs : List ByteArray} (h : Ows w B e v zs) (hg : w.grownBy w' u.ownBlock) (ha : Apart v u) : Ows w' B e v zs := World.ownsRow.kept h hg ha
theorem Ows.alloc {w : World} {B e : Nat} {v : Value} {zs : List ByteArray} (h : Ows w B e v zs) (o : Obj) : Ows (w.alloc o) B e v zs := World.ownsRow.alloc h o
/-- The form of a list of pairs that is not empty, and its cells. -/
theorem Owp.form {w : World} {B e n : Nat} {v : Value} {zs : List (Int × Int)} (h : Owp w B e v zs) (hn : zs.length = n) (h0 : 0 < n) : ∃ g cap, v = .slice (some ⟨g, 0, none⟩) n cap ∧ n ≤ cap ∧ B ≤ g ∧ g < w.heap.size ∧
    ∀ j, j < n → w.cell? ⟨g, j * 2, none⟩ = some (.int .i64 (zs[j]?.getD (0, 0)).1) ∧ w.cell? ⟨g, j * 2 + 1, none⟩ = some (.int .i64 (zs[j]?.getD (0, 0)).2) := by
  subst hn
  rcases h.2 with ⟨_, h1⟩ | ⟨g, cap, cur, h1, h2, h3, h4, h5, h6, h7⟩
  · omega
  · refine ⟨g, cap, h1, h4, h2, (Array.getElem?_eq_some_iff.1 h3).1, fun j hj => ?_⟩
    have h8 := ptsC_at zs j hj
    have hc : ∀ i u, (ptsC zs)[i]? = some u → w.cell? ⟨g, i, none⟩ = some u := fun i u hu => by
      rw [cell_of_row w g _ _ _ _ h3]
      rw [← h7, List.getElem?_take] at hu
      split at hu
      · rw [← Array.getElem?_toList]; exact hu
      · cases hu
    rw [List.getElem?_eq_getElem hj]
    exact ⟨hc _ _ h8.1, hc _ _ h8.2⟩
theorem pushp_law {P : Program} (w : World) {ops : Array Oper} {rest : List Oper} {o : Oper} {a : Act} {Q : Exit → Act → World → Prop} (hgd : o.guard = none) (s x : Operand) (t : TypeId)
    (ho : o.op = .call { callee := .builtin .append, args := #[s, x], argTypes := #[t, t] })
    (B : Nat) (e : TypeId) (i : TypeInfo) (ht : P.underlying t = some (.slice e)) (hI : P.info? e = some i ∧ i.zero = some (.agg #[.int .i64 0, .int .i64 0]) ∧ i.size = 2 ∧ i.bytes = 16)
    (v : Value) (zs : List (Int × Int)) (p q : Int) (hs : a.eval s = v) (hx : a.eval x = .slice (some ⟨w.heap.size, 0, none⟩) 1 1) (hown : Owp w B e v zs) (hn : zs.length ≤ 1099511627776) (hB : B ≤ w.heap.size)
    (h : ∀ v' w', Owp w' B e v' (zs ++ [(p, q)]) → w.grownBy w' v.ownBlock → (v'.ownBlock = v.ownBlock ∨ ∃ g, v'.ownBlock = some g ∧ w.heap.size ≤ g) → wpList P ops Q rest (a.put o.dst v') w') :
    wpList P ops Q (o :: rest) a (w.alloc (.cells #[.int .i64 p, .int .i64 q] e)) := by
  obtain ⟨h1, h2, h3, h4⟩ := hI
  refine wpList_append_own_at _ hgd s x t ho B e i _ 2 16 ht h1 h2 h3 h4 rfl (by decide) v zs.length (ptsC zs) hs (hown.alloc _) ⟨w.heap.size, 0, none⟩ 1 1 [.int .i64 p, .int .i64 q] hx rfl ?_ ?_ (by unfold maxLen; omega) (by omega) (by simp; omega) ?_
  · intro j u hu
    match j, hu with
    | 0, hu =>
      simp at hu; subst hu
      simp [Addr.add]
    | 1, hu =>
      simp at hu; subst hu
      simp [Addr.add]
  · intro u hu
    simp at hu
    rcases hu with rfl | rfl <;> rfl
  · intro v' w' ho' hg' _ hat
    refine h v' w' ?_ (grown_alloc hg') ?_
    · unfold Owp
      rw [List.length_append, show ptsC (zs ++ [(p, q)]) = ptsC zs ++ [.int .i64 p, .int .i64 q] from by simp [ptsC]]
      exact ho'
    · rcases hat with e1 | e1
      · exact .inl e1
      · exact .inr ⟨_, e1, by simp⟩
end Go.Proofs.Ytkemcmeagnggeaa
/- Layer 3: the reference's has. -/
namespace Go.Proofs.Ytkemcmeagnggeaa
open Go.RowKit
set_option linter.unusedVariables false
set_option maxRecDepth 100000 in
theorem run_equalIn_ref (W : World) (p q r s : Int) : (Op.equalIn 10000 94 (.agg #[.int .i64 p, .int .i64 q]) (.agg #[.int .i64 r, .int .i64 s])).run Try.prog W = .ok (p == r && q == s) W := by
  by_cases h : p = r
  · subst h
    by_cases h2 : q = s
    · subst h2
      simp [go_sem]
    · have h3 : (q == s) = false := by simpa using h2
      simp [go_sem, h3]
  · have h3 : (p == r) = false := by simpa using h
    simp [go_sem, h3]
def hasPt (ps : List (Int × Int)) (x : Int × Int) : Bool := decide (x ∈ ps)
theorem hasPt_hit {ps : List (Int × Int)} {x : Int × Int} {j : Nat} (hj : j < ps.length) (h1 : (ps[j]?.getD (0, 0)).1 = x.1) (h2 : (ps[j]?.getD (0, 0)).2 = x.2) : true = hasPt ps x := by
  rw [List.getElem?_eq_getElem hj, Option.getD_some] at h1 h2
  exact (decide_eq_true (by rw [show x = ps[j] from Prod.ext h1.symm h2.symm]; exact List.getElem_mem hj)).symm
theorem hasPt_none {ps : List (Int × Int)} {x : Int × Int} (h : ∀ j, j < ps.length → ¬ ((ps[j]?.getD (0, 0)).1 = x.1 ∧ (ps[j]?.getD (0, 0)).2 = x.2)) : false = hasPt ps x := by
  refine (decide_eq_false fun hm => ?_).symm
  obtain ⟨j, hj, e⟩ := List.mem_iff_getElem.1 hm
  refine h j hj ?_
  rw [List.getElem?_eq_getElem hj, Option.getD_some, e]
  exact ⟨rfl, rfl⟩
theorem cell_alloc_old (w : World) (o : Obj) {p : Addr} (h : p.block < w.heap.size) : (w.alloc o).cell? p = w.cell? p := by
  have e : (w.alloc o).heap[p.block]? = w.heap[p.block]? := by
    show (w.heap.push o)[p.block]? = _
    rw [Array.getElem?_push, if_neg (Nat.ne_of_lt h)]
  unfold World.cell?
  rw [e]
set_option maxHeartbeats 1600000 in
theorem hasPt_any (B e n : Nat) (v : Value) (ps : List (Int × Int)) (x y : Int) (w : World) (hl : ps.length = n) (h1 : 1 ≤ n) (hn : n ≤ 1000000) (hv : Owp w B e v ps) :
    Calls Try.prog 60 #[v, .agg #[.int .i64 x, .int .i64 y]] w fun e w' => e = .returned (.bool (hasPt ps (x, y))) ∧ Below w.heap.size w w' := by
  obtain ⟨g, cap, rfl, hcap, hB, hg, hc⟩ := hv.form hl (by omega)
  have HC := Lib.hid hc
  clear hc hv
  go_enter Try.func60, Try.ntmps60
  go_wp2
  have HC1 : Hid (∀ j : Nat, j < n → (w.alloc (.cells #[.int .i64 x, .int .i64 y] 94)).cell? ⟨g, j * 2, none⟩ = some (.int .i64 (ps[j]?.getD (0, 0)).1) ∧ (w.alloc (.cells #[.int .i64 x, .int .i64 y] 94)).cell? ⟨g, j * 2 + 1, none⟩ = some (.int .i64 (ps[j]?.getD (0, 0)).2)) := fun j hj =>
    ⟨(cell_alloc_old _ _ hg).trans (HC.out j hj).1, (cell_alloc_old _ _ hg).trans (HC.out j hj).2⟩
  have hK : Hid (Below w.heap.size w (w.alloc (.cells #[.int .i64 x, .int .i64 y] 94))) := (Below.refl _ _).alloc (Nat.le_refl _) _
  have c0 : (w.alloc (.cells #[.int .i64 x, .int .i64 y] 94)).cell? ⟨w.heap.size, 0, none⟩ = some (.int .i64 x) := by simp
  have c1 : (w.alloc (.cells #[.int .i64 x, .int .i64 y] 94)).cell? ⟨w.heap.size, 1, none⟩ = some (.int .i64 y) := by simp
  generalize w.alloc (.cells #[.int .i64 x, .int .i64 y] 94) = w1 at HC1 hK c0 c1 ⊢
  clear HC
  go_loopw [5] (fun i w' => ∃ j : Nat, j ≤ n ∧ i = .int .i64 (j : Int) ∧ Hid (∀ i, i < j → ¬ ((ps[i]?.getD (0, 0)).1 = x ∧ (ps[i]?.getD (0, 0)).2 = y)) ∧ Dr w1 w') (fun i _ => n - (intOf i).toNat)
  case atStart => exact ⟨0, by omega, by go_num, fun j hj => absurd hj (by omega), Dr.refl _⟩
  case round =>
    obtain ⟨j, hj, rfl, hok, hW⟩ := hrel
    by_cases hlt : j < n
    · have d0 := (hW.cell _).trans c0
      have d1 := (hW.cell _).trans c1
      have d2 := (hW.cell _).trans (HC1.out j hlt).1
      have d3 := (hW.cell _).trans (HC1.out j hlt).2
      have HH : Hid ((ps[j]?.getD (0, 0)).1 = x → (ps[j]?.getD (0, 0)).2 = y → true = hasPt ps (x, y)) := fun h1 h2 => hasPt_hit (by omega) h1 h2
      obtain ⟨p, hp⟩ : ∃ p, p = (ps[j]?.getD (0, 0)).1 := ⟨_, rfl⟩
      obtain ⟨q, hq⟩ : ∃ q, q = (ps[j]?.getD (0, 0)).2 := ⟨_, rfl⟩
      rw [← hp] at d2 HH
      rw [← hq] at d3 HH
      have hpq : ((ps[j]?.getD (0, 0)).1 = x ∧ (ps[j]?.getD (0, 0)).2 = y) = (p = x ∧ q = y) := by rw [hp, hq]
      clear hp hq
      have HX : Hid (¬ (p = x ∧ q = y) → ∀ i, i < j + 1 → ¬ ((ps[i]?.getD (0, 0)).1 = x ∧ (ps[i]?.getD (0, 0)).2 = y)) := fun h i hi => by
        by_cases e : i = j
        · subst e; exact fun h2 => h (hpq ▸ h2)
        · exact hok.out i (by omega)
      clear hpq
      have heq := fun V => run_equalIn_ref V p q x y
      by_cases hA : p = x ∧ q = y
      · have hAb : (p == x && q == y) = true := by simp [hA.1, hA.2]
        rw [hAb] at heq
        have HR := Lib.hid (HH.out hA.1 hA.2)
        clear hA hAb HX HH
        go_wp2
        go_quiet (fail)
        go_wp2
        go_ret
        exact ⟨bend HR.out, hK.out.trans ((Dr.below (hW.more _) _).mono (Nat.le_refl _))⟩
      · have hAb : (p == x && q == y) = false := by
          rw [Bool.and_eq_false_iff]
          by_cases e : p = x
          · exact .inr (by simpa using fun h => hA ⟨e, h⟩)
          · exact .inl (by simpa using e)
        rw [hAb] at heq
        have HR := Lib.hid (HX.out hA)
        clear hA hAb HX HH
        go_wp2
        go_quiet (fail)
        go_wp2
        go_roundw
        case rel => exact ⟨j + 1, by omega, by go_num, HR, hW.more _⟩
        case measure => simp [intOf]; omega
    · obtain rfl : j = n := by omega
      have HN : Hid (false = hasPt ps (x, y)) := hasPt_none fun i hi => hok.out i (by omega)
      go_wp2
      go_ret
      exact ⟨bend HN.out, hK.out.trans (Dr.below hW _)⟩
end Go.Proofs.Ytkemcmeagnggeaa
/- Layer 3: the reference's Parted: what it keeps between two words. -/
namespace Go.Proofs.Ytkemcmeagnggeaa
open Go.RowKit
set_option linter.unusedVariables false

theorem Ows.one (w : World) (B e : Nat) (s : ByteArray) (hB : B ≤ w.heap.size) : Ows (w.alloc (.cells #[.string s] e)) B e (.slice (some ⟨w.heap.size, 0, none⟩) 1 1) [s] := by
  have h := World.ownsRow_lit (base := B) (e := e) (size := 1) w #[.string s] 1 hB (by unfold maxLen; omega) rfl
  simpa [Ows] using h
theorem Owp.one (w : World) (B e : Nat) (x y : Int) (hB : B ≤ w.heap.size) : Owp (w.alloc (.cells #[.int .i64 x, .int .i64 y] e)) B e (.slice (some ⟨w.heap.size, 0, none⟩) 1 1) [(x, y)] := by
  have h := World.ownsRow_lit (base := B) (e := e) (size := 2) w #[.int .i64 x, .int .i64 y] 1 hB (by unfold maxLen; omega) rfl
  simpa [Owp, ptsC] using h
theorem strs_get {ss : List ByteArray} {j : Nat} (h : j < ss.length) : (strs ss)[j]? = some (.string (ss[j]?.getD ByteArray.empty)) := by
  unfold strs
  rw [List.getElem?_map, List.getElem?_eq_getElem h]; rfl
theorem Ows.form {w : World} {B e n : Nat} {v : Value} {zs : List ByteArray} (h : Ows w B e v zs) (hn : zs.length = n) (h0 : 0 < n) : ∃ g cap, v = .slice (some ⟨g, 0, none⟩) n cap ∧ n ≤ cap ∧ B ≤ g ∧ g < w.heap.size ∧
    ∀ j, j < n → w.cell? ⟨g, j, none⟩ = some (.string (zs[j]?.getD ByteArray.empty)) := by
  subst hn
  rcases h.2 with ⟨_, h1⟩ | ⟨g, cap, cur, h1, h2, h3, h4, h5, h6, h7⟩
  · omega
  · refine ⟨g, cap, h1, h4, h2, (Array.getElem?_eq_some_iff.1 h3).1, fun j hj => ?_⟩
    have hu := strs_get hj
    rw [cell_of_row w g _ _ _ _ h3]
    rw [← h7, List.getElem?_take] at hu
    split at hu
    · rw [← Array.getElem?_toList]; exact hu
    · cases hu
/-- A word and where it leads. -/
abbrev Vr : Type := ByteArray × (Int × Int)
def toR (x : Vr) : List Int × (Int × Int) := (bs x.1, x.2)
structure PaS (k : Nat) (u s : List Int) (w : World) (D Q : List Vr) (a b : Value) (wr : World) : Prop where
  bf : BF k (twoR u s) (0, 0) deadR (D.map toR) (Q.map toR)
  nb : ∀ d ∈ D, ¬ badR d.2
  nd : ((D ++ Q).map (·.2)).Nodup
  ws : Ows wr w.heap.size 9 a ((D ++ Q).map (·.1))
  ps : Owp wr w.heap.size 94 b ((D ++ Q).map (·.2))
  ap : Apart a b
  bl : Below w.heap.size w wr
structure PaI (k : Nat) (u s : List Int) (w : World) (D : List Vr) (v : Vr) (c : Nat) (Q : List Vr) (a b : Value) (wr : World) : Prop where
  bp : BP k (twoR u s) (0, 0) deadR (D.map toR) (toR v) c (Q.map toR)
  nb : ∀ d ∈ D, ¬ badR d.2
  nd : ((D ++ v :: Q).map (·.2)).Nodup
  ws : Ows wr w.heap.size 9 a ((D ++ v :: Q).map (·.1))
  ps : Owp wr w.heap.size 94 b ((D ++ v :: Q).map (·.2))
  ap : Apart a b
  bl : Below w.heap.size w wr
variable {k : Nat} {u s : List Int} {w wr : World} {D Q : List Vr} {v : Vr} {a b : Value} {c : Nat}
theorem vr_rng {L : List Vr} (h : ∀ t ∈ L.map toR, runS (twoR u s) (0, 0) t.1 = t.2 ∧ isW k t.1) {x : Vr} (hx : x ∈ L) : (x.2.1 = -1 ∨ ((x.1.size : Int) ≤ x.2.1 ∧ x.2.1 ≤ u.length)) ∧ (x.2.2 = -1 ∨ ((x.1.size : Int) ≤ x.2.2 ∧ x.2.2 ≤ s.length)) := by
  have := state_rng (h (toR x) (List.mem_map.2 ⟨x, hx, rfl⟩)).1
  rw [← bs_len x.1]
  exact this
theorem vr_len {L : List Vr} (hu : u.length ≤ 60) (hs : s.length ≤ 300) (h : ∀ t ∈ L.map toR, runS (twoR u s) (0, 0) t.1 = t.2 ∧ isW k t.1) (hn : (L.map (·.2)).Nodup) : L.length ≤ 20000 := by
  have := ints_lt (m := 60) (n := 300) hn fun y hy => by
    obtain ⟨x, hx, rfl⟩ := List.mem_map.1 hy
    have := vr_rng h hx
    omega
  rw [List.length_map] at this
  omega
theorem PaS.len (h : PaS k u s w D Q a b wr) (hu : u.length ≤ 60) (hs : s.length ≤ 300) : (D ++ Q).length ≤ 20000 :=
  vr_len (k := k) hu hs (by rw [List.map_append]; exact h.bf.ok) h.nd
theorem PaI.len (h : PaI k u s w D v c Q a b wr) (hu : u.length ≤ 60) (hs : s.length ≤ 300) : (D ++ v :: Q).length ≤ 20000 :=
  vr_len (k := k) hu hs (by rw [List.map_append]; exact h.bp.ok) h.nd
theorem PaS.rng (h : PaS k u s w D (v :: Q) a b wr) : (v.2.1 = -1 ∨ ((v.1.size : Int) ≤ v.2.1 ∧ v.2.1 ≤ u.length)) ∧ (v.2.2 = -1 ∨ ((v.1.size : Int) ≤ v.2.2 ∧ v.2.2 ≤ s.length)) :=
  vr_rng (k := k) (L := D ++ v :: Q) (by rw [List.map_append]; exact h.bf.ok) (by simp)
theorem PaS.take (h : PaS k u s w D (v :: Q) a b wr) : PaI k u s w D v 0 Q a b wr := ⟨h.bf.take, h.nb, h.nd, h.ws, h.ps, h.ap, h.bl⟩
theorem PaI.done (h : PaI k u s w D v k Q a b wr) (hv : ¬ badR v.2) : PaS k u s w (D ++ [v]) Q a b wr := by
  have e : D ++ [v] ++ Q = D ++ v :: Q := by simp
  refine ⟨?_, fun d hd => ?_, by rw [e]; exact h.nd, by rw [e]; exact h.ws, by rw [e]; exact h.ps, h.ap, h.bl⟩
  · have := h.bp.done
    rw [List.map_append]
    exact this
  · rcases List.mem_append.1 hd with hd | hd
    · exact h.nb d hd
    · rw [List.mem_singleton.1 hd]; exact hv
theorem PaI.skip (h : PaI k u s w D v c Q a b wr) (hs : deadR (twoR u s v.2 c) ∨ twoR u s v.2 c ∈ (D ++ v :: Q).map (·.2)) : PaI k u s w D v (c + 1) Q a b wr :=
  ⟨h.bp.skip (hs.imp id fun hm => by
    obtain ⟨x, hx, e⟩ := List.mem_map.1 hm
    exact ⟨toR x, by rw [show D.map toR ++ toR v :: Q.map toR = (D ++ v :: Q).map toR from by simp]; exact List.mem_map.2 ⟨x, hx, rfl⟩, e⟩), h.nb, h.nd, h.ws, h.ps, h.ap, h.bl⟩
theorem PaI.dead (h : PaI k u s w D v 0 Q a b wr) (hd : deadR v.2) : PaI k u s w D v k Q a b wr := by
  have key : ∀ c, PaI k u s w D v c Q a b wr := by
    intro c
    induction c with
    | zero => exact h
    | succ c ih => exact ih.skip (.inl (dead_two' _ _ hd))
  exact key k
theorem PaI.push (h : PaI k u s w D v c Q a b wr) (hc : c < k) (hk : k ≤ 4) (hn : twoR u s v.2 c ∉ (D ++ v :: Q).map (·.2)) {a' b' : Value} {w' : World} (hb : Below w.heap.size w w')
    (hws : Ows w' w.heap.size 9 a' ((D ++ v :: Q).map (·.1) ++ [v.1 ++ chr (97 + c)])) (hps : Owp w' w.heap.size 94 b' ((D ++ v :: Q).map (·.2) ++ [twoR u s v.2 c])) (ha : Apart a' b') :
    PaI k u s w D v (c + 1) (Q ++ [(v.1 ++ chr (97 + c), twoR u s v.2 c)]) a' b' w' := by
  have e : D ++ v :: (Q ++ [(v.1 ++ chr (97 + c), twoR u s v.2 c)]) = (D ++ v :: Q) ++ [(v.1 ++ chr (97 + c), twoR u s v.2 c)] := by simp
  refine ⟨?_, h.nb, ?_, ?_, ?_, ha, hb⟩
  · have := h.bp.push hc
    rw [List.map_append]
    show BP k (twoR u s) (0, 0) deadR (D.map toR) (toR v) (c + 1) (Q.map toR ++ [(bs (v.1 ++ chr (97 + c)), twoR u s v.2 c)])
    rw [bs_append, bs_chr _ (by omega), show ((97 + c : Nat) : Int) = 97 + (c : Int) from by omega]
    exact this
  · rw [e, List.map_append, List.nodup_append]
    refine ⟨h.nd, by simp, fun x hx y hy => ?_⟩
    simp only [List.map_cons, List.map_nil, List.mem_singleton] at hy
    subst hy
    intro e; subst e; exact hn hx
  · rw [e, List.map_append]; exact hws
  · rw [e, List.map_append]; exact hps
theorem PaS.more (h : PaS k u s w D Q a b wr) (n : Nat) : PaS k u s w D Q a b (wr.drewN n) := ⟨h.bf, h.nb, h.nd, h.ws, h.ps, h.ap, below_dn h.bl n⟩
theorem PaI.more (h : PaI k u s w D v c Q a b wr) (n : Nat) : PaI k u s w D v c Q a b (wr.drewN n) := ⟨h.bp, h.nb, h.nd, h.ws, h.ps, h.ap, below_dn h.bl n⟩
theorem PaI.mono (h : PaI k u s w D v c Q a b wr) {w' : World} (hb : Below wr.heap.size wr w') : PaI k u s w D v c Q a b w' :=
  ⟨h.bp, h.nb, h.nd, h.ws.below hb (Nat.le_refl _), h.ps.below hb (Nat.le_refl _), h.ap, h.bl.trans (hb.mono h.bl.size)⟩
/-- One string more, as a step of a region that draws. -/
theorem pushs_step {P : Program} {ops : Array Oper} {o : Oper} {a : Act} {w : World} {K : Act → World → Prop} {Q : Exit → Act → World → Prop} {E : Prop} (hgd : o.guard = .none) (s x : Operand) (t : TypeId)
    (ho : o.op = .call { callee := .builtin .append, args := #[s, x], argTypes := #[t, t] })
    (B : Nat) (e : TypeId) (i : TypeInfo) (ht : P.underlying t = some (.slice e)) (hI : P.info? e = some i ∧ i.zero = some (.string ByteArray.empty) ∧ i.size = 1 ∧ i.bytes = 16)
    (v : Value) (zs : List ByteArray) (z : ByteArray) (p : Nat) (hs : a.eval s = v) (hx : a.eval x = .slice (some ⟨p, 0, .none⟩) 1 1) (hp : w.cell? ⟨p, 0, .none⟩ = some (.string z)) (hown : Ows w B e v zs) (hn : zs.length ≤ 1000000) (hB : B ≤ w.heap.size)
    (h : ∀ v' w', Ows w' B e v' (zs ++ [z]) → w.grownBy w' v.ownBlock → (v'.ownBlock = v.ownBlock ∨ ∃ g, v'.ownBlock = some g ∧ w.heap.size ≤ g) → K (a.put o.dst v') w') :
    if Region.wanted o (yielded ops a.tmps) = true then Oper.wp P o a w K Q else E := by
  obtain ⟨h1, h2, h3, h4⟩ := hI
  refine step_append_lies w hgd s x t ho B e i _ 1 16 ht h1 h2 h3 h4 rfl (by decide) v zs.length (strs zs) hs hown ⟨p, 0, .none⟩ 1 1 [.string z] hx rfl ?_ ?_ (by decide) (by unfold maxLen; omega) (by omega) hB _ rfl ?_
  · intro j u hu
    match j, hu with
    | 0, hu =>
      simp at hu; subst hu
      simpa [Addr.add] using hp
  · intro u hu
    simp at hu; subst hu; rfl
  · intro g cap w' ho' hg' hat _
    refine h _ w' (by unfold Ows; simpa [strs] using ho') hg' ?_
    rcases hat with e1 | e1
    · exact .inl (by rw [e1]; rfl)
    · exact .inr ⟨g, rfl, by omega⟩
theorem one_letter_drew (w : World) (c : Nat) (hc : c < 256) (x : Int) (hx : x = (c : Int)) : (convert 64 9 (.slice (some ⟨w.heap.size, 0, .none⟩) 1 1)).run Try.prog (w.alloc (.cells #[.int .u8 x] 5)).drew = .ok (.string (chr c)) (w.alloc (.cells #[.int .u8 x] 5)).drew := by
  subst hx
  have h := run_convert_bytes_back (P := Try.prog) (w.alloc (.cells #[.int .u8 (c : Int)] 5)).drew 64 9 5 ⟨w.heap.size, 0, .none⟩ 1 [UInt8.ofNat c] Try.underlying64 Try.underlying5 Try.underlying9 (fun j hj => by
    have : j = 0 := by simpa using hj
    subst this
    show (w.alloc (.cells #[.int .u8 (c : Int)] 5)).cell? _ = _
    simp [Addr.add, UInt8.toNat_ofNat', Nat.mod_eq_of_lt hc])
  exact h
theorem two_new (w : World) (A : Obj) (z : ByteArray) (t : TypeId) (W : World) (h : W = ((w.alloc A).alloc (.cells #[.string z] t)).drew ∨ W = (w.alloc A).drew.alloc (.cells #[.string z] t)) :
    W.cell? ⟨w.heap.size + 1, 0, .none⟩ = some (.string z) ∧ Below w.heap.size w W ∧ w.heap.size ≤ W.heap.size := by
  have e : W.heap = (w.heap.push A).push (.cells #[.string z] t) := by rcases h with rfl | rfl <;> rfl
  have hb : Below w.heap.size w W := by
    rcases h with rfl | rfl
    · exact (((Below.refl _ w).alloc (Nat.le_refl _) _).alloc (by simp) _).drew
    · exact (((Below.refl _ w).alloc (Nat.le_refl _) _).drew).alloc (by show _ ≤ (w.heap.push A).size; simp) _
  refine ⟨?_, hb, hb.size⟩
  have e2 : W.heap[w.heap.size + 1]? = some (.cells #[.string z] t (0, 0)) := by
    rw [e, Array.getElem?_push, if_pos (by simp)]
  rw [cell_of_row _ _ _ _ _ _ e2]; rfl
theorem below_grown {a b c : World} {r : Option Nat} (h : Below a.heap.size a b) (k : b.grownBy c r) : a.grownBy c r :=
  ⟨k.os.trans h.os, k.tape.trans h.tape, k.output.trans h.output, Nat.le_trans h.size k.size, fun i hi hr => (k.block i (Nat.lt_of_lt_of_le hi h.size) hr).trans (h.block i hi)⟩
theorem grown_below {w a b : World} {r : Option Nat} (h : Below w.heap.size w a) (k : a.grownBy b r) (hr : ∀ i, r = some i → w.heap.size ≤ i) : Below w.heap.size w b :=
  ⟨k.os.trans h.os, k.tape.trans h.tape, k.output.trans h.output, Nat.le_trans h.size k.size, fun i hi => (k.block i (Nat.lt_of_lt_of_le hi h.size) (fun e => by have := hr i e.symm; omega)).trans (h.block i hi)⟩
/-- Behind both appends. -/
theorem PaI.grow {w7 w8 w9 : World} {v8 v9 : Value} {r1 r2 : Int} {z : ByteArray} (h : PaI k u s w D v c Q a b w7) (hc : c < k) (hk : k ≤ 4) (hn : twoR u s v.2 c ∉ (D ++ v :: Q).map (·.2)) (ht : twoR u s v.2 c = (r1, r2)) (hz : z = v.1)
    (hv8 : Owp w8 w.heap.size 94 v8 ((D ++ v :: Q).map (·.2) ++ [(r1, r2)])) (hg8 : w7.grownBy w8 b.ownBlock) (hat8 : v8.ownBlock = b.ownBlock ∨ ∃ g, v8.ownBlock = some g ∧ w7.heap.size ≤ g)
    (hv9 : Ows w9 w.heap.size 9 v9 ((D ++ v :: Q).map (·.1) ++ [z ++ chr (97 + c)])) (hg9 : w8.grownBy w9 a.ownBlock) (hat9 : v9.ownBlock = a.ownBlock ∨ ∃ g, v9.ownBlock = some g ∧ w8.heap.size ≤ g) :
    PaI k u s w D v (c + 1) (Q ++ [(v.1 ++ chr (97 + c), twoR u s v.2 c)]) v9 v8 w9 := by
  subst hz
  have a1 : Apart v8 a := Apart.new (Apart.symm h.ap) (fun i hi => (h.ws.lt hi).2) hat8
  have a2 : Apart v9 v8 := Apart.new (Apart.symm a1) (fun i hi => (hv8.lt hi).2) hat9
  have b8 : Below w.heap.size w w8 := grown_below h.bl hg8 fun i hi => (h.ps.lt hi).1
  have b9 : Below w.heap.size w w9 := grown_below b8 hg9 fun i hi => (h.ws.lt hi).1
  refine h.push hc hk hn b9 hv9 ?_ a2
  rw [ht]
  exact hv8.kept hg9 a1
/-- What Parted gives. -/
def PaPost (k : Nat) (us ss : List Int) (e : Ending) : Prop :=
  (∃ x : ByteArray, e = .returned (.tuple #[.string x, .bool true]) ∧ IsFirst k (DifP us ss) (some (bs x))) ∨ (e = .returned (.tuple #[.string ByteArray.empty, .bool false]) ∧ IsFirst k (DifP us ss) none)
theorem PaS.found (h : PaS k u s w D (v :: Q) a b wr) (hb : badR v.2) : IsFirst k (DifP u s) (some (bs v.1)) := by
  have h1 : runS (twoR u s) (0, 0) (bs v.1) = v.2 ∧ isW k (bs v.1) := h.bf.head
  refine ⟨h1.2, (badR_iff h1.2).1 (by rw [h1.1]; exact hb), fun y hy hd => ?_⟩
  exact h.bf.least (fun s c hs _ => dead_two' s c hs) badR dead_bad (fun d hd => by
    obtain ⟨x, hx, rfl⟩ := List.mem_map.1 hd
    exact h.nb x hx) hy ((badR_iff hy).2 hd)
theorem PaS.none (h : PaS k u s w D [] a b wr) : IsFirst k (DifP u s) none := fun y hy hd =>
  BF.none h.bf (fun s c hs _ => dead_two' s c hs) badR dead_bad (fun d hd => by
    obtain ⟨x, hx, rfl⟩ := List.mem_map.1 hd
    exact h.nb x hx) hy ((badR_iff hy).2 hd)
theorem PaS.start (w : World) (hB : Below w.heap.size w wr) (ha : Ows wr w.heap.size 9 a [ByteArray.empty]) (hb : Owp wr w.heap.size 94 b [(0, 0)]) (hab : Apart a b) : PaS k u s w [] [(ByteArray.empty, (0, 0))] a b wr where
  bf := BF.init
  nb := fun d hd => by cases hd
  nd := List.nodup_cons.2 ⟨by simp, List.nodup_nil⟩
  ws := ha
  ps := hb
  ap := hab
  bl := hB
end Go.Proofs.Ytkemcmeagnggeaa
