import Derived.Test.YtfeohcknopdamaaT02
import Derived.OrdersHeld
import Derived.OrdersIn
import Derived.Deep.RegionHeldLaw
/- Layer 10: sets and choices at a position, plain mathematics. -/
namespace Go.Proofs.Ytfeohcknopdamaa
set_option linter.unusedVariables false

/-- The sequence of sets, by the lengths of its parts. -/
def pL (L : Nat → Nat → Nat) : Nat → Nat → Nat → List Int
  | 0, _, _ => []
  | x + 1, s, a => if a < L x s then pL L x s a else pL L x (s - 1) (L (x + 1) s - 1 - a) ++ [((x + 1 : Nat) : Int)]
def expL (x _s : Nat) : Nat := 2 ^ x
/-- Numbers of choices. -/
def chs : Nat → Nat → Nat
  | _, 0 => 1
  | 0, _ + 1 => 0
  | n + 1, k + 1 => chs n (k + 1) + chs n k
theorem chs_zero (n : Nat) : chs n 0 = 1 := by cases n <;> rfl
theorem chs_over : ∀ n k : Nat, n < k → chs n k = 0
  | 0, 0, h => by omega
  | 0, k + 1, _ => rfl
  | n + 1, 0, h => by omega
  | n + 1, k + 1, h => by
    rw [chs, chs_over n (k + 1) (by omega), chs_over n k (by omega)]
theorem chs_self : ∀ n : Nat, chs n n = 1
  | 0 => rfl
  | n + 1 => by rw [chs, chs_self n, chs_over n (n + 1) (by omega)]
theorem chs_pos : ∀ n k : Nat, k ≤ n → 1 ≤ chs n k
  | n, 0, _ => by rw [chs_zero]; exact Nat.le_refl _
  | 0, k + 1, h => by omega
  | n + 1, k + 1, h => by
    have := chs_pos n k (by omega)
    rw [chs]; omega
theorem chs_le : ∀ n k : Nat, chs n k ≤ 2 ^ n
  | n, 0 => by rw [chs_zero]; exact Nat.one_le_two_pow
  | 0, k + 1 => by simp [chs]
  | n + 1, k + 1 => by
    have := chs_le n (k + 1)
    have := chs_le n k
    rw [chs, Nat.pow_succ]; omega
theorem two_le {n : Nat} (h : n ≤ 40) : 2 ^ n ≤ 1099511627776 := by
  have : (2 : Nat) ^ n ≤ 2 ^ 40 := Nat.pow_le_pow_right (by omega) h
  have e : (2 : Nat) ^ 40 = 1099511627776 := by decide
  omega
/-- What makes a walk down the sequence sound: L's values, and where the walk may stand. -/
structure Lens (L : Nat → Nat → Nat) (G : Nat → Nat → Nat → Prop) : Prop where
  le : ∀ x s, x ≤ 40 → L x s ≤ 1099511627776
  rng : ∀ x s a, G x s a → x ≤ 40 ∧ s ≤ 40 ∧ a < L x s
  skip : ∀ x s a, G (x + 1) s a → a < L x s → G x s a
  take : ∀ x s a, G (x + 1) s a → ¬ a < L x s → 1 ≤ s ∧ G x (s - 1) (L (x + 1) s - 1 - a)
def GoodA (x s a : Nat) : Prop := a < 2 ^ x ∧ x ≤ s ∧ s ≤ 40
def GoodC (x s a : Nat) : Prop := a < chs x s ∧ s ≤ 40 ∧ x ≤ 40
theorem lensA : Lens expL GoodA := by
  refine ⟨fun x s h => two_le h, fun x s a ⟨h1, h2, h3⟩ => ⟨by omega, h3, h1⟩, fun x s a ⟨h1, h2, h3⟩ h => ⟨h, by omega, h3⟩, fun x s a ⟨h1, h2, h3⟩ h => ⟨by omega, ?_, by omega, by omega⟩⟩
  unfold expL at h ⊢
  rw [Nat.pow_succ] at h1 ⊢
  omega
theorem lensC : Lens chs GoodC := by
  refine ⟨fun x s h => Nat.le_trans (chs_le x s) (two_le h), fun x s a ⟨h1, h2, h3⟩ => ⟨h3, h2, h1⟩, fun x s a ⟨h1, h2, h3⟩ h => ⟨h, h2, by omega⟩, fun x s a ⟨h1, h2, h3⟩ h => ?_⟩
  cases s with
  | zero => rw [chs_zero] at h1 h; omega
  | succ s =>
    rw [chs] at h1
    refine ⟨by omega, ?_, by omega, by omega⟩
    rw [chs, Nat.add_sub_cancel]
    omega
theorem pL_len (L : Nat → Nat → Nat) : ∀ x s a : Nat, (pL L x s a).length ≤ x
  | 0, _, _ => Nat.le_refl _
  | x + 1, s, a => by
    rw [pL]
    split
    · exact Nat.le_succ_of_le (pL_len L x s a)
    · rw [List.length_append, List.length_singleton]
      exact Nat.succ_le_succ (pL_len L x _ _)
end Go.Proofs.Ytfeohcknopdamaa
/- Layer 10: a region that draws its order, in a round of a range over a function: by the plain laws. -/
namespace Go.Proofs.Ytfeohcknopdamaa
open Go.RowKit
set_option linter.unusedVariables false

def ndB (o : Oper) : Bool := match o.op with | .defer _ => false | _ => true
theorem ndB_spec {o : Oper} (h : ndB o = true) : ∀ c, o.op ≠ .defer c := fun c e => by
  unfold ndB at h
  rw [e] at h
  cases h
theorem wpOpIn_of_wpOp {n l : Nat} {P : Program} {ops : Array Oper} {Q : Exit → Act → World → Prop} (hnd : ∀ (i : Nat) (o : Oper), ops[i]? = some o → ndB o = true) (hQ : ¬ LetsOut Q) {i : Nat} {K : Act → World → Prop} {a : Act} {w : World}
    (h : wpOp P ops Q i K a w) : wpOpIn (Fence.wide.inRound l) n P ops Q i K a w := by
  unfold wpOp at h
  unfold wpOpIn
  cases ho : ops[i]? with
  | none => rw [ho] at h; exact h
  | some o =>
    rw [ho] at h
    simp only [] at h ⊢
    split
    · rename_i hw
      rw [if_pos hw] at h
      rcases h with h | h
      · refine ⟨fun _ _ => trivial, ?_⟩
        rw [show (Fence.wide.inRound l).round = some l from rfl, Oper.semAt_some _ _ _ (ndB_spec (hnd i o ho))]
        unfold Oper.wp at h
        generalize (execOp a.eval o).run P w = r at h ⊢
        cases r with
        | ok x w' =>
          cases x <;> simp only [Oper.upon, Oper.uponIn] at h ⊢
          case value v => exact h
          case skip => exact h
          case defer d => exact h
          case enter f args => exact ⟨fun e => (by cases e), CallsIn.inRound l (callsIn_wide.2 h)⟩
          case row row args => exact ⟨fun e => (by cases e), fun c cs _ => let ⟨v, w', r, st⟩ := h c cs; ⟨v, w', r, (stepsIn_wide.2 st : _)⟩⟩
        | halt x w' =>
          cases x <;> simp only [Oper.upon, Oper.uponIn] at h ⊢
          exact h
      · exact absurd h.2 hQ
    · rename_i hw
      rw [if_neg hw] at h
      exact ⟨fun _ _ => trivial, h⟩
theorem wpAnyIn_of_wpAny {n l : Nat} {P : Program} {ops : Array Oper} {md : Region.Mode} {Q : Exit → Act → World → Prop} (hnd : ∀ (i : Nat) (o : Oper), ops[i]? = some o → ndB o = true) (hQ : ¬ LetsOut Q) :
    ∀ (fuel : Nat) (listed : Array Bool) (a : Act) (w : World), wpAny P md ops Q fuel listed a w → wpAnyIn (Fence.wide.inRound l) n P md ops Q fuel listed a w
  | 0, _, _, _, h => h
  | fuel + 1, listed, a, w, h => ⟨h.1, fun i hi => wpOpIn_mono (fun a' w' h' => wpAnyIn_of_wpAny hnd hQ fuel _ a' w' h') (wpOpIn_of_wpOp hnd hQ (h.2 i hi))⟩
/-- A region that draws, in a round: as everywhere. -/
theorem wpIn_region_round {n l id : Nat} {P : Program} {ops : List Oper} {Q : Exit → Act → World → Prop} {a : Act} {w : World} (S : World → Prop) (hm : P.follows .mixedOrders = true) (hnd : ops.all ndB = true) (hQ : ¬ LetsOut Q)
    (hS : S w.drew) (h : S w.drew → wpAnyH P .any ops.toArray Q S ops.length (Array.replicate ops.length false) a w.drew) : (Code.region id ops.toArray true).wpIn (Fence.wide.inRound l) n P Q a w :=
  wpIn_region_any hm (wpAnyIn_of_wpAny (fun i o hi => by
    rw [List.getElem?_toArray] at hi
    exact List.all_eq_true.1 hnd o (List.mem_of_getElem? hi)) hQ _ _ _ _ (by simpa using wpAny_of_held _ _ _ _ (h hS)))
theorem wpAnyH_takeX {P : Program} {md : Region.Mode} {ops : Array Oper} {Q : Exit → Act → World → Prop} {S : World → Prop} {i : Nat} {oi : Oper} {v : Value} {fuel : Nat} {listed : Array Bool} {a : Act} {w : World} (hi : ops[i]? = some oi)
    (hs : Region.noSelect ops = true) (hf : Region.free md ops listed i = true) (hr : (Region.ready md ops listed).contains i = true) (hS : S w)
    (hQ : ∀ c a w, Q (.panic c) (a.put oi.dst v) w → Q (.panic c) a w) (hy : YieldsIf P ops S oi v a)
    (h : wpAnyH P md ops Q S fuel (listed.setIfInBounds i true) (a.put oi.dst v) w) : wpAnyH P md ops Q S (fuel + 1) listed a w :=
  wpAnyH_take hi hs hf hr hQ hy hS h
end Go.Proofs.Ytfeohcknopdamaa
