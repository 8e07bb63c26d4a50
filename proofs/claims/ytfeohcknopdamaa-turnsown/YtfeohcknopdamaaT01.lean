import Derived.Test.YtfeohcknopdamaaT00
import Derived.RangeFuncNested
import Derived.RangeFuncBound
import Derived.RangeFuncCalls
import Derived.RangeFuncLeaves
import Derived.RangeFuncFrom
import Derived.RangeFuncBox
import Derived.Shelf.Abstract
import Derived.Shelf.RegionOpen
import Derived.OwnWalkIn
import Derived.TacticsInMore
import Derived.LoopNIn
import Derived.LoopIn
/- Layer 10: a range over a function whose body never leaves: what the iterator owes, what the caller owes; the iterators down and slices.Backward. -/
namespace Go.Proofs.Ytfeohcknopdamaa
open Go.RowKit Go.Shelf
set_option linter.unusedVariables false

/-- The iterator's side: the rounds that may come (Pf), what a round keeps (Kp), what has come at the end (S). -/
def SeqP {α : Type} (n : Nat) (P : Program) (g : Nat) (lb : Array Value) (encs : α → Array Value) (Pf : List α → α → Prop) (Kp : World → World → Prop) (S : List α → Prop) (w : World) : Prop :=
  ∀ (l : Nat) (J : List α → World → Prop) (W : World), (∀ k, k < w.heap.size → W.heap[k]? = w.heap[k]?) →
    (∀ pre x W1, Pf pre x → J pre W1 → YieldAt Fence.wide n P l (encs x) W1 fun e W' => e = .returned (.bool true) ∧ J (pre ++ [x]) W' ∧ Kp W1 W') →
    J [] W → Calls P g (#[.func (.yield l) #[] #[]] ++ lb) W fun e W' => (∃ v, e = .returned v) ∧ ∃ xs, S xs ∧ J xs W'
/-- What a round leaves: it goes on. -/
def GoesOn {α : Type} (Rd : Nat → Prop) (I : List α → World → Prop) (xs : List α) (W : World) : Exit → Act → World → Prop
  | .normal, _, W' => KeepsOthers W W' ∧ (∀ k, Rd k → W'.heap[k]? = W.heap[k]?) ∧ I xs W'
  | _, _, _ => False
/-- The caller's side. -/
theorem rangeP_law {α : Type} {n : Nat} {P : Program} {g : Operand} {ps : Array Tmp} {assign body : Code} {Q : Exit → Act → World → Prop} {a : Act} {w : World} {gf : Nat} {lb : Array Value}
    (hg : a.eval g = .func (.func gf) #[] lb) (eg : ∀ args w, (callFunc gf args).run P w = .ok (.enter gf args) w) {encs : α → Array Value} {Pf : List α → α → Prop} {Rd : Nat → Prop} {S : List α → Prop}
    (hit : SeqP n P gf lb encs Pf (fun W W' => ∀ k, Rd k → W'.heap[k]? = W.heap[k]?) S w) (hps : ∀ x, (encs x).size = ps.size) (hRd : ∀ k, Rd k → k < w.heap.size)
    (I : List α → World → Prop) (hI : OwnFrom w.heap.size I) (h0 : I [] w) (a₁ : α → Act)
    (hassign : ∀ (l : Nat) (x : α) (W : World) (K : Act → World → Prop), K (a₁ x) W →
      assign.wpIn (Fence.wide.inRound l) n P (Exit.then K (fun _ _ _ => False)) { tmps := (ps.zip (encs x)).foldl (fun t (p, v) => t.setIfInBounds p v) a.tmps, defers := [] } W)
    (hbody : ∀ (l : Nat) (pre : List α) (x : α) (W : World), Pf pre x → I pre W → body.wpIn (Fence.wide.inRound l) n P (GoesOn Rd I (pre ++ [x]) W) (a₁ x) W)
    (hdone : ∀ (D : Nat) (xs : List α) (W : World), w.heap.size ≤ D → S xs → I xs W → W.heap[D]? = some (.deferred (some [])) → Q .normal { a with defers := { target := .collected D, args := #[] } :: a.defers } W) :
    (Code.rangeFunc g ps assign body).wpIn Fence.wide (n + 1) P Q a w := by
  refine wpIn_rangeFunc fun fn hfn => ?_
  let R : LoopState → Option Code → Loop := fun st pe => { state := st, pending := pe, fn, tmps := a.tmps, params := ps, assign, body, defers := w.heap.size }
  let W1 : World := (w.alloc (.deferred (some []))).alloc (.loop (R .ready none))
  have hold : ∀ k, k < w.heap.size → W1.heap[k]? = w.heap[k]? := fun k hk => by
    show ((w.heap.push _).push _)[k]? = _
    rw [Array.getElem?_push, if_neg (by simp; omega), Array.getElem?_push, if_neg (by omega)]
  have hD1 : W1.heap[w.heap.size]? = some (.deferred (some [])) := by
    show ((w.heap.push _).push _)[w.heap.size]? = _
    rw [Array.getElem?_push, if_neg (by simp), Array.getElem?_push, if_pos rfl]
  have hL1 : W1.heap[w.heap.size + 1]? = some (.loop (R .ready none)) := by
    show ((w.heap.push _).push _)[w.heap.size + 1]? = _
    rw [Array.getElem?_push, if_pos (by simp)]
  refine ⟨w.heap.size + 1, [{ target := .collected w.heap.size, args := #[] }], W1, { target := .fn (.func gf) lb, args := #[.func (.yield (w.heap.size + 1)) #[] #[]] }, W1, gf, #[.func (.yield (w.heap.size + 1)) #[] #[]] ++ lb, W1, run_enterLoop_outer _ _ _ _ _, ?_, fun _ _ => trivial, ?_, (fun h => (by cases h)), ?_⟩
  · simp only [resolve, hg]
    simp [go_sem]
  · simp [invoke, go_sem, eg]
  refine callsIn_wide.2 ((hit (w.heap.size + 1)
    (fun pre W => I pre W ∧ W.heap[w.heap.size + 1]? = some (.loop (R .ready none)) ∧ W.heap[w.heap.size]? = some (.deferred (some [])))
    W1 hold ?_ ⟨hI.alloc _ (hI.alloc _ h0), hL1, hD1⟩).mono ?_)
  · -- a round
    rintro pre x W hpf ⟨hi, hl, hk⟩
    have hy := run_yield (P := P) (args := encs x) hl (hps x)
    have hlt : w.heap.size + 1 < W.heap.size := (Array.getElem?_eq_some_iff.1 hl).1
    refine ⟨fn, _, assign, body, hy, roundIn_of_wpIn trivial (hassign (w.heap.size + 1) x W _ ?_)⟩
    have hl2 : (W.putObj (w.heap.size + 1) (.loop { R .ready none with state := .busy })).heap[w.heap.size + 1]? = some (.loop { R .ready none with state := .busy }) := World.putObj_heap_same hlt
    have hk2 : (W.putObj (w.heap.size + 1) (.loop { R .ready none with state := .busy })).heap[w.heap.size]? = some (.deferred (some [])) := (World.putObj_heap_other (by omega)).trans hk
    refine ⟨_, run_beginRound hl rfl, wpIn_mono (hbody (w.heap.size + 1) pre x _ hpf (hI.putObj _ hi (by omega) hl rfl)) ?_⟩
    intro e a3 W3 hp
    cases e with
    | normal =>
      obtain ⟨hk3, hr3, hi3⟩ := hp
      have hl3 := hk3.same _ _ hl2 rfl
      have hd3 := hk3.same _ _ hk2 rfl
      refine ⟨_, _, run_endRound none hl3, rfl, ⟨hI.putObj _ hi3 (by omega) hl3 rfl, World.putObj_heap_same (Array.getElem?_eq_some_iff.1 hl3).1, (World.putObj_heap_other (by omega)).trans hd3⟩, fun k hk => ?_⟩
      have := hRd k hk
      exact ((World.putObj_heap_other (by omega)).trans (hr3 k hk)).trans (World.putObj_heap_other (by omega))
    | ret => exact hp.elim
    | exit id => exact hp.elim
    | goto t => exact hp.elim
    | panic ch => exact hp.elim
    | outgrown => exact hp.elim
  · -- behind the iterator
    rintro e W2 ⟨⟨v, rfl⟩, xs, hS, hi, hl, hk⟩
    exact ⟨none, _, run_endLoop hl (by simp [R]), hdone _ xs _ (Nat.le_refl _) hS (hI.putObj _ hi (by omega) hl rfl) ((World.putObj_heap_other (by omega)).trans hk)⟩
end Go.Proofs.Ytfeohcknopdamaa
/- Layer 10: the iterators down and slices.Backward keep the contract. -/
namespace Go.Proofs.Ytfeohcknopdamaa
open Go.RowKit Go.Shelf
set_option linter.unusedVariables false
attribute [local go_sem] Oper.semAt_some

set_option maxRecDepth 100000 in
theorem down_seq (n s N : Nat) (w : World) (Kp : World → World → Prop) (hN : N ≤ 1000) (hs : w.cell? ⟨s, 0, none⟩ = some (.int .i64 (N : Int))) :
    SeqP n Try.prog 88 #[.pointer (some ⟨s, 0, none⟩)] (fun x : Nat => #[.int .i64 (x : Int)]) (fun pre x => pre.length < N ∧ x = N - pre.length) Kp (fun xs => xs.length = N) w := by
  intro l J W hold hY h0
  have hsl := lt_of_cell hs
  have hc : W.cell? ⟨s, 0, none⟩ = some (.int .i64 (N : Int)) := (World.cell?_of_block (a := ⟨s, 0, none⟩) (hold s hsl)).trans hs
  have HY := Lib.hid hY
  have H0 := Lib.hid h0
  clear hs hold hY h0 hsl w
  show Calls Try.prog 88 #[.func (.yield l) #[] #[], .pointer (some ⟨s, 0, none⟩)] W _
  go_enter Try.func88, Try.ntmps88
  go_wp2
  clear hc
  go_loopw [3] (fun x wr => ∃ (k : Nat) (pre : List Nat), x = .int .i64 (k : Int) ∧ pre.length + k = N ∧ Hid (J pre wr)) (fun x _ => (intOf x).toNat)
  case atStart => exact ⟨N, [], rfl, by simp, H0⟩
  case round =>
    obtain ⟨k, pre, rfl, hk, HJ⟩ := hrel
    obtain ⟨wo, rfl⟩ : ∃ wo : World, wo = wr := ⟨_, rfl⟩
    by_cases hlt : 0 < k
    · have i1 : (k : Int) > 0 := by omega
      obtain ⟨fn, tmps, assign, body, hy, hR5⟩ := HY.out pre k wo ⟨by omega, by omega⟩ HJ.out
      refine (wpIn_wide (n := n + 1)).1 ?_
      gi_wp2
      refine hR5.mono ?_
      rintro e W2 ⟨rfl, hJ2, hk2⟩
      have HJ2 := Lib.hid hJ2
      clear hJ2 hk2 hy hR5
      have v1 : IntKind.i64.wrap ((k : Int) - 1) = (k : Int) - 1 := IntWalk.i64_in _ (by omega)
      gi_wp2
      exact ⟨⟨k - 1, pre ++ [k], by rw [show ((k - 1 : Nat) : Int) = (k : Int) - 1 by omega], by rw [List.length_append, List.length_singleton]; omega, HJ2⟩, by simp [intOf]; omega⟩
    · have hk0 : k = 0 := by omega
      subst hk0
      go_wp2
      go_end0
      exact ⟨⟨_, rfl⟩, pre, by omega, HJ.out⟩
set_option maxRecDepth 100000 in
/-- slices.Backward over a slice in a box: (index, element), the last first. -/
theorem back_seq (n s N c : Nat) (zs : List Int) (A : Option Addr) (w : World) (Rd : Nat → Prop) (hsl : Sl w A N c zs) (hs : w.cell? ⟨s, 0, none⟩ = some (.slice A N c)) (hrs : Rd s) (hra : ∀ a, A = some a → 0 < N → Rd a.block) :
    SeqP n Try.prog 94 #[.pointer (some ⟨s, 0, none⟩)] (fun x : Nat => #[.int .i64 (x : Int), .int .i64 (zs[x]?.getD 0)]) (fun pre x => pre.length < N ∧ x = N - 1 - pre.length)
      (fun W W' => ∀ k, Rd k → W'.heap[k]? = W.heap[k]?) (fun xs => xs.length = N) w := by
  intro l J W hold hY h0
  have hsl1 := lt_of_cell hs
  have hbig := hsl.big
  have hc : W.cell? ⟨s, 0, none⟩ = some (.slice A N c) := (World.cell?_of_block (a := ⟨s, 0, none⟩) (hold s hsl1)).trans hs
  have HSL : Hid (∀ k, k < N → ∃ b off, A = some ⟨b, off, none⟩ ∧ Rd b ∧ W.cell? ⟨b, off + k, none⟩ = some (.int .i64 (zs[k]?.getD 0))) := fun k hk => by
    obtain ⟨b, off, e, h1⟩ := hsl.at_ hk
    refine ⟨b, off, e, hra _ e (by omega), ?_⟩
    exact (World.cell?_of_block (a := ⟨b, off + k, none⟩) (hold b (lt_of_cell h1))).trans h1
  have HC := Lib.hid hc
  have HRS := Lib.hid hrs
  have HY := Lib.hid hY
  have H0 := Lib.hid h0
  clear hs hold hY h0 hsl1 hsl hra hrs w
  show Calls Try.prog 94 #[.func (.yield l) #[] #[], .pointer (some ⟨s, 0, none⟩)] W _
  have v0 : IntKind.i64.wrap ((N : Int) - 1) = (N : Int) - 1 := IntWalk.i64_in _ (by omega)
  go_enter Try.func94, Try.ntmps94
  go_wp2
  clear hc v0
  go_loopw [3] (fun x wr => ∃ (k : Nat) (pre : List Nat), x = .int .i64 ((k : Int) - 1) ∧ pre.length + k = N ∧ Hid (J pre wr) ∧ Hid (∀ b, Rd b → wr.heap[b]? = W.heap[b]?)) (fun x _ => (intOf x + 1).toNat)
  case atStart => exact ⟨N, [], rfl, by simp, H0, fun _ _ => rfl⟩
  case round =>
    obtain ⟨k, pre, rfl, hk, HJ, HK⟩ := hrel
    obtain ⟨wo, rfl⟩ : ∃ wo : World, wo = wr := ⟨_, rfl⟩
    by_cases hlt : 0 < k
    · obtain ⟨m, rfl⟩ : ∃ m, k = m + 1 := ⟨k - 1, by omega⟩
      rw [show ((m + 1 : Nat) : Int) - 1 = (m : Int) by omega]
      have i1 : (m : Int) ≥ 0 := by omega
      have i2 : (m : Int) < (N : Int) := by omega
      obtain ⟨b, off, rfl, hrb, hcell⟩ := HSL.out m (by omega)
      have hcell2 : wo.cell? ⟨b, off + m, none⟩ = some (.int .i64 (zs[m]?.getD 0)) := (World.cell?_of_block (a := ⟨b, off + m, none⟩) (HK.out b hrb)).trans hcell
      have hc2 : wo.cell? ⟨s, 0, none⟩ = some (.slice (some ⟨b, off, none⟩) N c) := (World.cell?_of_block (a := ⟨s, 0, none⟩) (HK.out s HRS.out)).trans HC.out
      clear hcell hrb
      obtain ⟨fn, tmps, assign, body, hy, hR5⟩ := HY.out pre m wo ⟨by omega, by omega⟩ HJ.out
      refine (wpIn_wide (n := n + 1)).1 ?_
      gi_wp2
      refine hR5.mono ?_
      rintro e W2 ⟨rfl, hJ2, hk2⟩
      have HJ2 := Lib.hid hJ2
      have HK2 := Lib.hid hk2
      clear hJ2 hk2 hy hR5
      have v1 : IntKind.i64.wrap ((m : Int) - 1) = (m : Int) - 1 := IntWalk.i64_in _ (by omega)
      gi_wp2
      exact ⟨⟨m, pre ++ [m], rfl, by rw [List.length_append, List.length_singleton]; omega, HJ2, fun b hb => (HK2.out b hb).trans (HK.out b hb)⟩, by simp [intOf]⟩
    · have hk0 : k = 0 := by omega
      subst hk0
      go_wp2
      go_end0
      exact ⟨⟨_, rfl⟩, pre, by omega, HJ.out⟩
/-- The caller of down: k numbers are left. -/
theorem down_law {n : Nat} {g : Operand} {p : Tmp} {assign body : Code} {Q : Exit → Act → World → Prop} {a : Act} {w : World} (s N : Nat) (hN : N ≤ 1000) (hg : a.eval g = .func (.func 88) #[] #[.pointer (some ⟨s, 0, none⟩)]) (hs : w.cell? ⟨s, 0, none⟩ = some (.int .i64 (N : Int)))
    (I : Nat → World → Prop) (hI : OwnFrom w.heap.size I) (h0 : I N w) (a₁ : Nat → Act)
    (hassign : ∀ (l : Nat) (x : Nat) (W : World) (K : Act → World → Prop), K (a₁ x) W →
      assign.wpIn (Fence.wide.inRound l) n Try.prog (Exit.then K (fun _ _ _ => False)) { tmps := a.tmps.setIfInBounds p (.int .i64 (x : Int)), defers := [] } W)
    (hbody : ∀ (l : Nat) (k : Nat) (W : World), k < N → I (k + 1) W → body.wpIn (Fence.wide.inRound l) n Try.prog (fun e _ W' => e = .normal ∧ KeepsOthers W W' ∧ I k W') (a₁ (k + 1)) W)
    (hdone : ∀ (D : Nat) (W : World), w.heap.size ≤ D → I 0 W → W.heap[D]? = some (.deferred (some [])) → Q .normal { a with defers := { target := .collected D, args := #[] } :: a.defers } W) :
    (Code.rangeFunc g #[p] assign body).wpIn Fence.wide (n + 1) Try.prog Q a w := by
  refine rangeP_law (Rd := fun _ => False) hg (enters_of Try.func88 (by kernel_rfl) rfl) (down_seq n s N w _ hN hs) (fun _ => rfl) (fun _ h => h.elim)
    (fun pre W => I (N - pre.length) W) (fun st A B row hs hg hr => hI _ A B row hs hg hr) (by simpa using h0) a₁ ?_ ?_ ?_
  · intro l x W K hK
    simpa using hassign l x W K hK
  · rintro l pre x W ⟨hp, rfl⟩ hi
    have e : N - pre.length = (N - pre.length - 1) + 1 := by omega
    have h := hbody l (N - pre.length - 1) W (by omega) (by rw [← e]; exact hi)
    rw [← e] at h
    refine wpIn_mono h ?_
    rintro ex a' W' ⟨rfl, h1, h2⟩
    refine ⟨h1, fun _ h => h.elim, ?_⟩
    show I (N - (pre ++ [N - pre.length]).length) W'
    rw [List.length_append, List.length_singleton, Nat.sub_add_eq]
    exact h2
  · intro D xs W hD hS hi hd
    rw [show N - xs.length = 0 by rw [hS]; omega] at hi
    exact hdone D W hD hi hd
end Go.Proofs.Ytfeohcknopdamaa
