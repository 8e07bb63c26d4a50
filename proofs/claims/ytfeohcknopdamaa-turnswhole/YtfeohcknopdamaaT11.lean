import Derived.Test.YtfeohcknopdamaaT04
/- Layer 10: factorial. -/
namespace Go.Proofs.Ytfeohcknopdamaa
open Go.RowKit Go.Shelf
set_option linter.unusedVariables false
attribute [local go_sem] Oper.semAt_some

def fac : Nat → Nat
  | 0 => 1
  | n + 1 => (n + 1) * fac n
theorem fac_pos : ∀ n, 1 ≤ fac n
  | 0 => Nat.le_refl _
  | n + 1 => by rw [fac]; exact Nat.mul_pos (Nat.succ_pos _) (fac_pos n)
theorem fac_mono : ∀ {m n : Nat}, m ≤ n → fac m ≤ fac n := fun {m n} h => by
  obtain ⟨d, rfl⟩ := Nat.exists_eq_add_of_le h
  clear h
  induction d with
  | zero => exact Nat.le_refl _
  | succ d ih =>
    refine Nat.le_trans ih ?_
    show fac (m + d) ≤ (m + d + 1) * fac (m + d)
    exact Nat.le_mul_of_pos_left _ (Nat.succ_pos _)
theorem fac_le {n : Nat} (h : n ≤ 18) : fac n ≤ 6402373705728000 := by
  have := fac_mono h
  have e : fac 18 = 6402373705728000 := by decide +kernel
  omega
/-- The product so far. -/
structure FacI (w : World) (n x p : Nat) (W : World) : Prop where
  eq : p * fac x = fac n
  size : w.heap.size + 2 ≤ W.heap.size
  below : Below w.heap.size w W
  b0 : Boxed W w.heap.size 3 (.int .i64 (p : Int))
theorem FacI.own {w : World} {n B : Nat} (hB : w.heap.size ≤ B) : OwnFrom B (fun (x : Nat) W => ∃ p, FacI w n x p W) := by
  rintro x W W' row ⟨p, h⟩ hg hr
  have hr' : ∀ r, row = some r → ∃ o : Obj, W.heap[r]? = some o ∧ o.isCells = false := fun r e => (hr r e).2
  exact ⟨p, h.eq, Nat.le_trans h.size hg.size, h.below.grown hg (Nat.le_trans (Nat.le_add_right _ _) h.size) (fun k e => Nat.le_trans hB (hr k e).1), boxed_others h.b0 hg hr'⟩
def facW (w : World) (n : Int) : World := (w.alloc (.cells #[.int .i64 1] 3)).alloc (.cells #[.int .i64 n] 3)
set_option maxRecDepth 100000 in
set_option maxHeartbeats 1600000 in
theorem factorial_any (n : Nat) (w : World) (hn : n ≤ 18) : Calls Try.prog 62 #[.int .i64 (n : Int)] w fun e w' => e = .returned (.int .i64 ((fac n : Nat) : Int)) ∧ Below w.heap.size w w' := by
  obtain ⟨R, hR⟩ : ∃ R : Ending → World → Prop, R = fun e w' => e = .returned (.int .i64 ((fac n : Nat) : Int)) ∧ Below w.heap.size w w' := ⟨_, rfl⟩
  rw [← hR]
  have HRR := Lib.hid hR
  clear hR
  refine (callsIn_wide (n := 9)).1 ?_
  refine callsIn_of_wp_marks Try.func62 rfl trivial ?_ rfl
  simp only [Try.ntmps62, List.size_toArray, List.length_cons, List.length_nil, Nat.reduceAdd, Nat.reduceSub, Array.replicate_succ, Array.replicate_zero, List.push_toArray, List.append_toArray, List.nil_append, List.cons_append]
  gi_wp2_with (refine ⟨trivial, ?_⟩; gi_at_call 76; refine (callsIn_wide.2 (down_any _ _)).mono ?_; rintro e w' ⟨rfl, rfl⟩)
  have z0 : (facW w n).heap.size = w.heap.size + 2 := by unfold facW; simp
  have hb0 : Below w.heap.size w (facW w n) := ((Below.refl _ w).alloc (Nat.le_refl _) _).alloc (by simp) _
  have q0 : Boxed (facW w n) w.heap.size 3 (.int .i64 1) := (Boxed.new w _ _).alloc _
  have q1 : Boxed (facW w n) (w.heap.size + 1) 3 (.int .i64 (n : Int)) := by
    have := Boxed.new (w.alloc (.cells #[.int .i64 1] 3)) 3 (.int .i64 (n : Int))
    rwa [World.size_alloc] at this
  rw [show (w.alloc (.cells #[.int .i64 1] 3)).alloc (.cells #[.int .i64 (n : Int)] 3) = facW w n from rfl]
  generalize facW w n = w0 at z0 hb0 q0 q1 ⊢
  refine down_law (n := 8) (w.heap.size + 1) n (by omega) (by rfl) q1.cell (fun x W => ∃ p, FacI w n x p W) (FacI.own (by omega)) ⟨1, by omega, by omega, hb0, q0⟩ ?a1 ?assign ?body ?done
  case assign =>
    intro l x W K hK
    gi_wp2
    exact hK
  case body =>
    clear q0 q1 hb0 HRR
    rintro l k W hk ⟨p, hi⟩
    have HI := Lib.hid hi
    have c0 := hi.b0.cell
    have f0 := hi.b0.frozen
    have he := hi.eq
    have h1 := fac_le (n := n) hn
    have h2 : p * (k + 1) ≤ fac n := by
      rw [← he, fac]
      exact Nat.mul_le_mul_left p (Nat.le_mul_of_pos_right _ (fac_pos k))
    have hb := Nat.le_trans h2 h1
    clear he h1 h2 hi
    have hm : (p : Int) * ((k : Int) + 1) = ((p * (k + 1) : Nat) : Int) := by push_cast; rfl
    have v1 : IntKind.i64.wrap ((p : Int) * ((k : Int) + 1)) = (p : Int) * ((k : Int) + 1) := IntWalk.i64_in _ (by rw [hm]; omega)
    have HM := Lib.hid hm
    clear hm hb
    gi_wp2
    have hi := HI.out
    refine ⟨KeepsOthers.setCell _ _ _, p * (k + 1), ?_, Nat.le_trans hi.size (KeepsWalks.setCell W _ _).size, hi.below.setCell (p := ⟨w.heap.size, 0, none⟩) (Nat.le_refl _) _, ?_⟩
    · rw [← hi.eq, fac, Nat.mul_assoc]
    · rw [← HM.out]; exact hi.b0.set _
  case done =>
    clear q0 q1 hb0
    rintro D W hD ⟨p, hi⟩ hd
    have HI := Lib.hid hi
    have c0 := hi.b0.cell
    have HD : Hid (w.heap.size ≤ D) := by rw [Hid]; omega
    have HDD := Lib.hid hd
    have he := hi.eq
    rw [fac, Nat.mul_one] at he
    have HE := Lib.hid he
    clear hi hd he
    gi_wp2
    refine ⟨by simp, .inl ⟨_, _, rfl, run_takeDeferred HDD.out, ?_⟩⟩
    refine ⟨_, results_tmp rfl _ _ _, ?_⟩
    rw [HRR.out]
    exact ⟨by rw [← HE.out]; rfl, HI.out.below.trans (below_putO _ HD.out _)⟩
end Go.Proofs.Ytfeohcknopdamaa
