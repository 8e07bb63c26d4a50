import Derived.Test.YtmbdjjkgjnemiaaT18
import Derived.Test.YtmbdjjkgjnemiaaT12
/- Layer 6: the law's own; the reference's Types, the law's bad; Check on bad arguments. -/
namespace Go.Proofs.Ytmbdjjkgjnemiaa
open Go.RowKit Go.Maps
set_option linter.unusedVariables false

def tyC (zs : List Ty) : List Value := zs.flatMap fun x => [.int .i64 x.k, .int .i64 x.a, .int .i64 x.b]
theorem tyC_len (N : List Ty) : (tyC N).length = N.length * 3 := by
  induction N with
  | nil => rfl
  | cons p ps ih => simp [tyC] at *; omega
theorem tyC_at (N : List Ty) : ∀ (j : Nat) (h : j < N.length), (tyC N)[j * 3]? = some (.int .i64 N[j].k) ∧ (tyC N)[j * 3 + 1]? = some (.int .i64 N[j].a) ∧ (tyC N)[j * 3 + 2]? = some (.int .i64 N[j].b) := by
  induction N with
  | nil => intro j h; simp at h
  | cons p ps ih =>
    intro j h
    have e : tyC (p :: ps) = .int .i64 p.k :: .int .i64 p.a :: .int .i64 p.b :: tyC ps := by simp [tyC]
    cases j with
    | zero => rw [e]; exact ⟨rfl, rfl, rfl⟩
    | succ j =>
      rw [e, show (j + 1) * 3 = j * 3 + 1 + 1 + 1 from by omega]
      simp only [List.getElem?_cons_succ, List.getElem_cons_succ]
      exact ih j (by simpa using h)
theorem tyC_rev {ps : List Ty} {j : Nat} {u : Value} (h : (tyC ps)[j]? = some u) : ∃ i, i < ps.length ∧ ((j = i * 3 ∧ u = .int .i64 (tyAt ps i).k) ∨ (j = i * 3 + 1 ∧ u = .int .i64 (tyAt ps i).a) ∨ (j = i * 3 + 2 ∧ u = .int .i64 (tyAt ps i).b)) := by
  have hj : j < ps.length * 3 := by
    rcases Nat.lt_or_ge j (ps.length * 3) with h' | h'
    · exact h'
    · rw [List.getElem?_eq_none (by rw [tyC_len]; exact h')] at h; cases h
  have hi : j / 3 < ps.length := by omega
  have h8 := tyC_at ps (j / 3) hi
  refine ⟨j / 3, hi, ?_⟩
  unfold tyAt
  rw [List.getElem?_eq_getElem hi]
  have e3 : j % 3 = 0 ∨ j % 3 = 1 ∨ j % 3 = 2 := by omega
  rcases e3 with e | e | e
  · have e2 : j = j / 3 * 3 := by omega
    rw [← e2, h] at h8
    exact .inl ⟨e2, Option.some.inj h8.1⟩
  · have e2 : j = j / 3 * 3 + 1 := by omega
    rw [← e2, h] at h8
    exact .inr (.inl ⟨e2, Option.some.inj h8.2.1⟩)
  · have e2 : j = j / 3 * 3 + 2 := by omega
    rw [← e2, h] at h8
    exact .inr (.inr ⟨e2, Option.some.inj h8.2.2⟩)
/-- The call owns the slice v of nodes of integers. -/
def Ow4 (w : World) (B : Nat) (v : Value) (N : List Ty) : Prop := w.ownsRow B 59 3 v N.length (tyC N)
theorem Ow4.nil (w : World) (B : Nat) : Ow4 w B (.slice none 0 0) [] := World.ownsRow_nil _ _ _ _
theorem Ow4.tl {w : World} {B n : Nat} {v : Value} {N : List Ty} (h : Ow4 w B v N) (hn : N.length = n) (hb : n ≤ 1099511627776) : ∃ A c, v = .slice A n c ∧ Tl w A n c N := by
  subst hn
  rcases h.2 with ⟨rfl, h1⟩ | ⟨g, cap, cur, h1, h2, h3, h4, h5, h6, h7⟩
  · refine ⟨none, 0, by rw [h1], rfl, by omega, by omega, fun _ => ⟨h1, rfl⟩, fun k hk => absurd hk (by omega)⟩
  · refine ⟨_, cap, h1, rfl, h4, by omega, fun e => (by cases e), fun j hj => ?_⟩
    have h8 := tyC_at N j hj
    have hc : ∀ i u, (tyC N)[i]? = some u → w.cell? ⟨g, i, none⟩ = some u := fun i u hu => by
      rw [cell_of_row w g _ _ _ _ h3]
      rw [← h7, List.getElem?_take] at hu
      split at hu
      · rw [← Array.getElem?_toList]; exact hu
      · cases hu
    unfold tyAt
    rw [List.getElem?_eq_getElem hj]
    exact ⟨g, 0, rfl, (Array.getElem?_eq_some_iff.1 h3).1, by rw [Nat.zero_add]; exact hc _ _ h8.1, by rw [Nat.zero_add]; exact hc _ _ h8.2.1, by rw [Nat.zero_add]; exact hc _ _ h8.2.2⟩
theorem Tl.take {w : World} {A : Option Addr} {n c k : Nat} {ps : List Ty} (h : Tl w A n c ps) (hk : k ≤ n) : Tl w A k c (ps.take k) :=
  ⟨by rw [List.length_take, h.len]; omega, by have := h.cap; omega, by have := h.big; omega, fun e => by have := h.nil e; omega, fun j hj => by
    obtain ⟨b, off, e, hb, h1, h2, h3⟩ := h.rows j (by omega)
    have : tyAt (ps.take k) j = tyAt ps j := by unfold tyAt; rw [List.getElem?_take, if_pos hj]
    rw [this]
    exact ⟨b, off, e, hb, h1, h2, h3⟩⟩
theorem appt_law {P : Program} (w : World) {ops : Array Oper} {rest : List Oper} {o : Oper} {a : Act} {Q : Exit → Act → World → Prop} (hgd : o.guard = none) (s x : Operand) (t : TypeId)
    (ho : o.op = .call { callee := .builtin .append, args := #[s, x], argTypes := #[t, t] })
    (B : Nat) (i : TypeInfo) (ht : P.underlying t = some (.slice 59)) (hI : P.info? 59 = some i ∧ i.zero = some (.agg #[.int .i64 0, .int .i64 0, .int .i64 0]) ∧ i.size = 3 ∧ i.bytes = 24)
    (v : Value) (zs : List Ty) (hs : a.eval s = v) (A : Option Addr) (m c : Nat) (ps : List Ty) (hx : a.eval x = .slice A m c) (hp : Tl w A m c ps) (hown : Ow4 w B v zs) (hn : zs.length + m ≤ 1099511627776) (hB : B ≤ w.heap.size)
    (h : ∀ v' w', Ow4 w' B v' (zs ++ ps) → w.grownBy w' v.ownBlock → wpList P ops Q rest (a.put o.dst v') w') :
    wpList P ops Q (o :: rest) a w := by
  obtain ⟨h1, h2, h3, h4⟩ := hI
  rcases A with _ | ad
  · obtain ⟨rfl, rfl⟩ := hp.nil rfl
    have hps : ps = [] := List.eq_nil_of_length_eq_zero hp.len
    subst hps
    exact wpList_append_own_none hgd s x t ho B 59 i 3 ht h1 v zs.length (tyC zs) hs hown hx (h v w (by simpa using hown) (World.grownBy.refl w _))
  · refine wpList_append_own_at w hgd s x t ho B 59 i _ 3 24 ht h1 h2 h3 h4 rfl (by decide) v zs.length (tyC zs) hs hown ad m c (tyC ps) hx (by rw [tyC_len, hp.len]) ?_ ?_ (by unfold maxLen; omega) (by omega) hB ?_
    · intro j u hu
      obtain ⟨k, hk, he⟩ := tyC_rev hu
      obtain ⟨b, off, e', _, c1, c2, c3⟩ := hp.rows k (by rw [← hp.len]; exact hk)
      injection e' with e'
      subst e'
      have ea : ∀ j, (⟨b, off, none⟩ : Addr).add j = ⟨b, off + j, none⟩ := fun j => by unfold Addr.add; split <;> simp_all
      rcases he with ⟨rfl, rfl⟩ | ⟨rfl, rfl⟩ | ⟨rfl, rfl⟩
      · rw [ea]; exact c1
      · rw [ea]; exact c2
      · rw [ea]; exact c3
    · intro u hu
      obtain ⟨j, hj⟩ := List.mem_iff_getElem?.1 hu
      obtain ⟨k, hk, ⟨_, rfl⟩ | ⟨_, rfl⟩ | ⟨_, rfl⟩⟩ := tyC_rev hj <;> rfl
    · intro v' w' ho' hg' _ _
      refine h v' w' ?_ hg'
      unfold Ow4
      rw [List.length_append, hp.len, show tyC (zs ++ ps) = tyC zs ++ tyC ps from by simp [tyC]]
      exact ho'
theorem slice_ty (X : Option Addr) (m d : Nat) {k : Nat} (hk : k ≤ m) (hm : m ≤ d) (W : World) : (Instr.slice 22 (.slice X m d) none (some (.int .i64 (k : Int))) none).run Try.prog W = .ok (.slice X k d) W := by
  have ht : Try.prog.underlying 22 = some (.slice (Try.prog.elem 22)) := by kernel_rfl
  have hs : (sizeOf (Try.prog.elem 22)).run Try.prog W = .ok 3 W := by kernel_rfl
  rw [run_slice_h W 22 X m d ht .i64 (k : Int) (by omega) (by omega), hs]
  cases X <;> simp [Result.andThen, sliced, Addr.add]
/-- What own gives: at most 25 nodes. -/
def cutT (zs : List Ty) : List Ty := zs.take (min zs.length 25)
theorem cutT_len (zs : List Ty) : (cutT zs).length = min zs.length 25 := by unfold cutT; rw [List.length_take]; omega
set_option maxRecDepth 100000 in
set_option maxHeartbeats 3200000 in
theorem own_any (zs : List Ty) (A : Option Addr) (m d : Nat) (w : World) (hT : Tl w A m d zs) :
    Calls Try.prog 15 #[.slice A m d] w fun e w' => (∃ Y k c, e = .returned (.slice Y k c) ∧ k ≤ 25 ∧ Tl w' Y k c (cutT zs)) ∧ Below w.heap.size w w' := by
  have hl := hT.len
  have hmd := hT.cap
  have hbig := hT.big
  obtain ⟨k, hk, hkc, hk25, hkm⟩ : ∃ k : Nat, k ≤ m ∧ (if (25 : Int) < (m : Int) then (25 : Int) else (m : Int)) = (k : Int) ∧ k ≤ 25 ∧ k = min m 25 := by
    by_cases h : (25 : Int) < (m : Int)
    · exact ⟨25, by omega, by rw [if_pos h]; rfl, by omega, by omega⟩
    · exact ⟨m, by omega, by rw [if_neg h], by omega, by omega⟩
  have hsl := slice_ty A m d hk hmd w
  have hmin : ∀ W, (Builtin.min_ #[3, 3] 3 #[.int .i64 (m : Int), .int .i64 25]).run Try.prog W = .ok (.int .i64 (k : Int)) W := fun W => by rw [run_min_int2, hkc]
  obtain ⟨ti, hi, hz0, hz1, hz2⟩ := info_parts Try.infoTy
  have HI : Hid (Try.prog.info? 59 = some ti ∧ ti.zero = some (.agg #[.int .i64 0, .int .i64 0, .int .i64 0]) ∧ ti.size = 3 ∧ ti.bytes = 24) := ⟨hi, hz0, hz1, hz2⟩
  have HPK : Hid (Tl w A k d (cutT zs)) := by rw [Hid, cutT, hl, ← hkm]; exact hT.take hk
  have HK : Hid (k ≤ 25) := hk25
  clear hi hz0 hz1 hz2 hkc hT hl hkm hk25 hk
  go_enter Try.func15, Try.ntmps15
  go_wp2_with (at_builtin; go_must (refine appt_law _ rfl (.tmp 4) (.tmp 9) 22 rfl w.heap.size ti Try.underlying22 HI.out _ [] rfl A k d (cutT zs) rfl HPK.out (Ow4.nil _ _) (by have := HK.out; simp; omega) (Nat.le_refl _) ?_); intro v9 W9 hv9 hg9; obtain ⟨Y, c9, rfl, htl⟩ := hv9.tl (n := k) (by rw [List.nil_append]; exact HPK.out.len) (by have := HK.out; omega); have HTL := Lib.hid htl; have HB9 : Hid (Below w.heap.size w W9) := (Below.refl _ w).grown hg9 (Nat.le_refl _) (fun k e => by cases e); clear hv9 hg9 htl)
  go_ret
  exact ⟨⟨Y, k, c9, rfl, HK.out, HTL.out⟩, HB9.out⟩
end Go.Proofs.Ytmbdjjkgjnemiaa
