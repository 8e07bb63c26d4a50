import Derived.Test.YtmbdjjkgjnemiaaT07
import Derived.Deep.DeepMust
import Derived.Test.YtmbdjjkgjnemiaaT06
/- Layer 6: slices of nodes that the call owns; unfold (ints). -/
namespace Go.Proofs.Ytmbdjjkgjnemiaa
open Go.RowKit Go.Maps
set_option linter.unusedVariables false

def ndC (N : List Nd) : List Value := N.flatMap fun x => [.int .i64 (x.k : Int), .int .i64 (x.a : Int), .int .i64 (x.b : Int)]
theorem ndC_len (N : List Nd) : (ndC N).length = N.length * 3 := by
  induction N with
  | nil => rfl
  | cons p ps ih => simp [ndC] at *; omega
theorem ndC_at (N : List Nd) : ∀ (j : Nat) (h : j < N.length), (ndC N)[j * 3]? = some (.int .i64 (N[j].k : Int)) ∧ (ndC N)[j * 3 + 1]? = some (.int .i64 (N[j].a : Int)) ∧ (ndC N)[j * 3 + 2]? = some (.int .i64 (N[j].b : Int)) := by
  induction N with
  | nil => intro j h; simp at h
  | cons p ps ih =>
    intro j h
    have e : ndC (p :: ps) = .int .i64 (p.k : Int) :: .int .i64 (p.a : Int) :: .int .i64 (p.b : Int) :: ndC ps := by simp [ndC]
    cases j with
    | zero => rw [e]; exact ⟨rfl, rfl, rfl⟩
    | succ j =>
      rw [e, show (j + 1) * 3 = j * 3 + 1 + 1 + 1 from by omega]
      simp only [List.getElem?_cons_succ, List.getElem_cons_succ]
      exact ih j (by simpa using h)
/-- The call owns the slice v of nodes. -/
def Ow3 (w : World) (B : Nat) (v : Value) (N : List Nd) : Prop := w.ownsRow B 59 3 v N.length (ndC N)
theorem Ow3.nil (w : World) (B : Nat) : Ow3 w B (.slice none 0 0) [] := World.ownsRow_nil _ _ _ _
theorem Ow3.lt {w : World} {B : Nat} {v : Value} {N : List Nd} (h : Ow3 w B v N) {k : Nat} (hk : v.ownBlock = some k) : B ≤ k ∧ k < w.heap.size := World.ownsRow.lt h k hk
theorem Ow3.same {w w' : World} {B : Nat} {v : Value} {N : List Nd} (h : Ow3 w B v N) (hk : ∀ k, v.ownBlock = some k → w'.heap[k]? = w.heap[k]?) : Ow3 w' B v N := by
  refine ⟨h.1, ?_⟩
  rcases h.2 with h1 | ⟨g, cap, cur, h1, h2, h3, h4⟩
  · exact .inl h1
  · exact .inr ⟨g, cap, cur, h1, h2, (hk g (by rw [h1]; rfl)).trans h3, h4⟩
theorem Ow3.below {w w' : World} {B b : Nat} {v : Value} {N : List Nd} (h : Ow3 w B v N) (hb : Below b w w') (hB : w.heap.size ≤ b) : Ow3 w' B v N := h.same fun k hk => hb.block k (by have := (h.lt hk).2; omega)
theorem Ow3.alloc {w : World} {B : Nat} {v : Value} {N : List Nd} (h : Ow3 w B v N) (o : Obj) : Ow3 (w.alloc o) B v N := World.ownsRow.alloc h o
theorem Ow3.base {w : World} {B B' : Nat} {v : Value} {N : List Nd} (h : Ow3 w B v N) (hB : B' ≤ B) : Ow3 w B' v N := by
  refine ⟨h.1, ?_⟩
  rcases h.2 with h | ⟨g, cap, cur, h1, h2, h3⟩
  · exact .inl h
  · exact .inr ⟨g, cap, cur, h1, by omega, h3⟩
theorem Ow3.form {w : World} {B n : Nat} {v : Value} {N : List Nd} (h : Ow3 w B v N) (hn : N.length = n) (h0 : 0 < n) : ∃ g cap, v = .slice (some ⟨g, 0, none⟩) n cap ∧ n ≤ cap ∧ B ≤ g ∧ g < w.heap.size ∧
    ∀ j, j < n → w.cell? ⟨g, j * 3, none⟩ = some (.int .i64 ((nd N j).k : Int)) ∧ w.cell? ⟨g, j * 3 + 1, none⟩ = some (.int .i64 ((nd N j).a : Int)) ∧ w.cell? ⟨g, j * 3 + 2, none⟩ = some (.int .i64 ((nd N j).b : Int)) := by
  subst hn
  rcases h.2 with ⟨_, h1⟩ | ⟨g, cap, cur, h1, h2, h3, h4, h5, h6, h7⟩
  · omega
  · refine ⟨g, cap, h1, h4, h2, (Array.getElem?_eq_some_iff.1 h3).1, fun j hj => ?_⟩
    have h8 := ndC_at N j hj
    have hc : ∀ i u, (ndC N)[i]? = some u → w.cell? ⟨g, i, none⟩ = some u := fun i u hu => by
      rw [cell_of_row w g _ _ _ _ h3]
      rw [← h7, List.getElem?_take] at hu
      split at hu
      · rw [← Array.getElem?_toList]; exact hu
      · cases hu
    unfold nd
    rw [List.getElem?_eq_getElem hj]
    exact ⟨hc _ _ h8.1, hc _ _ h8.2.1, hc _ _ h8.2.2⟩
/-- As a slice that is read. -/
theorem Ow3.nl {w : World} {B n : Nat} {v : Value} {N : List Nd} (h : Ow3 w B v N) (hn : N.length = n) (h0 : 0 < n) (hb : n ≤ 1099511627776) : ∃ A c, v = .slice A n c ∧ Nl w A n c N := by
  obtain ⟨g, cap, e, hc, _, hg, hcell⟩ := h.form hn h0
  exact ⟨_, cap, e, hn, hc, by omega, fun k hk => ⟨g, 0, rfl, hg, by rw [Nat.zero_add]; exact hcell k hk⟩⟩
theorem push3_law {P : Program} (w : World) {ops : Array Oper} {rest : List Oper} {o : Oper} {a : Act} {Q : Exit → Act → World → Prop} (hgd : o.guard = none) (s x : Operand) (t : TypeId)
    (ho : o.op = .call { callee := .builtin .append, args := #[s, x], argTypes := #[t, t] })
    (B : Nat) (i : TypeInfo) (ht : P.underlying t = some (.slice 59)) (hI : P.info? 59 = some i ∧ i.zero = some (.agg #[.int .i64 0, .int .i64 0, .int .i64 0]) ∧ i.size = 3 ∧ i.bytes = 24)
    (v : Value) (N : List Nd) (p q r : Nat) (hs : a.eval s = v) (hx : a.eval x = .slice (some ⟨w.heap.size, 0, none⟩) 1 1) (hown : Ow3 w B v N) (hn : N.length ≤ 1099511627776) (hB : B ≤ w.heap.size)
    (h : ∀ v' w', Ow3 w' B v' (N ++ [⟨p, q, r⟩]) → w.grownBy w' v.ownBlock → (v'.ownBlock = v.ownBlock ∨ ∃ g, v'.ownBlock = some g ∧ w.heap.size ≤ g) → wpList P ops Q rest (a.put o.dst v') w') :
    wpList P ops Q (o :: rest) a (w.alloc (.cells #[.int .i64 (p : Int), .int .i64 (q : Int), .int .i64 (r : Int)] 59)) := by
  obtain ⟨h1, h2, h3, h4⟩ := hI
  refine wpList_append_own_at _ hgd s x t ho B 59 i _ 3 24 ht h1 h2 h3 h4 rfl (by decide) v N.length (ndC N) hs (hown.alloc _) ⟨w.heap.size, 0, none⟩ 1 1 [.int .i64 (p : Int), .int .i64 (q : Int), .int .i64 (r : Int)] hx rfl ?_ ?_ (by unfold maxLen; omega) (by omega) (by simp; omega) ?_
  · intro j u hu
    match j, hu with
    | 0, hu =>
      simp at hu; subst hu
      simp [Addr.add]
    | 1, hu =>
      simp at hu; subst hu
      simp [Addr.add]
    | 2, hu =>
      simp at hu; subst hu
      simp [Addr.add]
  · intro u hu
    simp at hu
    rcases hu with rfl | rfl | rfl <;> rfl
  · intro v' w' ho' hg' _ hat
    refine h v' w' ?_ (grown_alloc hg') ?_
    · unfold Ow3
      rw [List.length_append, show ndC (N ++ [⟨p, q, r⟩]) = ndC N ++ [.int .i64 (p : Int), .int .i64 (q : Int), .int .i64 (r : Int)] from by simp [ndC]]
      exact ho'
    · rcases hat with e1 | e1
      · exact .inl e1
      · exact .inr ⟨_, e1, by simp⟩
theorem push3_at {P : Program} (w : World) {ops : Array Oper} {rest : List Oper} {o : Oper} {a : Act} {Q : Exit → Act → World → Prop} (hgd : o.guard = none) (s x : Operand) (t : TypeId)
    (ho : o.op = .call { callee := .builtin .append, args := #[s, x], argTypes := #[t, t] })
    (B : Nat) (i : TypeInfo) (ht : P.underlying t = some (.slice 59)) (hI : P.info? 59 = some i ∧ i.zero = some (.agg #[.int .i64 0, .int .i64 0, .int .i64 0]) ∧ i.size = 3 ∧ i.bytes = 24)
    (v : Value) (N : List Nd) (p q r gb : Nat) (hs : a.eval s = v) (hx : a.eval x = .slice (some ⟨gb, 0, none⟩) 1 1) (hgb : w.heap.size = gb) (hown : Ow3 w B v N) (hn : N.length ≤ 1099511627776) (hB : B ≤ w.heap.size)
    (h : ∀ v' w', Ow3 w' B v' (N ++ [⟨p, q, r⟩]) → w.grownBy w' v.ownBlock → (v'.ownBlock = v.ownBlock ∨ ∃ g, v'.ownBlock = some g ∧ w.heap.size ≤ g) → wpList P ops Q rest (a.put o.dst v') w') :
    wpList P ops Q (o :: rest) a (w.alloc (.cells #[.int .i64 (p : Int), .int .i64 (q : Int), .int .i64 (r : Int)] 59)) := by
  subst hgb
  exact push3_law w hgd s x t ho B i ht hI v N p q r hs hx hown hn hB h
theorem Try.infoTy : (Try.prog.info? 59).map (fun i => (i.zero, i.size, i.bytes)) = some (some (.agg #[.int .i64 0, .int .i64 0, .int .i64 0]), 3, 24) := by kernel_rfl
section
variable {S : Type} [DecidableEq S]
/-- Between two rounds of unfold. -/
structure UfS {kt : TypeId} (E : KeyEnc kt S) (O : OwnKit S) (t5 t6 : TypeId) (B s5 s6 bm : Nat) (w : World) (sc : S → List S) (mk : S → List Nat → Nd) (k0 : S) (m : Nat) (v u : Value) (W : World) : Prop where
  pl : PlS E O t5 t6 B s5 s6 bm (rch sc k0 m) v W
  nd : Ow3 W B u (outL sc mk (rch sc k0 m) m)
  ap : ∀ k, u.ownBlock = some k → k ≠ s5 ∧ k ≠ s6 ∧ k ≠ bm ∧ v.ownBlock ≠ some k
  bl : Below B w W
  le : m ≤ (rch sc k0 m).length
variable {kt : TypeId} {E : KeyEnc kt S} {O : OwnKit S} {t5 t6 : TypeId} {B s5 s6 bm : Nat} {w : World} {sc : S → List S} {mk : S → List Nat → Nd} {k0 : S} {m : Nat} {v u : Value} {W : World}
/-- What stands of the nodes' slice after nodeOf. -/
theorem UfS.call (h : UfS E O t5 t6 B s5 s6 bm w sc mk k0 m v u W) {L' : List S} {v' : Value} {W' : World} (q : PlQ E O t5 t6 B s5 s6 bm (rch sc k0 m) v W L' v' W') : Ow3 W' B u (outL sc mk (rch sc k0 m) m) ∧ ∀ k, u.ownBlock = some k → v'.ownBlock ≠ some k := by
  refine ⟨h.nd.same fun k hk => q.t.block k (h.nd.lt hk).2 fun hT => ?_, fun k hk e => ?_⟩
  · obtain ⟨_, h2, h3, h4⟩ := h.ap k hk
    rcases hT with e | e | e
    · exact h2 e
    · exact h3 e
    · exact h4 e
  · rcases q.g with e' | ⟨g, e', hg⟩
    · rw [e'] at e
      exact (h.ap k hk).2.2.2 e
    · rw [e'] at e
      have e := Option.some.inj e
      have := (h.nd.lt hk).2
      omega
theorem UfS.next (h : UfS E O t5 t6 B s5 s6 bm w sc mk k0 m v u W) (hB : B ≤ W.heap.size) {x : S} (hx : (rch sc k0 m)[m]? = some x) {v' u' : Value} {W' W1 W2 : World} (q : PlQ E O t5 t6 B s5 s6 bm (rch sc k0 m) v W (addAll (rch sc k0 m) (sc x)) v' W')
    (hb1 : Below W'.heap.size W' W1) (ho : Ow3 W2 B u' (outL sc mk (rch sc k0 m) m ++ [mk x ((sc x).map (addAll (rch sc k0 m) (sc x)).idxOf)])) (hg : World.grownBy W1 W2 u.ownBlock) (ha : Grw u u' W1.heap.size) :
    UfS E O t5 t6 B s5 s6 bm w sc mk k0 (m + 1) v' u' W2 := by
  have hr : rch sc k0 (m + 1) = addAll (rch sc k0 m) (sc x) := rch_at sc k0 hx
  have hc := h.call q
  have hl := q.s.lt
  have hz1 := hb1.size
  have hap : ∀ k, (k = s5 ∨ k = s6 ∨ k = bm ∨ v'.ownBlock = some k) → k < W'.heap.size ∧ some k ≠ u.ownBlock := fun k hk => by
    rcases hk with rfl | rfl | rfl | e
    · exact ⟨hl.1, fun e => (h.ap _ e.symm).1 rfl⟩
    · exact ⟨hl.2.1, fun e => (h.ap _ e.symm).2.1 rfl⟩
    · exact ⟨hl.2.2, fun e => (h.ap _ e.symm).2.2.1 rfl⟩
    · exact ⟨(O.lt q.s.ow e).2, fun e' => hc.2 k e'.symm e⟩
  have pl2 : PlS E O t5 t6 B s5 s6 bm (addAll (rch sc k0 m) (sc x)) v' W2 := q.s.keep fun k hk => by
    obtain ⟨h1, h2⟩ := hap k hk
    exact (hg.block k (by omega) h2).trans (hb1.block k h1)
  have hlo : Below B W W' := PlQ.lo h.pl q hB
  have hm : m < (rch sc k0 m).length := (List.getElem?_eq_some_iff.1 hx).1
  refine ⟨by rw [hr]; exact pl2, ?_, ?_, ?_, ?_⟩
  · rw [hr]
    obtain ⟨X, hX⟩ := addAll_pre (sc x) (rch sc k0 m)
    have hx' : (addAll (rch sc k0 m) (sc x))[m]? = some x := by rw [hX, List.getElem?_append_left hm]; exact hx
    rw [outL_succ sc mk hx']
    have : outL sc mk (addAll (rch sc k0 m) (sc x)) m = outL sc mk (rch sc k0 m) m := by
      rw [hX]
      exact outL_append sc mk (by omega) fun i q hi hq => rch_parts sc k0 hi hq
    rw [this]
    exact ho
  · intro k hk
    rcases ha with e | ⟨g, e, hge⟩
    · rw [e] at hk
      obtain ⟨h1, h2, h3, _⟩ := h.ap k hk
      exact ⟨h1, h2, h3, hc.2 k hk⟩
    · rw [e] at hk
      have hk := Option.some.inj hk
      refine ⟨by omega, by omega, by omega, fun e' => ?_⟩
      have := (O.lt q.s.ow e').2
      omega
  · have hub : ∀ k, u.ownBlock = some k → B ≤ k := fun k hk => (h.nd.lt hk).1
    refine h.bl.trans (hlo.trans ((hb1.mono (by have := hlo.size; omega)).trans ⟨hg.os, hg.tape, hg.output, hg.size, fun k hk => hg.block k (by have := hlo.size; omega) (fun e => by have := hub k e.symm; omega)⟩))
  · rw [hr]
    obtain ⟨X, hX⟩ := addAll_pre (sc x) (rch sc k0 m)
    rw [hX, List.length_append]
    omega
end
end Go.Proofs.Ytmbdjjkgjnemiaa
/- Layer 6: unfold at ints, canonical. -/
namespace Go.Proofs.Ytmbdjjkgjnemiaa
open Go.RowKit Go.Maps
set_option linter.unusedVariables false

theorem rchC_lt {N : List Nd} {n : Nat} (hn : N.length = n) (hok : OkN N) {cl : Nat → Nat} (hcl : ∀ j, j < n → cl j < n) {k0 : Nat} (h0 : k0 < n) (m : Nat) : ∀ x ∈ rch (scC N cl) k0 m, x < n :=
  rch_all (scC N cl) k0 (P := (· < n)) h0 (fun q hq x hx => by
    unfold scC at hx
    split at hx
    · rcases List.mem_cons.1 hx with e | hx
      · rw [e]; exact hcl _ (by rw [← hn]; exact hok.a q (by rw [hn]; exact hq))
      · rw [List.mem_singleton.1 hx]; exact hcl _ (by rw [← hn]; exact hok.b q (by rw [hn]; exact hq))
    · cases hx) m
theorem rchC_len {N : List Nd} {n : Nat} (hn : N.length = n) (hok : OkN N) {cl : Nat → Nat} (hcl : ∀ j, j < n → cl j < n) {k0 : Nat} (h0 : k0 < n) (m : Nat) : (rch (scC N cl) k0 m).length ≤ n := by
  have := nodup_into' (m := List.range n) (rch_nodup (scC N cl) k0 m) fun x hx => List.mem_range.2 (rchC_lt hn hok hcl h0 m x hx)
  rwa [List.length_range] at this
set_option maxRecDepth 100000 in
set_option maxHeartbeats 6400000 in
theorem unfoldI_any (N : List Nd) (A : Option Addr) (n c sT sS : Nat) (C : Option Addr) (d : Nat) (cl : Nat → Nat) (k0 : Nat) (w : World) (hN : Nl w A n c N) (hok : OkN N) (hC : Sl w C n d (tabL n cl))
    (hT : w.cell? ⟨sT, 0, none⟩ = some (.slice A n c)) (hS : w.cell? ⟨sS, 0, none⟩ = some (.slice C n d)) (hk0 : k0 < n) (hn : n ≤ 100000) (hcl : ∀ j, j < n → cl j < n) :
    Calls Try.prog 61 #[.int .i64 (k0 : Int), .func (.func 62) #[] #[.pointer (some ⟨sT, 0, none⟩), .pointer (some ⟨sS, 0, none⟩)]] w fun e w' =>
      (∃ u out, e = .returned u ∧ Unf (scC N cl) k0 (mkC N) out ∧ Ow3 w' w.heap.size u out) ∧ Below w.heap.size w w' := by
  have hmm := @run_makeMap Try.prog
  have HL : Hid (N.length = n) := hN.len
  have HLEN : Hid (∀ m, (rch (scC N cl) k0 m).length ≤ n) := fun m => rchC_len hN.len hok hcl hk0 m
  have HLT : Hid (∀ m x, x ∈ rch (scC N cl) k0 m → x < n) := fun m x hx => rchC_lt hN.len hok hcl hk0 m x hx
  obtain ⟨i0, hi, hz0, hz1, hz2⟩ := info_parts Try.infoTy
  have HI : Hid (Try.prog.info? 59 = some i0 ∧ i0.zero = some (.agg #[.int .i64 0, .int .i64 0, .int .i64 0]) ∧ i0.size = 3 ∧ i0.bytes = 24) := ⟨hi, hz0, hz1, hz2⟩
  have HNO : Hid (∀ s5 s6 bm L v i W, Below w.heap.size w W → PlS encNat ownN 106 69 w.heap.size s5 s6 bm L v W → i < n → L.length ≤ 100000 → Calls Try.prog 62 #[.int .i64 (i : Int), .func (.func 67) #[] #[.pointer (some ⟨s5, 0, none⟩), .pointer (some ⟨s6, 0, none⟩)], .pointer (some ⟨sT, 0, none⟩), .pointer (some ⟨sS, 0, none⟩)] W fun e w' =>
      NodeQ encNat ownN 106 69 w.heap.size s5 s6 bm L v W (scC N cl) (mkC N) i e w') := fun s5 s6 bm L v i W hW hp hi hL => canon1_any N A n c sT sS C d cl w.heap.size s5 s6 bm L v i w W rfl hN hok hC hT hS hW hp hi (by omega) hcl hL
  have hkm : KM encNat (w.alloc (.map #[] 0)) 3 w.heap.size 0 (fun _ => none) := KM.made encNat w 3
  obtain ⟨W2, hup, hk2, hg2⟩ := run_storeK (w.alloc (.map #[] 0)) hkm 106 Try.underlying106 (by omega) (k := k0) (show k0 ≤ _ by omega) (.int .i64 0) (.int .i64 0) (plainElem_int Try.underlying3 (by decide))
  have hup : (Instr.mapUpdate 106 (.map (some w.heap.size)) (.int .i64 (k0 : Int)) (.int .i64 0)).run Try.prog (w.alloc (.map #[] 0)) = .ok () W2 := hup
  have hzW : (w.alloc (.map #[] 0)).heap.size = w.heap.size + 1 := by simp
  have hzW2 := hg2.size
  obtain ⟨W3, hW3⟩ : ∃ W, W = ((W2.alloc (.cells #[.map (some w.heap.size)] 106)).alloc (.cells #[.int .i64 (k0 : Int)] 3)).alloc (.cells #[.slice (some ⟨W2.heap.size + 1, 0, none⟩) 1 1] 69) := ⟨_, rfl⟩
  have hb3 : Below W2.heap.size W2 W3 := by rw [hW3]; exact (((Below.refl _ _).alloc (Nat.le_refl _) _).alloc (by simp) _).alloc (by simp; omega) _
  have hz3 : W3.heap.size = W2.heap.size + 3 := by rw [hW3]; simp
  have hbw : Below w.heap.size w W3 := (((Below.refl _ w).alloc (Nat.le_refl _) _).trans ⟨hg2.os, hg2.tape, hg2.output, hg2.size, fun k hk => hg2.block k (by omega) (by simp; omega)⟩).trans (hb3.mono (by omega))
  have HU0 : Hid (UfS encNat ownN 106 69 w.heap.size W2.heap.size (W2.heap.size + 2) w.heap.size w (scC N cl) (mkC N) k0 0 (.slice (some ⟨W2.heap.size + 1, 0, none⟩) 1 1) (.slice none 0 0) W3) := by
    refine ⟨⟨?_, ?_, ?_, ?_, ⟨by omega, by omega, by omega⟩, ⟨by omega, by omega, Nat.le_refl _⟩, fun k hk => ?_⟩, Ow3.nil _ _, fun k hk => (by cases hk), hbw, Nat.zero_le _⟩
    · rw [hW3]
      show (((W2.heap.push _).push _).push _)[W2.heap.size]? = _
      rw [Array.getElem?_push, if_neg (by simp; omega), Array.getElem?_push, if_neg (by simp), Array.getElem?_push, if_pos (by simp)]
    · rw [hW3]
      show (((W2.heap.push _).push _).push _)[W2.heap.size + 2]? = _
      rw [Array.getElem?_push, if_pos (by simp)]
    · have e : putK (fun _ => none) k0 (.int .i64 0) = idxM ([k0] : List Nat) := by
        funext y
        unfold putK idxM
        by_cases hy : y = k0
        · subst hy; rw [if_pos rfl, if_pos (by simp)]; simp
        · rw [if_neg hy, if_neg (by simpa using hy)]
      have hkk : KM encNat W2 3 w.heap.size 1 (idxM ([k0] : List Nat)) := by rw [← e]; exact hk2
      exact hkk.below hb3 hkk.lt
    · show Ow W3 w.heap.size 3 _ (natI [k0])
      rw [hW3]
      have h1 := Ow.one (W2.alloc (.cells #[.map (some w.heap.size)] 106)) w.heap.size 3 (k0 : Int) (by simp; omega)
      rw [show (W2.alloc (.cells #[.map (some w.heap.size)] 106)).heap.size = W2.heap.size + 1 from by simp] at h1
      exact h1.alloc _
    · have hk := Option.some.inj hk
      have hk : W2.heap.size + 1 = k := hk
      exact ⟨by omega, by omega, by omega⟩
  have HW3 := Lib.hid hW3
  have HZ : Hid (w.heap.size + 1 ≤ W2.heap.size) := by rw [Hid]; omega
  clear hN hok hC hT hS hcl hkm hk2 hg2 hzW hzW2 hb3 hz3 hbw hW3 hi hz0 hz1 hz2
  go_enter Try.func61, Try.ntmps61
  go_wp2
  rw [← HW3.out]
  generalize W2.heap.size = g at *
  clear HW3 hup
  go_loopw [8, 9] (fun u i w' => ∃ (m : Nat) (v : Value), i = .int .i64 (m : Int) ∧ Hid (UfS encNat ownN 106 69 w.heap.size g (g + 2) w.heap.size w (scC N cl) (mkC N) k0 m v u w')) (fun _ i _ => n + 1 - (intOf i).toNat)
  case atStart => exact ⟨0, _, by go_num, HU0.out⟩
  case round =>
    obtain ⟨m, v, rfl, HU⟩ := hrel
    obtain ⟨wo, rfl⟩ : ∃ wo : World, wo = wr := ⟨_, rfl⟩
    clear HU0
    obtain ⟨L, hL⟩ : ∃ L, L = rch (scC N cl) k0 m := ⟨_, rfl⟩
    have hpl := HU.out.pl
    rw [← hL] at hpl
    have hLn : L.length ≤ n := by rw [hL]; exact HLEN.out m
    have hmL : m ≤ L.length := by rw [hL]; exact HU.out.le
    have hpos : 0 < L.length := by rw [hL]; exact List.length_pos_of_mem (rch_start _ _ m)
    have hBw : w.heap.size ≤ wo.heap.size := HU.out.bl.size
    have c6 := cell_in hpl.c6 (i := 0) rfl
    have how : Ow wo w.heap.size 3 v (natI L) := hpl.ow
    obtain ⟨b, cap, rfl, hcap, _, hb, hcell⟩ := how.form (by rw [natI_len]; exact hpos)
    rw [natI_len] at c6 hcap hcell
    by_cases hlt : m < L.length
    · have i1 : (m : Int) < (L.length : Int) := by omega
      have hc := hcell m hlt
      rw [natI_at hlt] at hc
      obtain ⟨x, hx⟩ : ∃ x, L[m]? = some x := ⟨_, List.getElem?_eq_getElem hlt⟩
      rw [hx, Option.getD_some] at hc
      have hxn : x < n := HLT.out m x (by rw [← hL]; exact List.mem_of_getElem? hx)
      obtain ⟨L', hL'⟩ : ∃ L', L' = addAll L (scC N cl x) := ⟨_, rfl⟩
      obtain ⟨⟨y0, y1, y2⟩, hy⟩ : ∃ y, y = mkC N x ((scC N cl x).map L'.idxOf) := ⟨_, rfl⟩
      have HCA : Hid (Calls Try.prog 62 #[.int .i64 (x : Int), .func (.func 67) #[] #[.pointer (some ⟨g, 0, none⟩), .pointer (some ⟨g + 2, 0, none⟩)], .pointer (some ⟨sT, 0, none⟩), .pointer (some ⟨sS, 0, none⟩)] wo fun e w' =>
          ∃ v', e = .returned (.agg #[.int .i64 (y0 : Int), .int .i64 (y1 : Int), .int .i64 (y2 : Int)]) ∧ PlQ encNat ownN 106 69 w.heap.size g (g + 2) w.heap.size L (.slice (some ⟨b, 0, none⟩) (natI L).length cap) wo L' v' w') := by
        refine (HNO.out g (g + 2) w.heap.size L _ x wo HU.out.bl hpl hxn (by omega)).mono ?_
        rintro e w' ⟨v', rfl, q⟩
        rw [← hL', ← hy] at *
        exact ⟨v', rfl, q⟩
      have HX := Lib.hid hx
      have HLL := Lib.hid hL
      have HLP := Lib.hid hL'
      have HY := Lib.hid hy
      have HPL := Lib.hid hpl
      have HBW := Lib.hid hBw
      have HOL : Hid ((outL (scC N cl) (mkC N) L m).length ≤ 1099511627776) := by
        rw [Hid]; unfold outL; rw [List.length_map, List.length_take]; omega
      have HCL : Hid (∀ {v1 w1}, PlQ encNat ownN 106 69 w.heap.size g (g + 2) w.heap.size L (.slice (some ⟨b, 0, none⟩) (natI L).length cap) wo L' v1 w1 → Ow3 w1 w.heap.size u8 (outL (scC N cl) (mkC N) L m) ∧ ∀ k, u8.ownBlock = some k → v1.ownBlock ≠ some k) := fun {v1 w1} q => by
        have := HU.out.call (L' := L') (v' := v1) (W' := w1) (by rw [← hL]; exact q)
        rw [← hL] at this
        exact this
      generalize hn1 : L.length = ll at *
      clear hx hL hL' hy hpl how hcell
      go_wp2_with (first
        | (go_at_call 62; refine HCA.out.mono ?_; rintro e w1 ⟨v1, rfl, q1⟩; have Q1 := Lib.hid q1; clear q1)
        | (at_builtin; go_must (refine push3_at _ rfl (.tmp 30) (.tmp 32) 22 rfl w.heap.size i0 Try.underlying22 HI.out _ (outL (scC N cl) (mkC N) L m) y0 y1 y2 _ rfl rfl (by simp) ((HCL.out Q1.out).1.alloc _) HOL.out (by have := Q1.out.t.size; simp; omega) ?_); intro u2 w2 hu2 hgr2 hat2; have HU2 := Lib.hid hu2; have HG2 := Lib.hid hgr2; have HA2 := Lib.hid hat2; clear hu2 hgr2 hat2))
      have HN' : Hid (UfS encNat ownN 106 69 w.heap.size g (g + 2) w.heap.size w (scC N cl) (mkC N) k0 (m + 1) v1 u2 w2) := by
        refine HU.out.next HBW.out (x := x) (by rw [← HLL.out]; exact HX.out) (v' := v1) (u' := u2) (W' := w1) (W1 := w1.alloc (.cells #[.int .i64 (y0 : Int), .int .i64 (y1 : Int), .int .i64 (y2 : Int)] 59)) (by rw [← HLL.out, ← HLP.out]; exact Q1.out) ((Below.refl _ _).alloc (Nat.le_refl _) _) (by rw [← HLL.out, ← HLP.out, ← HY.out]; exact HU2.out) HG2.out HA2.out
      exact ⟨⟨m + 1, v1, by go_num, HN'.out⟩, by simp [intOf]; omega⟩
    · have hmm' : m = L.length := by omega
      have i1 : ¬ (m : Int) < (L.length : Int) := by omega
      have HUF : Hid (Unf (scC N cl) k0 (mkC N) (outL (scC N cl) (mkC N) (rch (scC N cl) k0 m) m)) := ⟨m, by rw [← hL, hmm'], rfl⟩
      have HOW := Lib.hid HU.out.nd
      clear hcell how hmm'
      generalize L.length = ll at *
      go_wp2
      go_ret
      exact ⟨⟨u8, rfl, _, HUF.out, HOW.out⟩, HU.out.bl⟩
theorem IsCls.lt {N : List Nd} {cl : Nat → Nat} (h : IsCls N cl) {n : Nat} (hn : N.length = n) : ∀ j, j < n → cl j < n := fun j hj => by have := h.le j (by omega); omega
set_option maxRecDepth 100000 in
set_option maxHeartbeats 3200000 in
/-- canonical. -/
theorem canonical_any (N : List Nd) (A : Option Addr) (n c i : Nat) (w : World) (hN : Nl w A n c N) (hok : OkN N) (hi : i < n) (hn : n ≤ 100000) :
    Calls Try.prog 47 #[.slice A n c, .int .i64 (i : Int)] w fun e w' => (∃ u out, e = .returned u ∧ IsCan N i out ∧ Ow3 w' w.heap.size u out) ∧ Below w.heap.size w w' := by
  obtain ⟨W, hW⟩ : ∃ W, W = w.alloc (.cells #[.slice A n c] 22) := ⟨_, rfl⟩
  have hb : Below w.heap.size w W := by rw [hW]; exact (Below.refl _ w).alloc (Nat.le_refl _) _
  have hsz : W.heap.size = w.heap.size + 1 := by rw [hW]; simp
  have hc : W.cell? ⟨w.heap.size, 0, none⟩ = some (.slice A n c) := by rw [hW]; simp
  have HAL := Lib.hid (alike_any N A n c W (hN.below hb (Nat.le_refl _)) hok (by omega))
  have HLN : Hid (N.length = n) := hN.len
  have HN := Lib.hid hN
  have HOK := Lib.hid hok
  have HB := Lib.hid hb
  have HC := Lib.hid hc
  have HW := Lib.hid hW
  have i1 : (i : Int) < (n : Int) := by omega
  clear hW hN hok
  go_enter Try.func47, Try.ntmps47
  have HUN : Hid (∀ w1 cb co d cl k0, Below W.heap.size W w1 → IsCls N cl → Sl w1 (some ⟨cb, co, none⟩) n d (tabL n cl) → k0 = cl i → Calls Try.prog 61 #[.int .i64 (k0 : Int), .func (.func 62) #[] #[.pointer (some ⟨w.heap.size, 0, none⟩), .pointer (some ⟨w1.heap.size, 0, none⟩)]] (w1.alloc (.cells #[.slice (some ⟨cb, co, none⟩) n d] 69)) fun e w' =>
      (∃ u out, e = .returned u ∧ IsCan N i out ∧ Ow3 w' w.heap.size u out) ∧ Below w.heap.size w w') := fun w1 cb co d cl k0 hb1 hcl hsl hk0 => by
    have hz1 := hb1.size
    have hb2 : Below W.heap.size W (w1.alloc (.cells #[.slice (some ⟨cb, co, none⟩) n d] 69)) := hb1.alloc hb1.size _
    have hb3 : Below w.heap.size w (w1.alloc (.cells #[.slice (some ⟨cb, co, none⟩) n d] 69)) := HB.out.trans (hb2.mono (by omega))
    refine (unfoldI_any N A n c w.heap.size w1.heap.size (some ⟨cb, co, none⟩) d cl k0 _ (HN.out.below hb3 (Nat.le_refl _)) HOK.out (hsl.below ((Below.refl _ w1).alloc (Nat.le_refl _) _) (Nat.le_refl _)) ((hb2.cell (p := ⟨w.heap.size, 0, none⟩) (by show w.heap.size < _; omega)).trans HC.out) (by simp) (by rw [hk0]; exact hcl.lt HLN.out i hi) hn (hcl.lt HLN.out)).mono ?_
    rintro e w' ⟨⟨u, out, rfl, hu, ho⟩, hb⟩
    rw [hk0] at hu
    exact ⟨⟨u, out, rfl, ⟨cl, hcl, hu⟩, ho.base (by simp; omega)⟩, hb3.trans (hb.mono (by simp; omega))⟩
  go_wp2_with (first
    | (go_at_call 46; rw [← HW.out]; refine HAL.out.mono ?_; rintro e w1 ⟨⟨v, cl, rfl, hcl, hov⟩, hb1⟩; obtain ⟨C, d, rfl, hsl⟩ := hov.sl_len (n := n) (tabL_len _ _) (by omega); obtain ⟨cb, co, rfl, hcc⟩ := hsl.cells (by omega); have c1 := hcc i hi; rw [tabL_at _ hi] at c1; have hlt1 := lt_of_cell c1; obtain ⟨k0, hk0⟩ : ∃ k0, k0 = cl i := ⟨_, rfl⟩; rw [← hk0] at c1; have HU1 := Lib.hid (HUN.out w1 cb co d cl k0 hb1 hcl hsl hk0); clear hcl hsl hov hcc hb1 hk0)
    | (go_at_call 61; refine HU1.out.mono ?_; rintro e w3 ⟨⟨u, out, rfl, hu, ho⟩, hb3⟩; have HU3 := Lib.hid hu; have HO3 := Lib.hid ho; have HB3 := Lib.hid hb3; clear hu ho hb3))
  go_ret
  exact ⟨⟨u, out, rfl, HU3.out, HO3.out⟩, HB3.out⟩
end Go.Proofs.Ytmbdjjkgjnemiaa
