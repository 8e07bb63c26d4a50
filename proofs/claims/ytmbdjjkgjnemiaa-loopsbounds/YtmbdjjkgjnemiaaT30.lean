import Derived.Test.YtmbdjjkgjnemiaaT25
import Derived.Test.YtmbdjjkgjnemiaaT22
/- Layer 6, mathematics: canonical types of one node, for LoopsShape. -/
namespace Go.Proofs.Ytmbdjjkgjnemiaa
open Go.RowKit
set_option linter.unusedVariables false

/-- The nodes out stand for the classes L, in this order. -/
structure CanR (N : List Nd) (cl : Nat → Nat) (i : Nat) (L : List Nat) (out : List Nd) : Prop where
  cls : IsCls N cl
  len : out.length = L.length
  pos : 0 < L.length
  zero : L[0]? = some (cl i)
  fix : ∀ x ∈ L, x < N.length ∧ cl x = x
  nod : L.Nodup
  kind : ∀ a x, L[a]? = some x → (nd out a).k = (nd N x).k
  pa : ∀ a x, L[a]? = some x → 4 ≤ (nd N x).k → L[(nd out a).a]? = some (cl (nd N x).a) ∧ L[(nd out a).b]? = some (cl (nd N x).b)
  leaf : ∀ a x, L[a]? = some x → ¬ 4 ≤ (nd N x).k → nd out a = nd N x
  rch_ : L = rch (scC N cl) (cl i) L.length
theorem rch_head {sc : Nat → List Nat} {k0 : Nat} : ∀ m, (rch sc k0 m)[0]? = some k0
  | 0 => rfl
  | m + 1 => by
    obtain ⟨X, hX⟩ := rch_pre sc k0 m
    have := rch_head (sc := sc) (k0 := k0) m
    rw [hX, List.getElem?_append_left (by
      rcases h : rch sc k0 m with _ | ⟨y, ys⟩
      · rw [h] at this; cases this
      · simp)]
    exact this
theorem idx_get {L : List Nat} {y : Nat} (h : y ∈ L) : L[L.idxOf y]? = some y := by
  rw [List.getElem?_eq_getElem (List.idxOf_lt_length_of_mem h), List.getElem_idxOf]
theorem can_rep {N : List Nd} {i : Nat} {out : List Nd} (h : IsCan N i out) (hok : OkN N) (hi : i < N.length) : ∃ cl L, CanR N cl i L out := by
  obtain ⟨cl, hc, m, hm, rfl⟩ := h
  have hlt := hc.lt rfl
  refine ⟨cl, rch (scC N cl) (cl i) m, ?_⟩
  have hall : ∀ x ∈ rch (scC N cl) (cl i) m, x < N.length ∧ cl x = x := rch_all (scC N cl) (cl i) (P := fun x => x < N.length ∧ cl x = x) ⟨hlt i hi, hc.idem i hi⟩ (fun q hq x hx => by
    unfold scC at hx
    split at hx
    · rcases List.mem_cons.1 hx with e | hx
      · rw [e]; exact ⟨hlt _ (hok.a q hq.1), hc.idem _ (hok.a q hq.1)⟩
      · rw [List.mem_singleton.1 hx]; exact ⟨hlt _ (hok.b q hq.1), hc.idem _ (hok.b q hq.1)⟩
    · cases hx) m
  have hat : ∀ a x, (rch (scC N cl) (cl i) m)[a]? = some x → nd (outL (scC N cl) (mkC N) (rch (scC N cl) (cl i) m) m) a = mkC N x ((scC N cl x).map (rch (scC N cl) (cl i) m).idxOf) ∧ ∀ y ∈ scC N cl x, y ∈ rch (scC N cl) (cl i) m := fun a x hx => by
    have ha : a < m := by rw [← hm]; exact (List.getElem?_eq_some_iff.1 hx).1
    refine ⟨?_, rch_parts (scC N cl) (cl i) ha hx⟩
    unfold nd outL
    rw [List.getElem?_map, List.getElem?_take, if_pos ha, hx]
    rfl
  refine ⟨hc, outL_len (Nat.le_of_eq hm.symm) |>.trans hm.symm, List.length_pos_of_mem (rch_start (scC N cl) (cl i) m), rch_head m, hall, rch_nodup (scC N cl) (cl i) m, fun a x hx => ?_, fun a x hx h4 => ?_, fun a x hx h4 => ?_, by rw [hm]⟩
  · rw [(hat a x hx).1]
    unfold mkC
    split <;> rfl
  · obtain ⟨e, hmem⟩ := hat a x hx
    rw [e]
    have hsc : scC N cl x = [cl (nd N x).a, cl (nd N x).b] := by unfold scC; rw [if_pos h4]
    rw [hsc] at hmem ⊢
    unfold mkC
    rw [if_pos h4]
    exact ⟨idx_get (hmem _ List.mem_cons_self), idx_get (hmem _ (List.mem_cons_of_mem _ List.mem_cons_self))⟩
  · rw [(hat a x hx).1]
    unfold mkC
    rw [if_neg h4]
section
variable {N : List Nd} {cl : Nat → Nat} {i : Nat} {L : List Nat} {out : List Nd}
theorem CanR.at_ (h : CanR N cl i L out) {a : Nat} (ha : a < out.length) : ∃ x, L[a]? = some x ∧ x < N.length ∧ cl x = x := by
  have hl : a < L.length := by rw [← h.len]; exact ha
  have hm := h.fix _ (List.getElem_mem hl)
  exact ⟨L[a], List.getElem?_eq_getElem hl, hm.1, hm.2⟩
theorem CanR.ok (h : CanR N cl i L out) (hok : OkN N) : OkN out := by
  have lt : ∀ {k x}, L[k]? = some x → k < out.length := fun hk => by rw [h.len]; exact (List.getElem?_eq_some_iff.1 hk).1
  have hp : 0 < out.length := by rw [h.len]; exact h.pos
  refine ⟨hp, fun a ha => ?_, fun a ha h4 => ?_, fun a ha => ?_, fun a ha => ?_⟩
  · obtain ⟨x, hx, hxn, _⟩ := h.at_ ha
    rw [h.kind a x hx]; exact hok.kind x hxn
  · obtain ⟨x, hx, hxn, _⟩ := h.at_ ha
    rw [h.kind a x hx] at h4
    rw [h.leaf a x hx (by omega)]
    exact hok.leaf x hxn h4
  · obtain ⟨x, hx, hxn, _⟩ := h.at_ ha
    by_cases h4 : 4 ≤ (nd N x).k
    · exact lt (h.pa a x hx h4).1
    · rw [h.leaf a x hx h4, (hok.leaf x hxn (by omega)).1]; exact hp
  · obtain ⟨x, hx, hxn, _⟩ := h.at_ ha
    by_cases h4 : 4 ≤ (nd N x).k
    · exact lt (h.pa a x hx h4).2
    · rw [h.leaf a x hx h4, (hok.leaf x hxn (by omega)).2]; exact hp
/-- A node of N and the one of out that stands for its class. -/
theorem CanR.part (h : CanR N cl i L out) (hok : OkN N) {p a : Nat} (hp : p < N.length) (ha : L[a]? = some (cl p)) : (nd out a).k = (nd N p).k ∧ (4 ≤ (nd N p).k → L[(nd out a).a]? = some (cl (nd N p).a) ∧ L[(nd out a).b]? = some (cl (nd N p).b)) := by
  obtain ⟨ck, ca, _⟩ := cls_node h.cls hok hp
  refine ⟨by rw [h.kind a _ ha, ck], fun h4 => ?_⟩
  obtain ⟨e1, e2⟩ := ca h4
  have := h.pa a _ ha (by rw [ck]; exact h4)
  rw [e1, e2] at this
  exact this
/-- No two nodes are equal. -/
theorem CanR.inj (h : CanR N cl i L out) (hok : OkN N) {a b : Nat} (ha : a < out.length) (hb : b < out.length) (he : EqT out (a, b)) : a = b := by
  obtain ⟨x, hx, hxn, hxf⟩ := h.at_ ha
  obtain ⟨y, hy, hyn, hyf⟩ := h.at_ hb
  have key : EqT N (x, y) := by
    refine ⟨fun p => p.1 < N.length ∧ p.2 < N.length ∧ ∃ a b, L[a]? = some (cl p.1) ∧ L[b]? = some (cl p.2) ∧ EqT out (a, b), fun p ⟨h1, h2, a, b, ha, hb, he⟩ => ?_, hxn, hyn, a, b, by rw [hxf]; exact hx, by rw [hyf]; exact hy, he⟩
    have hs := eqT_clo out _ he
    obtain ⟨k1, p1⟩ := h.part hok h1 ha
    obtain ⟨k2, p2⟩ := h.part hok h2 hb
    refine ⟨by rw [← k1, ← k2]; exact hs.1, ?_⟩
    by_cases h4 : 4 ≤ (nd N p.1).k
    · have h4' : 4 ≤ (nd N p.2).k := by rw [← k2]; have := hs.1; dsimp only at this; omega
      obtain ⟨a1, a2⟩ := p1 h4
      obtain ⟨b1, b2⟩ := p2 h4'
      rcases hs.2 with h' | ⟨e1, e2⟩
      · dsimp only at h'; omega
      · exact .inr ⟨⟨hok.a _ h1, hok.a _ h2, _, _, a1, b1, e1⟩, ⟨hok.b _ h1, hok.b _ h2, _, _, a2, b2, e2⟩⟩
    · exact .inl (by omega)
  have hcl := (h.cls.iff x y hxn hyn).2 key
  rw [hxf, hyf] at hcl
  subst hcl
  exact (List.getElem?_inj (by rw [← h.len]; exact ha) h.nod).1 (hx.trans hy.symm)
/-- The nodes behind one list: those of another, moved. -/
def shN (n : Nat) (x : Nd) : Nd := if 4 ≤ x.k then ⟨x.k, x.a + n, x.b + n⟩ else x
def joinN (N M : List Nd) : List Nd := N ++ M.map (shN N.length)
theorem joinN_l {N M : List Nd} {p : Nat} (h : p < N.length) : nd (joinN N M) p = nd N p := by
  unfold nd joinN
  rw [List.getElem?_append_left h]
theorem joinN_r {N M : List Nd} {a : Nat} (h : a < M.length) : nd (joinN N M) (N.length + a) = shN N.length (nd M a) := by
  unfold nd joinN
  rw [List.getElem?_append_right (by omega), List.getElem?_map, Nat.add_sub_cancel_left, List.getElem?_eq_getElem h]
  rfl
theorem joinN_len (N M : List Nd) : (joinN N M).length = N.length + M.length := by unfold joinN; simp
theorem joinN_ok {N M : List Nd} (hN : OkN N) (hM : OkN M) : OkN (joinN N M) := by
  have key : ∀ p, p < (joinN N M).length → (nd (joinN N M) p).k < 6 ∧ ((nd (joinN N M) p).k < 4 → (nd (joinN N M) p).a = 0 ∧ (nd (joinN N M) p).b = 0) ∧ (nd (joinN N M) p).a < (joinN N M).length ∧ (nd (joinN N M) p).b < (joinN N M).length := fun p hp => by
    rw [joinN_len] at hp ⊢
    have hp0 := hN.pos
    by_cases h : p < N.length
    · rw [joinN_l h]
      have h3 := hN.a p h
      have h4 := hN.b p h
      exact ⟨hN.kind p h, hN.leaf p h, by omega, by omega⟩
    · obtain ⟨a, rfl⟩ := Nat.exists_eq_add_of_le (Nat.le_of_not_lt h)
      have ha : a < M.length := by omega
      rw [joinN_r ha]
      have h1 := hM.kind a ha
      have h2 := hM.leaf a ha
      have h3 := hM.a a ha
      have h4 := hM.b a ha
      unfold shN
      by_cases h5 : 4 ≤ (nd M a).k
      · rw [if_pos h5]; dsimp only; omega
      · rw [if_neg h5]
        have := h2 (by omega)
        refine ⟨h1, h2, by omega, by omega⟩
  exact ⟨by rw [joinN_len]; have := hN.pos; omega, fun p hp => (key p hp).1, fun p hp => (key p hp).2.1, fun p hp => (key p hp).2.2.1, fun p hp => (key p hp).2.2.2⟩
/-- The first of the canonical types is equal to the node. -/
theorem CanR.join (h : CanR N cl i L out) (hok : OkN N) (hi : i < N.length) : EqT (joinN N out) (i, N.length) := by
  refine ⟨fun p => p.1 < N.length ∧ ∃ a, p.2 = N.length + a ∧ L[a]? = some (cl p.1), fun p ⟨h1, a, h2, ha⟩ => ?_, hi, 0, rfl, h.zero⟩
  have hal : a < out.length := by rw [h.len]; exact (List.getElem?_eq_some_iff.1 ha).1
  obtain ⟨k1, p1⟩ := h.part hok h1 ha
  unfold StE
  rw [joinN_l h1, h2, joinN_r hal]
  unfold shN
  by_cases h4 : 4 ≤ (nd N p.1).k
  · obtain ⟨a1, a2⟩ := p1 h4
    rw [if_pos (by omega)]
    exact ⟨k1.symm, .inr ⟨⟨hok.a _ h1, (nd out a).a, by dsimp only; omega, a1⟩, ⟨hok.b _ h1, (nd out a).b, by dsimp only; omega, a2⟩⟩⟩
  · rw [if_neg (by omega)]
    exact ⟨k1.symm, .inl (by omega)⟩
/-- The classes of out are its nodes. -/
theorem CanR.self (h : CanR N cl i L out) (hok : OkN N) : IsCls out (fun a => a) :=
  ⟨fun a _ => Nat.le_refl _, fun a b ha hb => ⟨fun e => by have e : a = b := e; subst e; exact eqT_refl out a, fun e => h.inj hok ha hb e⟩, fun _ _ => rfl⟩
end
/-- What is reached, under other names. -/
theorem rch_map {sc sc' : Nat → List Nat} {k0 : Nat} (f : Nat → Nat) (P : Nat → Prop) (h0 : P k0) (hP : ∀ q, P q → ∀ x ∈ sc q, P x) (hsc : ∀ q, P q → sc' (f q) = (sc q).map f) (hinj : ∀ x y, P x → P y → f x = f y → x = y) :
    ∀ m, rch sc' (f k0) m = (rch sc k0 m).map f
  | 0 => rfl
  | m + 1 => by
    have ih := rch_map f P h0 hP hsc hinj m
    have hall := rch_all sc k0 (P := P) h0 hP m
    have hadd : ∀ (xs L : List Nat), (∀ x ∈ L, P x) → (∀ x ∈ xs, P x) → addAll (L.map f) (xs.map f) = (addAll L xs).map f := by
      intro xs
      induction xs with
      | nil => intro L _ _; rfl
      | cons x xs ihx =>
        intro L hL hx
        show addAll (addK (L.map f) (f x)) (xs.map f) = (addAll (addK L x) xs).map f
        have hk : addK (L.map f) (f x) = (addK L x).map f := by
          by_cases hm : x ∈ L
          · rw [addK_in hm, addK_in (List.mem_map.2 ⟨x, hm, rfl⟩)]
          · rw [addK_new hm, addK_new (fun hm' => by
              obtain ⟨y, hy, e⟩ := List.mem_map.1 hm'
              exact hm (hinj y x (hL y hy) (hx x List.mem_cons_self) e ▸ hy)), List.map_append]
            rfl
        rw [hk]
        refine ihx _ (fun y hy => ?_) (fun y hy => hx y (List.mem_cons_of_mem _ hy))
        rcases addK_sub hy with hy | hy
        · exact hL y hy
        · rw [hy]; exact hx x List.mem_cons_self
    rcases h : (rch sc k0 m)[m]? with _ | q
    · have hle := List.getElem?_eq_none_iff.1 h
      have e1 : rch sc k0 (m + 1) = rch sc k0 m := rch_end sc k0 hle 1
      have e2 : rch sc' (f k0) (m + 1) = rch sc' (f k0) m := rch_end sc' (f k0) (by rw [ih, List.length_map]; exact hle) 1
      rw [e1, e2, ih]
    · have hq : P q := hall q (List.mem_of_getElem? h)
      have h' : (rch sc' (f k0) m)[m]? = some (f q) := by rw [ih, List.getElem?_map, h]; rfl
      rw [rch_at sc k0 h, rch_at sc' (f k0) h', ih, hsc q hq]
      exact hadd _ _ hall (hP q hq)
theorem CanR.again {N : List Nd} {cl : Nat → Nat} {i : Nat} {L : List Nat} {out : List Nd} (h : CanR N cl i L out) (hok : OkN N) (hi : i < N.length) : IsCan out 0 out := by
  refine ⟨fun a => a, h.self hok, L.length, ?_⟩
  have hidx : ∀ a x, L[a]? = some x → L.idxOf x = a := fun a x hx => idxOf_at hx fun j hj e => by
    have := (List.getElem?_inj (List.getElem?_eq_some_iff.1 e).1 h.nod).1 (e.trans hx.symm)
    omega
  have hsc : ∀ q, q ∈ L → scC out (fun a => a) (L.idxOf q) = (scC N cl q).map L.idxOf := fun q hq => by
    have hg := idx_get hq
    unfold scC
    rw [h.kind _ _ hg]
    by_cases h4 : 4 ≤ (nd N q).k
    · obtain ⟨a1, a2⟩ := h.pa _ _ hg h4
      rw [if_pos h4, if_pos h4, List.map_cons, List.map_cons, hidx _ _ a1, hidx _ _ a2]; rfl
    · rw [if_neg h4, if_neg h4]; rfl
  have hz : L.idxOf (cl i) = 0 := hidx 0 _ h.zero
  have h0 : cl i ∈ L := List.mem_of_getElem? h.zero
  have hcl : ∀ q, q ∈ L → ∀ x ∈ scC N cl q, x ∈ L := fun q hq x hx => by
    have hg := idx_get hq
    unfold scC at hx
    by_cases h4 : 4 ≤ (nd N q).k
    · rw [if_pos h4] at hx
      obtain ⟨a1, a2⟩ := h.pa _ _ hg h4
      rcases List.mem_cons.1 hx with e | hx
      · rw [e]; exact List.mem_of_getElem? a1
      · rw [List.mem_singleton.1 hx]; exact List.mem_of_getElem? a2
    · rw [if_neg h4] at hx; cases hx
  have hm := rch_map (sc := scC N cl) (sc' := scC out (fun a => a)) (k0 := cl i) L.idxOf (· ∈ L) h0 hcl hsc (fun x y hx hy e => by
    have e1 := idx_get hx
    have e2 := idx_get hy
    rw [e, e2] at e1
    exact (Option.some.inj e1).symm) L.length
  rw [hz, ← h.rch_] at hm
  have hlen : (rch (scC out fun a => a) 0 L.length).length = L.length := by rw [hm, List.length_map]
  refine ⟨hlen, ?_⟩
  have hat : ∀ a, a < L.length → (rch (scC out fun a => a) 0 L.length)[a]? = some a := fun a ha => by
    rw [hm, List.getElem?_map, List.getElem?_eq_getElem ha]
    show some (L.idxOf L[a]) = some a
    rw [hidx a _ (List.getElem?_eq_getElem ha)]
  have hidr : ∀ a, a < L.length → (rch (scC out fun a => a) 0 L.length).idxOf a = a := fun a ha => idxOf_at (hat a ha) fun j hj e => by
    rw [hat j (by omega)] at e
    have := Option.some.inj e
    omega
  refine List.ext_getElem? fun a => ?_
  by_cases ha : a < L.length
  · have hao : a < out.length := by rw [h.len]; exact ha
    unfold outL
    rw [List.getElem?_map, List.getElem?_take, if_pos ha, hat a ha, List.getElem?_eq_getElem hao]
    show some out[a] = some (mkC out a ((scC out (fun a => a) a).map (rch (scC out fun a => a) 0 L.length).idxOf))
    have hnd : nd out a = out[a] := by unfold nd; rw [List.getElem?_eq_getElem hao]; rfl
    have hoko := h.ok hok
    have haa := hoko.a a hao
    have hba := hoko.b a hao
    rw [h.len] at haa hba
    unfold mkC
    by_cases h4 : 4 ≤ (nd out a).k
    · have hs : scC out (fun a => a) a = [(nd out a).a, (nd out a).b] := by unfold scC; rw [if_pos h4]
      rw [if_pos h4, hs, List.map_cons, List.map_cons, hidr _ haa, hidr _ hba, ← hnd]; rfl
    · rw [if_neg h4, hnd]
  · rw [List.getElem?_eq_none (by rw [h.len]; omega), List.getElem?_eq_none]
    unfold outL
    rw [List.length_map, List.length_take]
    omega
/-- Two nodes are equal if their canonical types are. -/
theorem can_eq {N : List Nd} {i j : Nat} {out : List Nd} (hok : OkN N) (hi : i < N.length) (hj : j < N.length) (h1 : IsCan N i out) (h2 : IsCan N j out) : EqT N (i, j) := by
  obtain ⟨c1, L1, r1⟩ := can_rep h1 hok hi
  obtain ⟨c2, L2, r2⟩ := can_rep h2 hok hj
  refine ⟨fun p => p.1 < N.length ∧ p.2 < N.length ∧ ∃ a, L1[a]? = some (c1 p.1) ∧ L2[a]? = some (c2 p.2), fun p ⟨b1, b2, a, ha, hb⟩ => ?_, hi, hj, 0, r1.zero, r2.zero⟩
  obtain ⟨k1, p1⟩ := r1.part hok b1 ha
  obtain ⟨k2, p2⟩ := r2.part hok b2 hb
  refine ⟨by rw [← k1, ← k2], ?_⟩
  by_cases h4 : 4 ≤ (nd N p.1).k
  · obtain ⟨a1, a2⟩ := p1 h4
    obtain ⟨d1, d2⟩ := p2 (by omega)
    exact .inr ⟨⟨hok.a _ b1, hok.a _ b2, _, a1, d1⟩, ⟨hok.b _ b1, hok.b _ b2, _, a2, d2⟩⟩
  · exact .inl (by omega)
theorem can_of_eq {N : List Nd} {i j : Nat} {out : List Nd} (hi : i < N.length) (hj : j < N.length) (h : EqT N (i, j)) (h1 : IsCan N i out) : IsCan N j out := by
  obtain ⟨cl, hc, hu⟩ := h1
  exact ⟨cl, hc, by rw [← (hc.iff i j hi hj).2 h]; exact hu⟩
end Go.Proofs.Ytmbdjjkgjnemiaa
/- Layer 6: the law's joined; Canonical and Equal at nodes of naturals. -/
namespace Go.Proofs.Ytmbdjjkgjnemiaa
open Go.RowKit
set_option linter.unusedVariables false

theorem tyC_up (N : List Nd) : tyC (upN N) = ndC N := by
  unfold tyC ndC upN
  rw [List.flatMap_map]
  rfl
theorem Ow4.up {w : World} {B : Nat} {v : Value} {N : List Nd} (h : Ow4 w B v (upN N)) : Ow3 w B v N := by
  unfold Ow4 at h
  rw [tyC_up, upN_len] at h
  exact h
theorem lit0 (w : World) (B : Nat) (hB : B ≤ w.heap.size) : Ow4 (w.alloc (.cells #[] 59)) B (.slice (some ⟨w.heap.size, 0, none⟩) 0 0) [] :=
  World.ownsRow_lit (base := B) (e := 59) (size := 3) w #[] 0 hB (by unfold maxLen; omega) rfl
set_option maxRecDepth 100000 in
set_option maxHeartbeats 6400000 in
theorem joined_any (N M : List Nd) (A B : Option Addr) (n c m d : Nat) (w : World) (hN : Nl w A n c N) (hM : Nl w B m d M) (hok : OkN N) (hom : OkN M) (hn : n ≤ 1000) (hm : m ≤ 1000) :
    Calls Try.prog 39 #[.slice A n c, .slice B m d] w fun e w' => (∃ Y k, e = .returned (.slice Y (n + m) k) ∧ Nl w' Y (n + m) k (joinN N M)) ∧ Below w.heap.size w w' := by
  have hn1 : 1 ≤ n := by rw [← hN.len]; exact hok.pos
  have hm1 : 1 ≤ m := by rw [← hM.len]; exact hom.pos
  have HLM : Hid (M.length = m) := hM.len
  have HLN : Hid (N.length = n) := hN.len
  have HT := Lib.hid (hN.tl hn1)
  have HM := Lib.hid hM
  have HOM := Lib.hid hom
  obtain ⟨ti, hi, hz0, hz1, hz2⟩ := info_parts Try.infoTy
  have HI : Hid (Try.prog.info? 59 = some ti ∧ ti.zero = some (.agg #[.int .i64 0, .int .i64 0, .int .i64 0]) ∧ ti.size = 3 ∧ ti.bytes = 24) := ⟨hi, hz0, hz1, hz2⟩
  have HA0 : Hid (Below w.heap.size w (w.alloc (.cells #[] 59))) := (Below.refl _ w).alloc (Nat.le_refl _) _
  have HL0 := Lib.hid (lit0 w w.heap.size (Nat.le_refl _))
  have HSZ : Hid (w.heap.size ≤ (w.alloc (.cells #[] 59)).heap.size) := by rw [Hid]; simp
  clear hN hM hok hom hi hz0 hz1 hz2
  go_enter Try.func39, Try.ntmps39
  go_wp2_with (at_builtin; go_must (refine appt_law _ rfl (.tmp 8) (.tmp 9) 22 rfl w.heap.size ti Try.underlying22 HI.out _ [] rfl A n c (upN N) rfl (HT.out.below HA0.out (Nat.le_refl _)) HL0.out (by simp; omega) HSZ.out ?_); intro v9 W9 hv9 hg9; have HV9 : Hid (Ow3 W9 w.heap.size v9 (joinN N (M.take 0))) := (by have h := hv9; rw [List.nil_append] at h; rw [Hid, joinN, List.take_zero, List.map_nil, List.append_nil]; exact h.up); have HB9 : Hid (Below w.heap.size w W9) := HA0.out.grown hg9 HA0.out.size (fun k e => (by have e : w.heap.size = k := Option.some.inj e; omega)); clear hv9 hg9)
  go_loopw [5, 6] (fun u iv w' => ∃ i : Nat, i ≤ m ∧ iv = .int .i64 (i : Int) ∧ Hid (Ow3 w' w.heap.size u (joinN N (M.take i))) ∧ Hid (Below w.heap.size w w')) (fun _ iv _ => m - (intOf iv).toNat)
  case atStart => exact ⟨0, by omega, by go_num, HV9.out, HB9.out⟩
  case round =>
    obtain ⟨i, hi, rfl, HO, HB⟩ := hrel
    obtain ⟨wo, rfl⟩ : ∃ wo : World, wo = wr := ⟨_, rfl⟩
    clear HV9 HB9
    by_cases him : i < m
    · have i1 : (i : Int) < (m : Int) := by omega
      obtain ⟨b, off, rfl, hbl, c0, c1, c2⟩ := (HM.out.below HB.out (Nat.le_refl _)).rows i him
      have hax := HOM.out.a i (by rw [HLM.out]; exact him)
      have hbx := HOM.out.b i (by rw [HLM.out]; exact him)
      rw [HLM.out] at hax hbx
      have HTK : Hid (joinN N (M.take i) ++ [shN n (nd M i)] = joinN N (M.take (i + 1))) := by
        unfold joinN nd
        rw [Hid, List.take_add_one, List.getElem?_eq_getElem (by rw [HLM.out]; exact him), List.map_append, ← List.append_assoc, HLN.out]; rfl
      have HLL : Hid ((joinN N (M.take i)).length ≤ 1099511627776) := by rw [Hid, joinN_len, List.length_take]; have := HLN.out; omega
      have HO1 : Hid (∀ o, Ow3 (wo.alloc o) w.heap.size u5 (joinN N (M.take i))) := fun o => HO.out.alloc o
      have HBA : Hid (∀ o, Below w.heap.size w (wo.alloc o)) := fun o => HB.out.alloc HB.out.size o
      have HOL : Hid (∀ k, u5.ownBlock = some k → w.heap.size ≤ k) := fun k e => (HO.out.lt e).1
      generalize nd M i = x at *
      obtain ⟨kx, ax, bx⟩ := x
      dsimp only at c0 c1 c2 hax hbx
      clear HO
      by_cases h4 : 4 ≤ kx
      · have i9 : (kx : Int) ≥ 4 := by omega
        have hw1 : IntKind.i64.wrap ((ax : Int) + (n : Int)) = ((ax + n : Nat) : Int) := by rw [IntWalk.i64_in _ (by omega)]; omega
        have hw2 : IntKind.i64.wrap ((bx : Int) + (n : Int)) = ((bx + n : Nat) : Int) := by rw [IntWalk.i64_in _ (by omega)]; omega
        have HX : Hid (shN n ⟨kx, ax, bx⟩ = ⟨kx, ax + n, bx + n⟩) := by unfold shN; rw [Hid, if_pos h4]
        rw [HX.out] at HTK
        clear h4 HX
        go_wp2_with (at_builtin; go_must (refine push3_at _ rfl (.tmp 36) (.tmp 38) 22 rfl w.heap.size ti Try.underlying22 HI.out _ (joinN N (M.take i)) kx (ax + n) (bx + n) _ rfl rfl (by simp) (HO1.out _) HLL.out (HBA.out _).size ?_); intro v2 w2 hv2 hg2 hat2; have HV2 := Lib.hid hv2; have HB2 : Hid (Below w.heap.size w w2) := (HBA.out _).grown hg2 (HBA.out _).size (fun k e => HOL.out k e); clear hv2 hg2 hat2)
        rw [HTK.out] at HV2
        exact ⟨⟨i + 1, by omega, by go_num, HV2.out, HB2.out⟩, by simp [intOf]; omega⟩
      · have i9 : ¬ (kx : Int) ≥ 4 := by omega
        have HX : Hid (shN n ⟨kx, ax, bx⟩ = ⟨kx, ax, bx⟩) := by unfold shN; rw [Hid, if_neg h4]
        rw [HX.out] at HTK
        clear h4 HX
        go_wp2_with (at_builtin; go_must (refine push3_at _ rfl (.tmp 36) (.tmp 38) 22 rfl w.heap.size ti Try.underlying22 HI.out _ (joinN N (M.take i)) kx ax bx _ rfl rfl (by simp) (HO1.out _) HLL.out (HBA.out _).size ?_); intro v2 w2 hv2 hg2 hat2; have HV2 := Lib.hid hv2; have HB2 : Hid (Below w.heap.size w w2) := (HBA.out _).grown hg2 (HBA.out _).size (fun k e => HOL.out k e); clear hv2 hg2 hat2)
        rw [HTK.out] at HV2
        exact ⟨⟨i + 1, by omega, by go_num, HV2.out, HB2.out⟩, by simp [intOf]; omega⟩
    · have him2 : i = m := by omega
      subst him2
      have i1 : ¬ (i : Int) < (i : Int) := by omega
      have ho := HO.out
      rw [List.take_of_length_le (Nat.le_of_eq HLM.out)] at ho
      obtain ⟨Y, k, rfl, hnl⟩ := ho.nl (n := n + i) (by rw [joinN_len, HLN.out, HLM.out]) (by omega) (by omega)
      have HNL := Lib.hid hnl
      clear ho hnl HO
      go_wp2
      go_ret
      exact ⟨⟨Y, k, rfl, HNL.out⟩, HB.out⟩
theorem canon_at (N : List Nd) (A : Option Addr) (n c p : Nat) (w : World) (hN : Nl w A n c N) (hok : OkN N) (h24 : n ≤ 24) (hp : p < n) :
    Calls Try.prog 24 #[.slice A n c, .int .i64 (p : Int)] w fun e w' => (∃ B m d out, e = .returned (.tuple #[.slice B m d, .int .i64 0]) ∧ IsCan N p out ∧ Nl w' B m d out ∧ Ow3 w' w.heap.size (.slice B m d) out) ∧ Below w.heap.size w w' := by
  have hl := hN.len
  have h := canon_any (upN N) A n c p w (hN.tl (by omega)) (valB_up hok (by omega)) hp
  rw [toN_up] at h
  refine h.mono ?_
  rintro e w' ⟨⟨u, out, rfl, hu, ho⟩, hb⟩
  obtain ⟨B, d, rfl, hn⟩ := ho.nl (n := out.length) rfl (can_pos hu) (Nat.le_trans (can_len hu hok (by omega)) (by omega))
  exact ⟨⟨B, _, d, out, rfl, hu, hn, ho⟩, hb⟩
theorem equal_at' (N : List Nd) (A : Option Addr) (n c p q : Nat) (w : World) (hN : Nl w A n c N) (hok : OkN N) (h24 : n ≤ 24) (hp : p < n) (hq : q < n) :
    Calls Try.prog 23 #[.slice A n c, .int .i64 (p : Int), .int .i64 (q : Int)] w fun e w' => (∃ b, e = .returned (.tuple #[.bool b, .int .i64 0]) ∧ (b = true ↔ EqT N (p, q))) ∧ Below w.heap.size w w' := by
  have hl := hN.len
  have h := equal_any (upN N) A n c p q w (hN.tl (by omega)) (valB_up hok (by omega)) hp hq
  rw [toN_up] at h
  exact h
theorem typB_up {N : List Nd} (hok : OkN N) {most : Nat} (h : N.length ≤ most) : typB (upN N) most = true := by
  have h24 : tysB (upN N).length (upN N) = true := by
    rw [upN_len]
    exact (allB_good (p := fun j => nodeB N.length (tyAt (upN N) j)) fun j hj => by
      rw [upN_at hj, nodeB_iff]
      have h1 := hok.kind j hj
      have h2 := hok.leaf j hj
      have h3 := hok.a j hj
      have h4 := hok.b j hj
      unfold upTy
      dsimp only
      omega).symm
  unfold typB
  rw [h24, upN_len, decide_eq_true hok.pos, decide_eq_true h]; rfl
end Go.Proofs.Ytmbdjjkgjnemiaa
