import Derived.Test.YtcnjkdkkflpgnaaT19
/- Layer 8: layOut. -/
namespace Go.Proofs.Ytcnjkdkkflpgnaa
open Go.RowKit Go.Maps
set_option linter.unusedVariables false

/-- The call owns the slice v of slices. -/
def Owv (w : World) (B : Nat) (v : Value) (vs : List Value) : Prop := w.ownsRow B 22 1 v vs.length vs
theorem pushv_law {P : Program} (w : World) {ops : Array Oper} {rest : List Oper} {o : Oper} {a : Act} {Q : Exit → Act → World → Prop} (hgd : o.guard = none) (s x : Operand) (t : TypeId)
    (ho : o.op = .call { callee := .builtin .append, args := #[s, x], argTypes := #[t, t] })
    (B : Nat) (i : TypeInfo) (ht : P.underlying t = some (.slice 22)) (hI : P.info? 22 = some i ∧ i.zero = some (.slice none 0 0) ∧ i.size = 1 ∧ i.bytes = 24)
    (v : Value) (vs : List Value) (A : Option Addr) (n c : Nat) (hs : a.eval s = v) (hx : a.eval x = .slice (some ⟨w.heap.size, 0, none⟩) 1 1) (hown : Owv w B v vs) (hn : vs.length ≤ 1000000) (hB : B ≤ w.heap.size)
    (h : ∀ v' w', Owv w' B v' (vs ++ [.slice A n c]) → w.grownBy w' v.ownBlock → wpList P ops Q rest (a.put o.dst v') w') :
    wpList P ops Q (o :: rest) a (w.alloc (.cells #[.slice A n c] 22)) := by
  obtain ⟨h1, h2, h3, h4⟩ := hI
  refine wpList_append_own_at _ hgd s x t ho B 22 i _ 1 24 ht h1 h2 h3 h4 rfl (by decide) v vs.length vs hs (hown.alloc _) ⟨w.heap.size, 0, none⟩ 1 1 [.slice A n c] hx rfl ?_ ?_ (by unfold maxLen; omega) (by omega) (by simp; omega) ?_
  · intro j u hu
    match j, hu with
    | 0, hu => simp at hu; subst hu; simp [Addr.add]
  · intro u hu
    simp at hu
    subst hu
    rfl
  · intro v' w' ho' hg' _ hat
    refine h v' w' ?_ (grown_alloc hg')
    unfold Owv
    rw [List.length_append]
    exact ho'
theorem own_ty {V : World} {B : Nat} {t : TypeId} {size n : Nat} {v : Value} {xs : List Value} (h : V.ownsRow B t size v n xs) {k : Nat} (hk : v.ownBlock = some k) : ∃ cur, V.heap[k]? = some (.cells cur t (0, 0)) := by
  rcases h.2 with ⟨e, _⟩ | ⟨g, cap, cur, e1, e2, e3, _⟩
  · rw [e] at hk; cases hk
  · rw [e1] at hk
    have hk := Option.some.inj hk
    subst hk
    exact ⟨cur, e3⟩
theorem own_same {V V' : World} {B : Nat} {t : TypeId} {size n : Nat} {v : Value} {xs : List Value} (h : V.ownsRow B t size v n xs) (hk : ∀ k cur, V.heap[k]? = some (.cells cur t (0, 0)) → v.ownBlock = some k → V'.heap[k]? = V.heap[k]?) : V'.ownsRow B t size v n xs := by
  refine ⟨h.1, ?_⟩
  rcases h.2 with h1 | ⟨g, cap, cur, e1, e2, e3, e4⟩
  · exact .inl h1
  · exact .inr ⟨g, cap, cur, e1, e2, (hk g cur e3 (by rw [e1]; rfl)).trans e3, e4⟩
theorem ty_ne {V : World} {j k : Nat} {c1 c2 : Array Value} {t1 t2 : TypeId} {f1 f2 : Nat × Nat} (h1 : V.heap[j]? = some (.cells c1 t1 f1)) (h2 : V.heap[k]? = some (.cells c2 t2 f2)) (h : t1 ≠ t2) : j ≠ k := fun e => by
  subst e
  rw [h1] at h2
  injection h2 with h2
  injection h2 with _ h2 _
  exact h h2
/-- The ways, in memory. -/
def Nx (B : Nat) (V : World) (nv : Value) (mm : Nat) (R : List (List Int)) (hi : Nat) : Prop :=
  ∃ vs, Owv V B nv vs ∧ vs.length = R.length ∧ ∀ k, k < R.length → ∃ g, g < hi ∧ vs[k]? = some (.slice (some ⟨g, 0, none⟩) mm mm) ∧ Ow V B 3 (.slice (some ⟨g, 0, none⟩) mm mm) (ordAt R k)
theorem ownsRow_keepT {V V' : World} {B : Nat} {t : TypeId} {size n : Nat} {v : Value} {xs : List Value} (h : V.ownsRow B t size v n xs) (hk : KeepT V V') (h1 : t ≠ 80) (h2 : t ≠ 92) : V'.ownsRow B t size v n xs :=
  own_same h fun k cur e _ => hk k cur t (0, 0) e h1 h2
theorem Nx.keep {B : Nat} {V V' : World} {nv : Value} {mm hi : Nat} {R : List (List Int)} (h : Nx B V nv mm R hi) (hk : KeepT V V') : Nx B V' nv mm R hi := by
  obtain ⟨vs, h1, h2, h3⟩ := h
  refine ⟨vs, ownsRow_keepT h1 hk (by decide) (by decide), h2, fun k hk2 => ?_⟩
  obtain ⟨g, hg, e, ho⟩ := h3 k hk2
  exact ⟨g, hg, e, ownsRow_keepT ho hk (by decide) (by decide)⟩
theorem Nx.up {B : Nat} {V : World} {nv : Value} {mm hi : Nat} {R : List (List Int)} (h : Nx B V nv mm R hi) : Nx B V nv mm R V.heap.size := by
  obtain ⟨vs, h1, h2, h3⟩ := h
  refine ⟨vs, h1, h2, fun k hk2 => ?_⟩
  obtain ⟨g, hg, e, ho⟩ := h3 k hk2
  exact ⟨g, (ho.lt (k := g) rfl).2, e, ho⟩
theorem Nx.set {B : Nat} {V : World} {nv : Value} {mm hi g k : Nat} {R : List (List Int)} {cur : Array Value} {x : Value} (h : Nx B V nv mm R hi) (hg : V.heap[g]? = some (.cells cur 3 (0, 0))) (hi' : hi ≤ g) : Nx B (V.setCell ⟨g, k, none⟩ x) nv mm R hi := by
  obtain ⟨vs, h1, h2, h3⟩ := h
  refine ⟨vs, own_same h1 fun k cur e _ => set_oth (ty_ne e hg (by decide)), h2, fun k hk2 => ?_⟩
  obtain ⟨g2, hg2, e, ho⟩ := h3 k hk2
  exact ⟨g2, hg2, e, ho.at_ (set_oth (by omega))⟩
theorem Ow.keepT {V V' : World} {B : Nat} {v : Value} {zs : List Int} (h : Ow V B 3 v zs) (hk : KeepT V V') : Ow V' B 3 v zs := ownsRow_keepT h hk (by decide) (by decide)
theorem LayS.oth {B : Nat} {V V' : World} {r mb : Nat} {ov nv : Value} {L : List (List Int)} (h : LayS B V r mb ov nv L) (hk : ∀ (k : Nat) (o : Obj), V.heap[k]? = some o → (∀ cs t f, o = Obj.cells cs t f → t = 80 ∨ t = 92) → V'.heap[k]? = V.heap[k]?) : LayS B V' r mb ov nv L := by
  obtain ⟨D, ⟨es, clock, h2, _⟩, _⟩ := id h.num
  refine ⟨(hk r _ h.box (fun cs t f e => by injection e with _ e _; exact .inr e.symm)).trans h.box, h.ord.same fun k hk2 => ?_, h.num.heap (hk mb _ h2 (fun cs t f e => by cases e)), h.full, h.lo⟩
  obtain ⟨cur, e⟩ := own_ty h.ord hk2
  exact hk k _ e (fun cs t f e => by injection e with _ e _; exact .inl e.symm)
theorem LayS.set {B : Nat} {V : World} {r mb g k : Nat} {ov nv x : Value} {L : List (List Int)} {cur : Array Value} (h : LayS B V r mb ov nv L) (hg : V.heap[g]? = some (.cells cur 3 (0, 0))) : LayS B (V.setCell ⟨g, k, none⟩ x) r mb ov nv L :=
  h.oth fun k o e ho => set_oth fun e2 => by
    subst e2
    rw [hg] at e
    have e := Option.some.inj e
    rcases ho _ _ _ e.symm with e | e <;> exact absurd e (by decide)
theorem LayS.nextv {B : Nat} {V V' : World} {r mb : Nat} {ov nv nv' : Value} {L : List (List Int)} (h : LayS B V r mb ov nv L) (hr : V'.heap[r]? = some (.cells #[ov, .map (some mb), nv'] 92 (0, 0))) (hk : ∀ k, k ≠ r → V'.heap[k]? = V.heap[k]?) : LayS B V' r mb ov nv' L := by
  obtain ⟨D, ⟨es, clock, h2, _⟩, _⟩ := id h.num
  refine ⟨hr, h.ord.same fun k hk2 => ?_, h.num.heap (hk mb fun e => ?_), h.full, h.lo⟩
  · obtain ⟨cur, e⟩ := own_ty h.ord hk2
    exact hk k (ty_ne e h.box (by decide))
  · have := h.box
    rw [← e, h2] at this
    cases this
theorem Owv.form {V : World} {B : Nat} {v : Value} {vs : List Value} (h : Owv V B v vs) : ∃ A c, v = .slice A vs.length c := by
  rcases h.2 with ⟨h0, h1⟩ | ⟨g, cap, cur, h1, _⟩
  · have : vs.length = 0 := by omega
    exact ⟨none, 0, by rw [h0, this]⟩
  · exact ⟨_, _, h1⟩
theorem lay_end (B : Nat) (V w7 : World) (r mb mm g : Nat) (ov nv v7 : Value) (L R : List (List Int)) (vs : List Value) (zs : List Int) (hS : LayS B V r mb ov nv L) (hov : Owv V B nv vs) (hvl : vs.length = R.length) (hvr : ∀ k, k < R.length → ∃ g, vs[k]? = some (.slice (some ⟨g, 0, none⟩) mm mm) ∧ Ow V B 3 (.slice (some ⟨g, 0, none⟩) mm mm) (ordAt R k)) (hO : Ow V B 3 (.slice (some ⟨g, 0, none⟩) mm mm) zs) (hG : V.grownBy w7 nv.ownBlock) (hO7 : Owv w7 B v7 (vs ++ [.slice (some ⟨g, 0, none⟩) mm mm])) :
    w7.heap[r]? = some (.cells #[ov, .map (some mb), nv] 92 (0, 0)) ∧ LayS B (w7.setCell ⟨r, 2, none⟩ v7) r mb ov v7 L ∧ Nx B (w7.setCell ⟨r, 2, none⟩ v7) v7 mm (R ++ [zs]) (w7.setCell ⟨r, 2, none⟩ v7).heap.size := by
  have hno : ∀ k cs t f, V.heap[k]? = some (Obj.cells cs t f) → t ≠ 22 → w7.heap[k]? = V.heap[k]? := fun k cs t f hk ht => hG.block k (Array.getElem?_eq_some_iff.1 hk).1 (fun e => by
    obtain ⟨cur, h1⟩ := own_ty hov e.symm
    exact ty_ne hk h1 ht rfl)
  have hS7 : LayS B w7 r mb ov nv L := hS.oth fun k o e ho => by
    refine hG.block k (Array.getElem?_eq_some_iff.1 e).1 (fun e2 => ?_)
    obtain ⟨cur, h1⟩ := own_ty hov e2.symm
    rw [h1] at e
    have e := Option.some.inj e
    rcases ho _ _ _ e.symm with e | e <;> exact absurd e (by decide)
  refine ⟨hS7.box, hS7.nextv (set_row1 hS7.box) (fun k hk => set_oth hk), ?_⟩
  have hrow : ∀ g zs, Ow V B 3 (.slice (some ⟨g, 0, none⟩) mm mm) zs → Ow (w7.setCell ⟨r, 2, none⟩ v7) B 3 (.slice (some ⟨g, 0, none⟩) mm mm) zs := fun g zs h => by
    obtain ⟨cur, h1⟩ := own_ty h (k := g) rfl
    have h7 := hno g _ _ _ h1 (by decide)
    exact (h.at_ h7).at_ (set_oth (ty_ne (h7.trans h1) hS7.box (by decide)))
  refine ⟨_, own_same hO7 fun k cur e _ => set_oth (ty_ne e hS7.box (by decide)), by simp [hvl], fun k hk => ?_⟩
  by_cases e : k < R.length
  · obtain ⟨gk, e1, ho⟩ := hvr k e
    have hh := hrow gk _ ho
    refine ⟨gk, (hh.lt (k := gk) rfl).2, ?_, ?_⟩
    · rw [List.getElem?_append_left (by omega)]; exact e1
    · rw [show ordAt (R ++ [zs]) k = ordAt R k from by unfold ordAt; rw [List.getElem?_append_left e]]
      exact hh
  · have e : k = R.length := by rw [List.length_append, List.length_singleton] at hk; omega
    have hh := hrow g _ hO
    refine ⟨g, (hh.lt (k := g) rfl).2, ?_, ?_⟩
    · rw [List.getElem?_append_right (by omega), e, hvl, Nat.sub_self]; rfl
    · rw [show ordAt (R ++ [zs]) k = zs from by unfold ordAt; rw [e, List.getElem?_append_right (Nat.le_refl _), Nat.sub_self]; rfl]
      exact hh
theorem Try.infoRowS : (Try.prog.info? 22).map (fun i => (i.zero, i.size, i.bytes)) = some (some (.slice none 0 0), 1, 24) := by kernel_rfl
theorem oCell {o : List Int} : #[Value.int .i64 (atI o 0), .int .i64 (atI o 1), .int .i64 (atI o 2), .int .i64 (atI o 3), .int .i64 (atI o 4), .int .i64 (atI o 5)] = oC o := rfl
set_option maxRecDepth 100000 in
set_option maxHeartbeats 6400000 in
theorem layOut_any (m : Nat) (w : World) (h1 : 1 ≤ m) (hm : m ≤ 6) :
    Calls Try.prog 61 #[.int .i64 (m : Int)] w fun e w' => (∃ r, e = .returned (.pointer (some ⟨r, 0, none⟩)) ∧ w.heap.size ≤ r ∧ (∃ mb ov nv, LayS w.heap.size w' r mb ov nv (layF m).1 ∧ ∃ hi, Nx w.heap.size w' nv (m - 1) (layF m).2 hi)) ∧ Below w.heap.size w w' := by
  obtain ⟨i0, hi, hz0, hz1, hz2⟩ := info_parts Try.infoInt
  have HIN : Hid (Try.prog.info? 3 = some i0 ∧ i0.zero = some (.int .i64 0) ∧ i0.size = 1 ∧ i0.bytes = 8) := ⟨hi, hz0, hz1, hz2⟩
  obtain ⟨iS, hi2, hz02, hz12, hz22⟩ := info_parts Try.infoRowS
  have HI2 : Hid (Try.prog.info? 22 = some iS ∧ iS.zero = some (.slice none 0 0) ∧ iS.size = 1 ∧ iS.bytes = 24) := ⟨hi2, hz02, hz12, hz22⟩
  clear hi hz0 hz1 hz2 hi2 hz02 hz12 hz22
  have hmm := @run_makeMap Try.prog
  obtain ⟨w1, hw1⟩ : ∃ v, v = (w.alloc (.map #[] 0)).alloc (.cells #[.slice none 0 0, .map (some w.heap.size), .slice none 0 0] 92) := ⟨_, rfl⟩
  have hb1 : Below w.heap.size w w1 := by rw [hw1]; exact ((Below.refl _ w).alloc (Nat.le_refl _) _).alloc (by simp) _
  have hS1 : LayS w.heap.size w1 (w.heap.size + 1) w.heap.size (.slice none 0 0) (.slice none 0 0) [] := by
    refine ⟨?_, Owo.nil _ _, ?_, fun o ho => (by cases ho), ⟨Nat.le_succ _, Nat.le_refl _⟩⟩
    · rw [hw1]
      have := heap_alloc_new (w.alloc (.map #[] 0)) (.cells #[.slice none 0 0, .map (some w.heap.size), .slice none 0 0] 92)
      simpa using this
    · rw [hw1]
      have := (KM.made encOr w 3).alloc (.cells #[.slice none 0 0, .map (some w.heap.size), .slice none 0 0] 92)
      rw [show (fun _ => none : List Int → Option Lit) = numM [] from by funext x; simp [numM]] at this
      exact this
  obtain ⟨mm, hmm1⟩ : ∃ mm, m = mm + 1 := ⟨m - 1, by omega⟩
  have v1 : IntKind.i64.wrap ((m : Int) - 1) = (mm : Int) := by rw [IntWalk.i64_in _ (by omega)]; omega
  have HMM : Hid (m = mm + 1 ∧ m ≤ 6) := ⟨hmm1, hm⟩
  have hFm : m - 1 = mm := by omega
  rw [hFm]
  have HFO := Lib.hid (fun V => firstOrder_any V)
  have HB1 := Lib.hid hb1
  have HS1 := Lib.hid hS1
  have HW1 := Lib.hid hw1
  have HLF : Hid (layF m = layG mm (50000 - 0) 0 [o6] []) := by rw [Hid]; unfold layF; rw [hFm]
  have HLI := Lib.hid (LayI.start m)
  clear hb1 hS1 hw1 h1 hm hmm1 hFm
  go_enter Try.func61, Try.ntmps61
  go_upto_region 2 with (fail)
  rw [← HW1.out]
  obtain ⟨r, hr⟩ : ∃ r, r = w.heap.size + 1 := ⟨_, rfl⟩
  obtain ⟨mb, hmb⟩ : ∃ r, r = w.heap.size := ⟨_, rfl⟩
  rw [← hr]
  rw [← hr, show LayS w.heap.size w1 r w.heap.size (Value.slice none 0 0) (Value.slice none 0 0) [] = LayS w.heap.size w1 r mb (Value.slice none 0 0) (Value.slice none 0 0) [] from by rw [← hmb]] at HS1
  have HRB : Hid (w.heap.size ≤ r) := by rw [Hid]; omega
  clear HW1 hr hmb
  go_upto_region 3 with (first
    | (go_at_call 57; refine (HFO.out _).mono ?_; rintro e V1 ⟨rfl, hb⟩; have HS2 := Lib.hid (HS1.out.belowN hb); have HB2 := Lib.hid (HB1.out.trans (hb.mono HB1.out.size)); clear hb)
    | (go_at_call 78; refine (number_any w.heap.size _ r mb _ _ [] o6 HS2.out fullO_o6 (by simp)).mono ?_; rintro e V2 ⟨rfl, ⟨ov2, hl⟩, hb, hk⟩; have HS3 := Lib.hid hl; have HB3 := Lib.hid (HB2.out.trans hb); clear hb hl hk))
  clear HS1 HB1 HS2 HB2 HFO hmm
  have HN3 : Hid (Nx w.heap.size V2 (.slice none 0 0) mm [] 0) := ⟨[], ⟨by simp, .inl ⟨rfl, rfl⟩⟩, rfl, fun k hk => absurd hk (Nat.not_lt_zero _)⟩
  go_wp2
  go_loopw [4] (fun i w' => ∃ (k : Nat) (L R : List (List Int)) (ov nv : Value) (hi : Nat), i = .int .i64 (k : Int) ∧ Hid (LayI m L R k) ∧ Hid (layF m = layG mm (50000 - k) k L R) ∧ Hid (LayS w.heap.size w' r mb ov nv L) ∧ Hid (Nx w.heap.size w' nv mm R hi) ∧ Hid (Below w.heap.size w w')) (fun i _ => 46657 - (intOf i).toNat)
  case atStart => exact ⟨0, [o6], [], ov2, .slice none 0 0, 0, by go_num, HLI.out, HLF.out, HS3.out, HN3.out, HB3.out⟩
  case round =>
    obtain ⟨k, L, R, ov, nv, hi, rfl, HI, HF, HS, HN, HB⟩ := hrel
    obtain ⟨wo, rfl⟩ : ∃ wo : World, wo = wr := ⟨_, rfl⟩
    clear HS3 HB3 HLI HLF HN3
    have hle := orders_le HI.out.nd HI.out.full
    have hkl := HI.out.kle
    obtain ⟨A, c, rfl, hslo⟩ := HS.out.ord.slo rfl (by omega) (fun o ho => (HI.out.full o ho).len)
    have d0 : wo.cell? ⟨r, 0, none⟩ = some (.slice A L.length c) := cell_in HS.out.box rfl
    obtain ⟨nL, hnL⟩ : ∃ k, k = L.length := ⟨_, rfl⟩
    have HNL := Lib.hid hnL
    rw [← hnL] at d0 hkl hle hslo HS
    clear hnL hslo
    have hmm6 := HMM.out
    have hN := HN.out.up
    have HNU := Lib.hid hN
    have HK := Lib.hid (show k < 46657 ∧ nL ≤ 46656 from ⟨by omega, hle⟩)
    by_cases hlt : k < nL
    · have i1 : (k : Int) < (nL : Int) := by omega
      have HO := Lib.hid (HI.out.full _ (ordAt_mem (L := L) (k := k) (by rw [← HNL.out]; exact hlt)))
      have HST := Lib.hid (HI.out.step (by omega) (k := k) (by rw [← HNL.out]; exact hlt))
      have HAT : Hid (∀ p, ordAt (exL L (ordAt L k) p) k = ordAt L k) := fun p => exL_at (by rw [← HNL.out]; exact hlt) p
      have HEL : Hid (∀ p, nL ≤ (exL L (ordAt L k) p).length) := fun p => by rw [HNL.out]; exact exL_len _ _ p
      have HEA : Hid (∀ p, p ≤ mm → (exL L (ordAt L k) p).length ≤ 46656 ∧ ∀ x ∈ exL L (ordAt L k) p, FullO x) := fun p hp => by
        obtain ⟨a1, a2, _⟩ := exL_all (m := m) (by omega) HI.out.nd HI.out.full HI.out.tail HO.out (HI.out.tail _ (ordAt_mem (by rw [← HNL.out]; exact hlt))) p (by omega)
        exact ⟨orders_le a1 a2, a2⟩
      have HMV : Hid (∀ p : Nat, p < mm → ∀ V, Calls Try.prog 59 #[oV (ordAt L k), .int .i64 ((p : Int) + 1), .int .i64 (p : Int)] V fun e w' => e = .returned (oV (movedL (ordAt L k) (p + 1) p)) ∧ Below V.heap.size V w') := fun p hp V => movedP_any (ordAt L k) (p + 1) p V HO.out.len (by omega) (by omega)
      have HFM : Hid (∀ p, p < mm → FullO (movedL (ordAt L k) (p + 1) p)) := fun p hp => HO.out.moved (by omega) p
      have HLG : Hid (layF m = layG mm (50000 - (k + 1)) (k + 1) (exL L (ordAt L k) mm) (R ++ [exR L (ordAt L k) mm])) := by
        have := HF.out
        rw [show 50000 - k = (50000 - (k + 1)) + 1 by omega] at this
        rw [Hid, this]
        show (if k < L.length then _ else _) = _
        rw [if_pos (by rw [← HNL.out]; exact hlt)]
      have hsz : w.heap.size ≤ wo.heap.size := HB.out.size
      have HSZ := Lib.hid hsz
      have hm1 : (mm : Int) ≤ 5 := by omega
      rw [show m - 1 = mm by omega] at HST
      clear hle hkl hmm6 hlt hsz hN HN HF HI
      go_upto_region 7 with (at_make; go_must (refine make_law _ rfl (.tmp 24) (.tmp 24) 22 rfl w.heap.size 3 i0 Try.underlying22 HIN.out _ _ mm rfl rfl (by omega) (by omega) (by omega) HSZ.out ?_); intro w3 ho3 hg3; have HO3 := Lib.hid ho3; have HG3 := Lib.hid hg3; clear ho3 hg3)
      have hb3 : Below wo.heap.size wo w3 := ⟨HG3.out.os, HG3.out.tape, HG3.out.output, HG3.out.size, fun k hk => HG3.out.block k hk (by simp)⟩
      have HS3 := Lib.hid (HS.out.belowN hb3)
      have HN3 := Lib.hid (HNU.out.keep (KeepT.below hb3))
      have HB3 := Lib.hid (HB.out.trans (hb3.mono HSZ.out))
      clear hb3 HG3 HS HNU HB d0
      generalize wo.heap.size = g at *
      go_wp2
      go_loopw [28] (fun i w' => ∃ (p : Nat) (ov : Value), p ≤ mm ∧ i = .int .i64 (p : Int) ∧ Hid (LayS w.heap.size w' r mb ov nv (exL L (ordAt L k) p)) ∧ Hid (Ow w' w.heap.size 3 (.slice (some ⟨g, 0, none⟩) mm mm) (mixL (exN L (ordAt L k)) mm p)) ∧ Hid (Nx w.heap.size w' nv mm R g) ∧ Hid (Below w.heap.size w w')) (fun i _ => mm - (intOf i).toNat)
      case atStart =>
        refine ⟨0, _, Nat.zero_le _, by go_num, HS3.out, ?_, HN3.out, HB3.out⟩
        have := HO3.out
        rwa [show mixL (exN L (ordAt L k)) mm 0 = List.replicate mm 0 by simp [mixL]]
      case round =>
        clear HS3 HN3 HB3 HO3
        obtain ⟨p, ov, hp, rfl, HS, HO4, HN, HB⟩ := hrel
        obtain ⟨wp, rfl⟩ : ∃ wp : World, wp = wr := ⟨_, rfl⟩
        by_cases hlt : p < mm
        · have i2 : (p : Int) < (mm : Int) := by omega
          have hEA := HEA.out p hp
          obtain ⟨A2, c2, rfl, hslo⟩ := HS.out.ord.slo rfl (by omega) (fun o ho => (hEA.2 o ho).len)
          obtain ⟨b, off, rfl, _, hc⟩ := hslo.rows k (by have := HEL.out p; have := HK.out; omega)
          rw [HAT.out p] at hc
          have dd : wp.cell? ⟨r, 0, none⟩ = some (.slice (some ⟨b, off, none⟩) (exL L (ordAt L k) p).length c2) := cell_in HS.out.box rfl
          have d0 := hc 0 (by omega)
          rw [Nat.add_zero] at d0
          have d1 := hc 1 (by omega)
          have d2 := hc 2 (by omega)
          have d3 := hc 3 (by omega)
          have d4 := hc 4 (by omega)
          have d5 := hc 5 (by omega)
          have HM := Lib.hid (HMV.out p hlt)
          have HFP := Lib.hid (HFM.out p hlt)
          have HLE : Hid ((exL L (ordAt L k) p).length ≤ 100000) := by have := hEA.1; rw [Hid]; omega
          have HX1 : Hid (exL L (ordAt L k) (p + 1) = addO (exL L (ordAt L k) p) (movedL (ordAt L k) (p + 1) p)) := rfl
          have HX2 : Hid (((addO (exL L (ordAt L k) p) (movedL (ordAt L k) (p + 1) p)).idxOf (movedL (ordAt L k) (p + 1) p) : Int) = exN L (ordAt L k) p) := rfl
          have i3 : (k : Int) < ((exL L (ordAt L k) p).length : Int) := by have := HEL.out p; have := HK.out; omega
          have v2 : IntKind.i64.wrap ((p : Int) + 1) = (p : Int) + 1 := IntWalk.i64_in _ (by omega)
          obtain ⟨ms, hms⟩ : ∃ ms, ms = movedL (ordAt L k) (p + 1) p := ⟨_, rfl⟩
          rw [← hms] at HM HFP HX1 HX2
          have HMX := Lib.hid (show exN L (ordAt L k) = exN L (ordAt L k) ∧ exL L (ordAt L k) p = exL L (ordAt L k) p from ⟨rfl, rfl⟩)
          obtain ⟨fN, hfN⟩ : ∃ f, f = exN L (ordAt L k) := ⟨_, rfl⟩
          rw [← hfN] at HO4 HX2 ⊢
          obtain ⟨Lp, hLp⟩ : ∃ f, f = exL L (ordAt L k) p := ⟨_, rfl⟩
          rw [← hLp] at HS dd HLE HX1 HX2 i3
          have HBZ : Hid (w.heap.size ≤ wp.heap.size) := HB.out.size
          clear hc hslo hEA hp hms hfN hLp HMX HAT HEL HEA HMV HFM HO HST HLG
          obtain ⟨nP, hnP⟩ : ∃ k, k = Lp.length := ⟨_, rfl⟩
          rw [← hnP] at dd i3
          have HNP := Lib.hid hnP
          clear hnP
          rw [show oV (ordAt L k) = .agg #[.int .i64 (atI (ordAt L k) 0), .int .i64 (atI (ordAt L k) 1), .int .i64 (atI (ordAt L k) 2), .int .i64 (atI (ordAt L k) 3), .int .i64 (atI (ordAt L k) 4), .int .i64 (atI (ordAt L k) 5)] from rfl] at HM
          go_upto_region 10 with (fail)
          generalize atI (ordAt L k) 0 = a0 at *
          generalize atI (ordAt L k) 1 = a1 at *
          generalize atI (ordAt L k) 2 = a2 at *
          generalize atI (ordAt L k) 3 = a3 at *
          generalize atI (ordAt L k) 4 = a4 at *
          generalize atI (ordAt L k) 5 = a5 at *
          go_upto_region 11 with (go_at_call 59; with_reducible refine (HM.out _).mono ?_; rintro e V3 ⟨rfl, hb⟩; have HS4 := Lib.hid (HS.out.belowN hb); have HO5 := Lib.hid (HO4.out.below hb (Nat.le_refl _)); have HN4 := Lib.hid (HN.out.keep (KeepT.below hb)); have HB4 := Lib.hid (HB.out.trans (hb.mono HBZ.out)); clear hb)
          obtain ⟨W4, hW4⟩ : ∃ X, X = V3.alloc (.cells (oC ms) 80) := ⟨_, rfl⟩
          have hb4 : Below V3.heap.size V3 W4 := by rw [hW4]; exact (Below.refl _ V3).alloc (Nat.le_refl _) _
          have hr4 : W4.heap[V3.heap.size]? = some (.cells (oC ms) 80 (0, 0)) := by rw [hW4]; exact heap_alloc_new _ _
          have HS5 := Lib.hid (HS4.out.belowN hb4)
          have HO6 := Lib.hid (HO5.out.below hb4 (Nat.le_refl _))
          have HN5 := Lib.hid (HN4.out.keep (KeepT.below hb4))
          have HB5 := Lib.hid (HB4.out.trans (hb4.mono HB4.out.size))
          rw [show V3.alloc (Obj.cells #[.int .i64 (atI ms 0), .int .i64 (atI ms 1), .int .i64 (atI ms 2), .int .i64 (atI ms 3), .int .i64 (atI ms 4), .int .i64 (atI ms 5)] 80) = W4 from hW4.symm]
          have e0 : W4.cell? ⟨V3.heap.size, 0, none⟩ = some (.int .i64 (atI ms 0)) := cell_in hr4 rfl
          have e1 : W4.cell? ⟨V3.heap.size, 1, none⟩ = some (.int .i64 (atI ms 1)) := cell_in hr4 rfl
          have e2 : W4.cell? ⟨V3.heap.size, 2, none⟩ = some (.int .i64 (atI ms 2)) := cell_in hr4 rfl
          have e3 : W4.cell? ⟨V3.heap.size, 3, none⟩ = some (.int .i64 (atI ms 3)) := cell_in hr4 rfl
          have e4 : W4.cell? ⟨V3.heap.size, 4, none⟩ = some (.int .i64 (atI ms 4)) := cell_in hr4 rfl
          have e5 : W4.cell? ⟨V3.heap.size, 5, none⟩ = some (.int .i64 (atI ms 5)) := cell_in hr4 rfl
          have HNC := number_any w.heap.size W4 r mb _ nv Lp ms HS5.out HFP.out HLE.out
          rw [HX2.out, ← HX1.out, show oV ms = .agg #[.int .i64 (atI ms 0), .int .i64 (atI ms 1), .int .i64 (atI ms 2), .int .i64 (atI ms 3), .int .i64 (atI ms 4), .int .i64 (atI ms 5)] from rfl] at HNC
          have HNC := Lib.hid HNC
          have HPM := Lib.hid hlt
          rw [show oV ms = .agg #[.int .i64 (atI ms 0), .int .i64 (atI ms 1), .int .i64 (atI ms 2), .int .i64 (atI ms 3), .int .i64 (atI ms 4), .int .i64 (atI ms 5)] from rfl]
          generalize atI ms 0 = b0 at *
          generalize atI ms 1 = b1 at *
          generalize atI ms 2 = b2 at *
          generalize atI ms 3 = b3 at *
          generalize atI ms 4 = b4 at *
          generalize atI ms 5 = b5 at *
          clear hW4 hb4 hr4 HS4 HO5 HN4 HB4 HS HO4 HN HB HM d0 d1 d2 d3 d4 d5 dd i3 HS5 HBZ HFP HLE HX1 HX2
          generalize V3.heap.size = gx at *
          go_wp2_with (go_at_call 78; go_must (refine HNC.out.mono ?_); rintro e V5 ⟨rfl, ⟨ov5, hl⟩, hb, hk⟩; have HS6 := Lib.hid hl; have HO7 := Lib.hid (HO6.out.keepT hk); have HN6 := Lib.hid (HN5.out.keep hk); have HB6 := Lib.hid (HB5.out.trans hb); have c1' := HO7.out.cellAt (mixL_len fN (Nat.le_of_lt HPM.out)) HPM.out; have f1' := HO7.out.free (mixL_len fN (Nat.le_of_lt HPM.out)) p; clear hl hb hk; generalize ((mixL fN mm p)[p]?.getD 0) = z0 at c1')
          obtain ⟨cur, hg⟩ := HO7.out.blk
          refine ⟨⟨p + 1, ov5, HPM.out, by go_num, HS6.out.set hg, ?_, HN6.out.set hg (Nat.le_refl _), HB6.out.setCell (p := ⟨g, p, none⟩) (HO7.out.lt (k := g) rfl).1 _⟩, ?_⟩
          · rw [← mixL_set fN HPM.out]
            exact HO7.out.put (mixL_len fN (Nat.le_of_lt HPM.out)) p _
          · have := HPM.out
            simp [intOf]; omega
        · have hpm : p = mm := by omega
          subst hpm
          have i2 : ¬ (p : Int) < (p : Int) := by omega
          have HRW : Hid (Ow wp w.heap.size 3 (.slice (some ⟨g, 0, none⟩) p p) (exR L (ordAt L k) p)) := by
            have := HO4.out
            rwa [show mixL (exN L (ordAt L k)) p p = exR L (ordAt L k) p by simp [mixL, exR]] at this
          clear HO4
          obtain ⟨vs, hov, hvl, hvr⟩ := HN.out
          obtain ⟨A5, c5, rfl⟩ := hov.form
          have d2 : wp.cell? ⟨r, 2, none⟩ = some (.slice A5 vs.length c5) := cell_in HS.out.box rfl
          have HOV := Lib.hid hov
          have HVL := Lib.hid hvl
          have HVR := Lib.hid hvr
          have HRL := Lib.hid (show vs.length ≤ 1000000 by rw [hvl]; have := HST.out.len; rw [List.length_append, List.length_singleton] at this; have := HK.out; omega)
          have HBZ : Hid (w.heap.size ≤ wp.heap.size) := HB.out.size
          clear hov hvl hvr HN HEL HEA HMV HFM HAT HO
          generalize ordAt L k = o at *
          generalize exR L o p = zs at *
          generalize exL L o p = L2 at *
          obtain ⟨nv5, hnv5⟩ : ∃ k, k = vs.length := ⟨_, rfl⟩
          have HNV := Lib.hid hnv5
          rw [← hnv5] at HOV d2 HS HRL
          clear hnv5
          go_wp2_with (at_builtin; go_must (refine pushv_law _ rfl (.tmp 53) (.tmp 55) 43 rfl w.heap.size iS Try.underlying43 HI2.out _ vs _ _ _ rfl rfl HOV.out (by have := HNV.out; have := HRL.out; omega) HBZ.out ?_); intro v7 w7 hown hg; obtain ⟨A7, c7, rfl⟩ := hown.form; have hE := lay_end w.heap.size wp w7 r mb p g _ _ _ _ R vs zs HS.out HOV.out HVL.out (fun k hk => (by obtain ⟨g, _, e1, e2⟩ := HVR.out k hk; exact ⟨g, e1, e2⟩)) HRW.out hg hown; have d7 : w7.cell? ⟨r, 2, none⟩ = some (.slice A5 nv5 c5) := cell_in hE.1 rfl; have f7 := frz (i := 2) hE.1; have HE := Lib.hid hE; have HB7 := Lib.hid (HB.out.grown hg HBZ.out (fun j e => (World.ownsRow.lt HOV.out j e).1)); clear hown hg hE d2)
          have hE := HE.out
          rw [List.length_append, List.length_singleton] at hE
          have hk := HK.out
          have hr := HRB.out
          have v9 : wrap64 ((k : Int) + 1) = (k : Int) + 1 := IntWalk.wrap64_in _ ⟨by omega, by omega⟩
          refine ⟨⟨k + 1, _, _, _, _, _, by rw [v9]; rfl, HST.out, HLG.out, hE.2.1, hE.2.2, HB7.out.setCell (p := ⟨r, 2, none⟩) hr _⟩, ?_⟩
          rw [v9]
          simp [intOf]; omega
    · have i1 : ¬ (k : Int) < (nL : Int) := by omega
      clear hmm6
      go_wp2
      go_ret
      have hEQ : layF m = (L, R) := by
        rw [HF.out, show 50000 - k = (49999 - k) + 1 by omega]
        show (if k < L.length then _ else _) = _
        rw [if_neg (by rw [← HNL.out]; exact hlt)]
      rw [hEQ]
      exact ⟨⟨r, rfl, HRB.out, mb, _, nv, HS.out, _, HN.out⟩, HB.out⟩
end Go.Proofs.Ytcnjkdkkflpgnaa
/- Layer 8: Ideal of the program. -/
namespace Go.Proofs.Ytcnjkdkkflpgnaa
open Go.RowKit Go.Maps
set_option linter.unusedVariables false

theorem LayS.rowR {B : Nat} {V : World} {r mb mm hi : Nat} {ov nv : Value} {L R : List (List Int)} (h : LayS B V r mb ov nv L) (hN : Nx B V nv mm R hi) (hL : L.length ≤ 1000000) (hR : R.length = L.length) (hr : ∀ k, k < L.length → (ordAt R k).length = mm) (hm : mm ≤ 6) : RowR V r L R := by
  obtain ⟨A, c, rfl, hslo⟩ := h.ord.slo rfl hL (fun o ho => (h.full o ho).len)
  refine ⟨⟨A, _, c, cell_in h.box rfl, hslo⟩, ?_, (Array.getElem?_eq_some_iff.1 h.box).1⟩
  obtain ⟨vs, hov, hvl, hvr⟩ := hN
  obtain ⟨A5, c5, rfl⟩ := hov.form
  refine ⟨A5, _, c5, cell_in h.box rfl, by omega, by omega, fun k hk => ?_⟩
  obtain ⟨g, hg, hu, ho⟩ := hvr k (by omega)
  have hx := hov
  rcases hov.2 with ⟨_, h1⟩ | ⟨g5, cap, cur, h1, h2, h3, h4⟩
  · exfalso; omega
  · injection h1 with h1 _ h6
    subst h1 h6
    refine ⟨g5, 0, rfl, (Array.getElem?_eq_some_iff.1 h3).1, some ⟨g, 0, none⟩, mm, mm, ?_, ?_⟩
    · have hc := World.ownsRow.cellAt hx k (by omega)
      rw [Nat.zero_add, hc]; exact hu
    · obtain ⟨A6, c6, e6, hs6⟩ := ho.sl_len (hr k (by omega)) (by omega)
      injection e6 with e6 _ e7
      subst e6 e7
      exact hs6
/-- The call owns this history. -/
def Hst (w : World) (B : Nat) (v : Value) (rows : List (List Int)) : Prop :=
  ∃ vs, Owv w B v vs ∧ vs.length = rows.length ∧ ∀ k, k < rows.length → ∃ u, vs[k]? = some u ∧ Ow w B 3 u (ordAt rows k)
theorem Hst.nil (w : World) (B : Nat) : Hst w B (.slice none 0 0) [] := ⟨[], ⟨by simp, .inl ⟨rfl, rfl⟩⟩, rfl, fun k hk => absurd hk (Nat.not_lt_zero _)⟩
theorem Owv.below {w w' : World} {B b : Nat} {v : Value} {vs : List Value} (h : Owv w B v vs) (hb : Below b w w') (hs : w.heap.size ≤ b) : Owv w' B v vs := own_same h fun k cur e _ => hb.block k (by have := (Array.getElem?_eq_some_iff.1 e).1; omega)
theorem Hst.below {w w' : World} {B b : Nat} {v : Value} {rows : List (List Int)} (h : Hst w B v rows) (hb : Below b w w') (hs : w.heap.size ≤ b) : Hst w' B v rows := by
  obtain ⟨vs, h1, h2, h3⟩ := h
  exact ⟨vs, h1.below hb hs, h2, fun k hk => by obtain ⟨u, hu, ho⟩ := h3 k hk; exact ⟨u, hu, ho.below hb hs⟩⟩
theorem Hst.base {w : World} {B B' : Nat} {v : Value} {rows : List (List Int)} (h : Hst w B v rows) (hB : B' ≤ B) : Hst w B' v rows := by
  obtain ⟨vs, h1, h2, h3⟩ := h
  refine ⟨vs, ?_, h2, fun k hk => by obtain ⟨u, hu, ho⟩ := h3 k hk; exact ⟨u, hu, ho.base hB⟩⟩
  refine ⟨h1.1, ?_⟩
  rcases h1.2 with h | ⟨g, cap, cur, e1, e2, e3, e4⟩
  · exact .inl h
  · exact .inr ⟨g, cap, cur, e1, Nat.le_trans hB e2, e3, e4⟩
theorem Hst.push {w w' : World} {B : Nat} {v v' u : Value} {vs : List Value} {rows : List (List Int)} {row : List Int} (hov : Owv w B v vs) (hvl : vs.length = rows.length) (hvr : ∀ k, k < rows.length → ∃ u, vs[k]? = some u ∧ Ow w B 3 u (ordAt rows k)) (hu : Ow w B 3 u row) (ho : Owv w' B v' (vs ++ [u])) (hg : w.grownBy w' v.ownBlock) : Hst w' B v' (rows ++ [row]) := by
  have hk : ∀ u zs, Ow w B 3 u zs → Ow w' B 3 u zs := fun u zs h => own_same h fun k cur e _ => hg.block k (Array.getElem?_eq_some_iff.1 e).1 (fun e2 => by
    obtain ⟨c2, h2⟩ := own_ty hov e2.symm
    exact ty_ne e h2 (by decide) rfl)
  refine ⟨_, ho, by simp [hvl], fun k hk2 => ?_⟩
  by_cases e : k < rows.length
  · obtain ⟨u2, h1, h2⟩ := hvr k e
    refine ⟨u2, by rw [List.getElem?_append_left (by omega)]; exact h1, ?_⟩
    rw [show ordAt (rows ++ [row]) k = ordAt rows k from by unfold ordAt; rw [List.getElem?_append_left e]]
    exact hk _ _ h2
  · have e : k = rows.length := by rw [List.length_append, List.length_singleton] at hk2; omega
    refine ⟨u, by rw [List.getElem?_append_right (by omega), e, hvl, Nat.sub_self]; rfl, ?_⟩
    rw [show ordAt (rows ++ [row]) k = row from by unfold ordAt; rw [e, List.getElem?_append_right (Nat.le_refl _), Nat.sub_self]; rfl]
    exact hk _ _ hu
/-- The order in which the k-th request is served. -/
def idO (m : Nat) (zs : List Int) (k : Nat) : Nat := flS (layF m).1 (layF m).2 (m - 1) zs k (flA (layF m).1 (layF m).2 (m - 1) zs k)
def idL (m : Nat) (zs : List Int) (k : Nat) : List (List Int) := (List.range k).map fun j => (ordAt (layF m).1 (idO m zs j)).take m
def idN (m : Nat) (zs : List Int) : Int := atI (rjF (layF m).1 (layF m).2 (m - 1) zs zs.length) 0
theorem idL_succ (m : Nat) (zs : List Int) (k : Nat) : idL m zs (k + 1) = idL m zs k ++ [(ordAt (layF m).1 (idO m zs k)).take m] := by unfold idL; rw [List.range_succ, List.map_append]; rfl
theorem idO_lt {m : Nat} {zs : List Int} (h1 : 1 ≤ m) (hm : m ≤ 6) (hz : ∀ i, i < zs.length → ∃ r : Nat, atI zs i = (r : Int) ∧ r < m) {k : Nat} (hk : k < zs.length) : idO m zs k < (layF m).1.length :=
  flW_lt (layF_laid h1 hm) _ _ _ _ _ (flA_lt (layF_laid h1 hm) hz k (by omega))
theorem flL_at {L R : List (List Int)} {mm n : Nat} {zs : List Int} {k : Nat} (hk : k < n) : atI (flL L R mm zs n) k = (flS L R mm zs k (flA L R mm zs k) : Int) := by
  unfold flL
  rw [atI_map, if_pos hk]
theorem layF_full {m : Nat} (h1 : 1 ≤ m) (hm : m ≤ 6) : (layF m).1.length ≤ 46656 ∧ ∀ o ∈ (layF m).1, FullO o := by
  have h : LayI m (layF m).1 (layF m).2 (layF m).1.length := layG_end hm 50000 0 _ _ (LayI.start m) (by omega)
  exact ⟨orders_le h.nd h.full, h.full⟩
theorem layF_row {m : Nat} (h1 : 1 ≤ m) (hm : m ≤ 6) (k : Nat) (hk : k < (layF m).1.length) : (ordAt (layF m).2 k).length = m - 1 := by
  have h : LayI m (layF m).1 (layF m).2 (layF m).1.length := layG_end hm 50000 0 _ _ (LayI.start m) (by omega)
  exact (h.row k hk).1
set_option maxRecDepth 100000 in
set_option maxHeartbeats 6400000 in
theorem ideal_any (m : Int) (zs : List Int) (A : Option Addr) (n c : Nat) (w : World) (h : Sl w A n c zs) :
    Calls Try.prog 30 #[.int .i64 m, .slice A n c] w fun e w' => ((isRowB m zs = true ∧ ∃ v, e = .returned (.tuple #[.int .i64 (idN m.toNat zs), v, .int .i64 0]) ∧ Hst w' w.heap.size v (idL m.toNat zs n)) ∨ (isRowB m zs = false ∧ e = .returned (.tuple #[.int .i64 0, .slice none 0 0, .int .i64 2]))) ∧ Below w.heap.size w w' := by
  have hbig := h.big
  have HIS := Lib.hid (isRow_any m zs A n c w h)
  have HL : Hid (zs.length = n) := h.len
  cases hrb : isRowB m zs
  · have HRB := Lib.hid hrb
    rw [hrb] at HIS
    clear h hrb
    go_enter Try.func30, Try.ntmps30
    go_wp2_with (go_at_call 56; refine HIS.out.mono ?_; rintro e w1 ⟨rfl, hb1⟩; have HB1 := Lib.hid hb1; clear hb1)
    go_ret3
    exact ⟨.inr ⟨by simp, rfl⟩, HB1.out⟩
  · obtain ⟨mm, rfl, hm1, hm6, hn60, hzz⟩ := isRowB_parts hrb
    have HLA := Lib.hid (layF_laid hm1 hm6)
    have HFU := Lib.hid (layF_full hm1 hm6)
    have HRO := Lib.hid (layF_row hm1 hm6)
    have HSL := Lib.hid (fun V (hV : Below w.heap.size w V) => h.below hV (Nat.le_refl _))
    have HN6 : Hid (n ≤ 60) := by rw [Hid, ← HL.out]; exact hn60
    have HZZ : Hid (∀ i, i < n → ∃ r : Nat, atI zs i = (r : Int) ∧ r < mm) := by rw [Hid, ← HL.out]; exact hzz
    have HIO : Hid (∀ k, k < n → idO mm zs k < (layF mm).1.length) := by rw [Hid, ← HL.out]; exact fun k hk => idO_lt hm1 hm6 hzz hk
    have HRJ := Lib.hid (rjF_len (layF mm).1 (layF mm).2 (mm - 1) zs)
    have HIN : Hid (idN mm zs = atI (rjF (layF mm).1 (layF mm).2 (mm - 1) zs n) 0) := by rw [Hid, ← HL.out]; rfl
    have HFL : Hid (∀ k, k < n → atI (flL (layF mm).1 (layF mm).2 (mm - 1) zs n) k = (idO mm zs k : Int)) := fun k hk => flL_at hk
    have HFN : Hid ((flL (layF mm).1 (layF mm).2 (mm - 1) zs n).length = n) := flL_len _ _ _ _ _
    have HIL := Lib.hid (idL_succ mm zs)
    have HI0 : Hid (idL mm zs 0 = []) := rfl
    have HLO := Lib.hid (fun V => layOut_any mm V hm1 hm6)
    have HMM : Hid (1 ≤ mm ∧ mm ≤ 6) := ⟨hm1, hm6⟩
    obtain ⟨iS, hi2, hz02, hz12, hz22⟩ := info_parts Try.infoRowS
    have HI2 : Hid (Try.prog.info? 22 = some iS ∧ iS.zero = some (.slice none 0 0) ∧ iS.size = 1 ∧ iS.bytes = 24) := ⟨hi2, hz02, hz12, hz22⟩
    rw [hrb] at HIS
    rw [Int.toNat_natCast]
    generalize (layF mm).1 = L at *
    generalize (layF mm).2 = R at *
    clear h hrb hzz hn60 hi2 hz02 hz12 hz22
    go_enter Try.func30, Try.ntmps30
    go_upto_region 5 with (first
      | (go_at_call 56; refine HIS.out.mono ?_; rintro e w1 ⟨rfl, hb1⟩; have HB1 := Lib.hid hb1; clear hb1)
      | (go_at_call 61; refine (HLO.out _).mono ?_; rintro e w2 ⟨⟨r, rfl, hr, mb, ov, nv, hS, hi, hN⟩, hb2⟩; have HB2 := Lib.hid (HB1.out.trans (hb2.mono HB1.out.size)); have HRR := Lib.hid hr; have HRW := Lib.hid (hS.rowR hN (by have := HFU.out.1; omega) HLA.out.len HRO.out (by have := HMM.out; omega)); clear hb2 hr hS hN)
      | (go_at_call 62; refine (rest_any mm L R zs A n c r _ HLA.out HRW.out (HSL.out _ HB2.out) HN6.out HZZ.out).mono ?_; rintro e w3 ⟨⟨pr, rfl, hrs⟩, hb3⟩; have HRS := Lib.hid (hrs.read (by have := HFU.out.1; omega) HRJ.out); have HRW3 := Lib.hid (HRW.out.below hb3); have HB3 := Lib.hid (HB2.out.trans (hb3.mono HB2.out.size)); clear hb3 hrs))
    go_upto_region 6 with (fail)
    go_wp2_with (go_at_call 63; refine (follow_any mm L R zs A n c r pr _ HLA.out HRW3.out (HSL.out _ HB3.out) HN6.out HZZ.out HRS.out).mono ?_; rintro e w4 ⟨⟨v, rfl, hv⟩, hb4⟩; obtain ⟨A9, c9, rfl, hs9⟩ := hv.sl_len HFN.out (by have := HN6.out; omega); have HRW4 := Lib.hid (HRW3.out.below hb4); have HRS4 := Lib.hid (HRS.out.below hb4); have HB4 := Lib.hid (HB3.out.trans (hb4.mono HB3.out.size)); have HS9 := Lib.hid hs9; clear hb4 hv hs9)
    have HB6 := Lib.hid (show w.heap.size ≤ w4.heap.size from HB4.out.size)
    clear HB1 HB2 HRW HRW3 HRS HB3 HIS HLO HSL HZZ
    go_loopw [9, 26] (fun hv i w' => ∃ k : Nat, k ≤ n ∧ i = .int .i64 (k : Int) ∧ Hid (Hst w' w4.heap.size hv (idL mm zs k)) ∧ Hid (Below w4.heap.size w4 w')) (fun _ i _ => n - (intOf i).toNat)
    case atStart => exact ⟨0, Nat.zero_le _, by go_num, by rw [HI0.out]; exact Hst.nil _ _, Below.refl _ _⟩
    case round =>
      obtain ⟨k, hk, rfl, HH, HB⟩ := hrel
      obtain ⟨wo, rfl⟩ : ∃ wo : World, wo = wr := ⟨_, rfl⟩
      have hn6 := HN6.out
      by_cases hlt : k < n
      · have i1 : (k : Int) < (n : Int) := by omega
        have hso := HS9.out.below HB.out (Nat.le_refl _)
        obtain ⟨b, off, rfl, hc⟩ := hso.at_ hlt
        rw [show (flL L R (mm - 1) zs n)[k]?.getD 0 = (idO mm zs k : Int) from HFL.out k hlt] at hc
        have hq := HIO.out k hlt
        have HO := Lib.hid (HFU.out.2 _ (ordAt_mem hq))
        have HX := Lib.hid (HIL.out k)
        obtain ⟨A1, n1, c1, d0, h1⟩ := (HRW4.out.below HB.out).o
        obtain ⟨b1, o1, rfl, _, hc1⟩ := h1.rows (idO mm zs k) (by have := h1.len; omega)
        have i2 : ((idO mm zs k : Nat) : Int) < (n1 : Int) := by have := h1.len; omega
        have e0 := hc1 0 (by omega)
        rw [Nat.add_zero] at e0
        have e1 := hc1 1 (by omega)
        have e2 := hc1 2 (by omega)
        have e3 := hc1 3 (by omega)
        have e4 := hc1 4 (by omega)
        have e5 := hc1 5 (by omega)
        have HLS := list_ord (ordAt L (idO mm zs k)) mm
        have HLS := Lib.hid (fun V => HLS V HO.out.len HMM.out.2)
        have HTL : Hid ((ordAt L (idO mm zs k)).take mm ≠ [] ∧ ((ordAt L (idO mm zs k)).take mm).length = mm) := by
          have hl : ((ordAt L (idO mm zs k)).take mm).length = mm := by rw [List.length_take, HO.out.len]; have := HMM.out; omega
          exact ⟨fun e => by rw [e] at hl; have := HMM.out; simp at hl; omega, hl⟩
        rw [show oV (ordAt L (idO mm zs k)) = .agg #[.int .i64 (atI (ordAt L (idO mm zs k)) 0), .int .i64 (atI (ordAt L (idO mm zs k)) 1), .int .i64 (atI (ordAt L (idO mm zs k)) 2), .int .i64 (atI (ordAt L (idO mm zs k)) 3), .int .i64 (atI (ordAt L (idO mm zs k)) 4), .int .i64 (atI (ordAt L (idO mm zs k)) 5)] from rfl] at HLS
        have HZO : Hid (w4.heap.size ≤ wo.heap.size) := HB.out.size
        clear hso hq h1 hc1 HIL HIO HFL HFU HRO HRJ HLA HO
        generalize idO mm zs k = q at *
        generalize ordAt L q = o at *
        generalize atI o 0 = a0 at *
        generalize atI o 1 = a1 at *
        generalize atI o 2 = a2 at *
        generalize atI o 3 = a3 at *
        generalize atI o 4 = a4 at *
        generalize atI o 5 = a5 at *
        have HRK : Hid ((idL mm zs k).length = k) := by simp [idL, Hid]
        generalize idL mm zs k = rows at *
        go_wp2_with (first
          | (go_at_call 60; go_must (with_reducible refine (HLS.out _).mono ?_); rintro e V2 ⟨⟨v, rfl, hv⟩, hb⟩; obtain ⟨g9, cap9, e9, _⟩ := hv.form (by rw [HTL.out.2]; exact HMM.out.1); rw [HTL.out.2] at e9; subst e9; obtain ⟨vs, hov, hvl, hvr⟩ := HH.out.below hb (Nat.le_refl _); have HOV := Lib.hid hov; have HVL := Lib.hid hvl; have HVR := Lib.hid hvr; have HU := Lib.hid (hv.base (Nat.le_succ_of_le HZO.out)); have HB2 := Lib.hid (HB.out.trans (hb.mono HZO.out)); have HZ2 : Hid (w4.heap.size ≤ V2.heap.size) := Nat.le_trans HZO.out hb.size; clear hov hvl hvr hv hb)
          | (at_builtin; go_must (refine pushv_law _ rfl (.tmp 30) (.tmp 40) 43 rfl w4.heap.size iS Try.underlying43 HI2.out _ vs _ _ _ rfl rfl HOV.out (by have := HVL.out; have := HRK.out; have := HN6.out; omega) HZ2.out ?_); intro v3 w3 hown hg; have HH3 := Lib.hid (Hst.push HOV.out HVL.out HVR.out HU.out hown hg); have HB3 := Lib.hid (HB2.out.grown hg HZ2.out (fun j e => (World.ownsRow.lt HOV.out j e).1)); clear hown hg))
        exact ⟨⟨k + 1, by omega, by go_num, by rw [HX.out]; exact HH3.out, HB3.out⟩, by simp [intOf]; omega⟩
      · have hkn : k = n := by omega
        subst hkn
        have i1 : ¬ (k : Int) < (k : Int) := by omega
        obtain ⟨g0, hg0, hs0⟩ := HRS4.out.below HB.out 0 (Nat.zero_le _)
        obtain ⟨b5, o5, e5, hc5⟩ := hs0.at_ (k := 0) (by have := HLA.out.pos; omega)
        have e5 := Option.some.inj e5
        injection e5 with e5 e6 _
        subst e5 e6
        rw [Nat.sub_zero, Nat.zero_add] at hc5
        rw [show ((rjF L R (mm - 1) zs k)[0]?.getD 0) = idN mm zs from HIN.out.symm] at hc5
        have i2 : (0 : Int) < (k : Int) + 1 := by omega
        have i3 : (0 : Int) < (L.length : Int) := by have := HLA.out.pos; omega
        have HBB := Lib.hid (HB4.out.trans (HB.out.mono HB6.out))
        go_wp2
        go_ret3
        exact ⟨⟨_, rfl, HH.out.base HB6.out⟩, HBB.out⟩
end Go.Proofs.Ytcnjkdkkflpgnaa
