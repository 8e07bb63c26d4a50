import Derived.Test.YtmbdjjkgjnemiaaT17
/- Layer 6: slices of pairs, appended. -/
namespace Go.Proofs.Ytmbdjjkgjnemiaa
open Go.RowKit Go.Maps
set_option linter.unusedVariables false

theorem Plr.take {w : World} {A : Option Addr} {n c k : Nat} {ps : List (Int × Int)} (h : Plr w A n c ps) (hk : k ≤ n) : Plr w A k c (ps.take k) :=
  ⟨by rw [List.length_take, h.len]; omega, by have := h.cap; omega, by have := h.big; omega, fun e => by have := h.nil e; omega, fun j hj => by
    obtain ⟨b, off, e, hb, h1, h2⟩ := h.rows j (by omega)
    have : (ps.take k)[j]? = ps[j]? := by rw [List.getElem?_take, if_pos hj]
    rw [this]
    exact ⟨b, off, e, hb, h1, h2⟩⟩
theorem ptsC_rev {ps : List (Int × Int)} {j : Nat} {u : Value} (h : (ptsC ps)[j]? = some u) : ∃ i, i < ps.length ∧ ((j = i * 2 ∧ u = .int .i64 (ps[i]?.getD (0, 0)).1) ∨ (j = i * 2 + 1 ∧ u = .int .i64 (ps[i]?.getD (0, 0)).2)) := by
  have hj : j < ps.length * 2 := by
    rcases Nat.lt_or_ge j (ps.length * 2) with h' | h'
    · exact h'
    · rw [List.getElem?_eq_none (by rw [ptsC_len]; exact h')] at h; cases h
  have hi : j / 2 < ps.length := by omega
  have h8 := ptsC_at ps (j / 2) hi
  refine ⟨j / 2, hi, ?_⟩
  rw [List.getElem?_eq_getElem hi]
  rcases Nat.mod_two_eq_zero_or_one j with e | e
  · have e2 : j = j / 2 * 2 := by omega
    rw [← e2, h] at h8
    exact .inl ⟨e2, Option.some.inj h8.1⟩
  · have e2 : j = j / 2 * 2 + 1 := by omega
    rw [← e2, h] at h8
    exact .inr ⟨e2, Option.some.inj h8.2⟩
theorem appp_law {P : Program} (w : World) {ops : Array Oper} {rest : List Oper} {o : Oper} {a : Act} {Q : Exit → Act → World → Prop} (hgd : o.guard = none) (s x : Operand) (t : TypeId)
    (ho : o.op = .call { callee := .builtin .append, args := #[s, x], argTypes := #[t, t] })
    (B : Nat) (e : TypeId) (i : TypeInfo) (ht : P.underlying t = some (.slice e)) (hI : P.info? e = some i ∧ i.zero = some (.agg #[.int .i64 0, .int .i64 0]) ∧ i.size = 2 ∧ i.bytes = 16)
    (v : Value) (zs : List (Int × Int)) (hs : a.eval s = v) (A : Option Addr) (m c : Nat) (ps : List (Int × Int)) (hx : a.eval x = .slice A m c) (hp : Plr w A m c ps) (hown : Owp w B e v zs) (hn : zs.length + m ≤ 1099511627776) (hB : B ≤ w.heap.size)
    (h : ∀ v' w', Owp w' B e v' (zs ++ ps) → w.grownBy w' v.ownBlock → wpList P ops Q rest (a.put o.dst v') w') :
    wpList P ops Q (o :: rest) a w := by
  obtain ⟨h1, h2, h3, h4⟩ := hI
  rcases A with _ | ad
  · obtain ⟨rfl, rfl⟩ := hp.nil rfl
    have hps : ps = [] := List.eq_nil_of_length_eq_zero hp.len
    subst hps
    exact wpList_append_own_none hgd s x t ho B e i 2 ht h1 v zs.length (ptsC zs) hs hown hx (h v w (by simpa using hown) (World.grownBy.refl w _))
  · refine wpList_append_own_at w hgd s x t ho B e i _ 2 16 ht h1 h2 h3 h4 rfl (by decide) v zs.length (ptsC zs) hs hown ad m c (ptsC ps) hx (by rw [ptsC_len, hp.len]) ?_ ?_ (by unfold maxLen; omega) (by omega) hB ?_
    · intro j u hu
      obtain ⟨k, hk, he⟩ := ptsC_rev hu
      obtain ⟨b, off, e', _, c1, c2⟩ := hp.rows k (by rw [← hp.len]; exact hk)
      injection e' with e'
      subst e'
      have ea : ∀ j, (⟨b, off, none⟩ : Addr).add j = ⟨b, off + j, none⟩ := fun j => by unfold Addr.add; split <;> simp_all
      rcases he with ⟨rfl, rfl⟩ | ⟨rfl, rfl⟩
      · rw [ea]; exact c1
      · rw [ea]; exact c2
    · intro u hu
      obtain ⟨j, hj⟩ := List.mem_iff_getElem?.1 hu
      obtain ⟨k, hk, ⟨_, rfl⟩ | ⟨_, rfl⟩⟩ := ptsC_rev hj <;> rfl
    · intro v' w' ho' hg' _ _
      refine h v' w' ?_ hg'
      unfold Owp
      rw [List.length_append, hp.len, show ptsC (zs ++ ps) = ptsC zs ++ ptsC ps from by simp [ptsC]]
      exact ho'
theorem slice_hd (X : Option Addr) (m d : Nat) {k : Nat} (hk : k ≤ m) (hm : m ≤ d) (W : World) : (Instr.slice 25 (.slice X m d) none (some (.int .i64 (k : Int))) none).run Try.prog W = .ok (.slice X k d) W := by
  have ht : Try.prog.underlying 25 = some (.slice (Try.prog.elem 25)) := by kernel_rfl
  have hs : (sizeOf (Try.prog.elem 25)).run Try.prog W = .ok 2 W := by kernel_rfl
  rw [run_slice_h W 25 X m d ht .i64 (k : Int) (by omega) (by omega), hs]
  cases X <;> simp [Result.andThen, sliced, Addr.add]
end Go.Proofs.Ytmbdjjkgjnemiaa
/- Layer 6: the law's finding. -/
namespace Go.Proofs.Ytmbdjjkgjnemiaa
open Go.RowKit Go.Maps
set_option linter.unusedVariables false

set_option maxRecDepth 100000 in
set_option maxHeartbeats 6400000 in
theorem finding_any (b : Bool) (X : Option Addr) (m d : Nat) (ps : List (Int × Int)) (t : ByteArray) (w : World) (hP : Plr w X m d ps) (ht : t.size ≤ 9223372036854775807) :
    Calls Try.prog 22 #[.agg #[.bool b, .slice X m d, .string t]] w fun e w' => (∃ Y k c ps', e = .returned (.agg #[.bool b, .slice Y k c, .string (t.extract 0 (min t.size 700))]) ∧ Plr w' Y k c ps') ∧ Below w.heap.size w w' := by
  have HP := Lib.hid hP
  clear hP
  go_enter Try.func22, Try.ntmps22
  go_wp2
  obtain ⟨W, hW⟩ : ∃ W, W = (w.alloc (.cells #[.bool b, .slice X m d, .string t] 27)).alloc (.cells #[.bool false, .slice none 0 0, .string ⟨#[]⟩] 27) := ⟨_, rfl⟩
  have h0 : W.heap[w.heap.size]? = some (.cells #[.bool b, .slice X m d, .string t] 27 (0, 0)) := by
    rw [hW]
    show ((w.heap.push _).push _)[w.heap.size]? = _
    rw [Array.getElem?_push, if_neg (by simp), Array.getElem?_push, if_pos rfl]
  have e0 := cell_in h0 (i := 0) rfl
  have e1 := cell_in h0 (i := 1) rfl
  have e2 := cell_in h0 (i := 2) rfl
  rw [← hW]
  go_region
  have HBW : Hid (Below w.heap.size w W) := by rw [hW]; exact ((Below.refl _ w).alloc (Nat.le_refl _) _).alloc (by simp) _
  have HSW : Hid (W.heap.size = w.heap.size + 1 + 1) := by rw [hW]; simp [Hid]
  have H0 := Lib.hid h0
  rw [← hW]
  clear e0 e1 e2 h0
  have hcut : (if (700 : Int) < (t.size : Int) then (700 : Int) else (t.size : Int)).toNat = min t.size 700 := by split <;> omega
  rw [hcut]
  obtain ⟨T, hT⟩ : ∃ T, T = t.extract 0 (min t.size 700) := ⟨_, rfl⟩
  rw [← hT]
  have HT := Lib.hid hT
  clear hT
  obtain ⟨W2, hW2⟩ : ∃ W2, W2 = (W.alloc (.cells #[.bool b, .slice none 0 0, .string T] 27)).drew := ⟨_, rfl⟩
  have HB2 : Hid (Below w.heap.size w W2) := by rw [hW2]; exact (HBW.out.alloc HBW.out.size _).drew
  have HS2 : Hid (W2.heap.size = w.heap.size + 1 + 1 + 1) := by rw [hW2, Hid]; show (W.heap.push _).size = _; rw [Array.size_push, HSW.out]
  have HO2 : Hid (W2.heap[w.heap.size + 1 + 1]? = some (.cells #[.bool b, .slice none 0 0, .string T] 27 (0, 0))) := by
    rw [hW2, ← HSW.out]
    exact heap_alloc_new _ _
  have HI2 : Hid (W2.heap[w.heap.size]? = some (.cells #[.bool b, .slice X m d, .string t] 27 (0, 0))) := by
    rw [hW2]
    exact (((Below.refl _ W).alloc (Nat.le_refl _) _).block _ (by have := HSW.out; omega)).trans H0.out
  have HZ2 : Hid (W2.heap[w.heap.size + 1]? = some (.cells #[.bool false, .slice none 0 0, .string ⟨#[]⟩] 27 (0, 0))) := by
    rw [hW2]
    refine (((Below.refl _ W).alloc (Nat.le_refl _) _).block _ (by have := HSW.out; omega)).trans ?_
    rw [hW]
    show ((w.heap.push _).push _)[w.heap.size + 1]? = _
    rw [Array.getElem?_push, if_pos (by simp)]
  rw [← hW2]
  obtain ⟨vn, hvn⟩ : ∃ v, v = Value.slice none 0 0 := ⟨_, rfl⟩
  rw [← hvn] at HO2
  have HVN : Hid (vn = Value.slice none 0 0) := hvn
  have HVB : Hid (vn.ownBlock = none) := by rw [hvn]; rfl
  clear hvn
  clear hW2 hW HBW H0 HSW
  have e0 := cell_in HI2.out (i := 0) rfl
  have e1 := cell_in HI2.out (i := 1) rfl
  have e2 := cell_in HI2.out (i := 2) rfl
  have f0 := cell_in HO2.out (i := 0) rfl
  have f1 := cell_in HO2.out (i := 1) rfl
  have f2 := cell_in HO2.out (i := 2) rfl
  clear hcut
  generalize hq : (if (700 : Int) < (t.size : Int) then (700 : Int) else (t.size : Int)) = cut at *
  clear hq
  have hmd := HP.out.cap
  obtain ⟨k, hk, hkc⟩ : ∃ k : Nat, k ≤ m ∧ (if (601 : Int) < (m : Int) then (601 : Int) else (m : Int)) = (k : Int) ∧ k ≤ 601 := by
    by_cases h : (601 : Int) < (m : Int)
    · exact ⟨601, by omega, by rw [if_pos h]; rfl, by omega⟩
    · exact ⟨m, by omega, by rw [if_neg h], by omega⟩
  obtain ⟨hkc, hk6⟩ := hkc
  have hsl := slice_hd X m d hk hmd W2
  have hmin : ∀ W, (Builtin.min_ #[3, 3] 3 #[.int .i64 (m : Int), .int .i64 601]).run Try.prog W = .ok (.int .i64 (k : Int)) W := fun W => by rw [run_min_int2, hkc]
  clear hkc
  obtain ⟨ti, hi, hz0, hz1, hz2⟩ := info_parts Try.infoPt
  have HI : Hid (Try.prog.info? 23 = some ti ∧ ti.zero = some (.agg #[.int .i64 0, .int .i64 0]) ∧ ti.size = 2 ∧ ti.bytes = 16) := ⟨hi, hz0, hz1, hz2⟩
  have HPK : Hid (Plr W2 X k d (ps.take k)) := (HP.out.below HB2.out (Nat.le_refl _)).take hk
  have HK6 : Hid (k ≤ 601) := hk6
  clear hi hz0 hz1 hz2 hk hk6
  have HSZ : Hid (∀ b X m d t, (Try.prog.info? 27).map (·.size) = some (#[Value.bool b, Value.slice X m d, Value.string t] : Array Value).size) := fun _ _ _ _ _ => Try.sizeFd'
  go_wp2_with (first
    | (at_builtin; go_must (refine appp_law _ rfl (.tmp 17) (.tmp 24) 25 rfl W2.heap.size 23 ti Try.underlying25 HI.out vn [] rfl X k d (ps.take k) rfl HPK.out (by rw [HVN.out]; exact Owp.nil _ _ _) (by have := HK6.out; simp; omega) (Nat.le_refl _) ?_); intro v9 W9 hv9 hg9; obtain ⟨Y, c9, rfl, _⟩ := hv9.plr (n := k) (by rw [List.nil_append]; exact HPK.out.len) (by have := HK6.out; omega); have HV9 := Lib.hid hv9; have HO9 := Lib.hid ((hg9.block (w.heap.size + 1 + 1) (by have := HS2.out; omega) (by simp [HVB.out])).trans HO2.out); have f3 : W9.frozen? ⟨w.heap.size + 1 + 1, 1, none⟩ = false := (by simp [World.frozen?, HO9.out]); have HZ9 := Lib.hid ((hg9.block (w.heap.size + 1) (by have := HS2.out; omega) (by simp [HVB.out])).trans HZ2.out); have HB9 : Hid (Below w.heap.size w W9) := HB2.out.grown hg9 HB2.out.size (fun k e => by simp [HVB.out] at e); have HZ10 : Hid ((W9.setCell ⟨w.heap.size + 1 + 1, 1, none⟩ (.slice Y k c9)).heap[w.heap.size + 1]? = some (.cells #[.bool false, .slice none 0 0, .string ⟨#[]⟩] 27 (0, 0))) := (by rw [Hid, ← HZ9.out]; simp [World.setCell, Array.getElem?_modify]); have g0 := cell_in HO9.out (i := 0) rfl; have g1 := cell_in HO9.out (i := 1) rfl; have g2 := cell_in HO9.out (i := 2) rfl; clear hv9 hg9 e0 e1 e2 f0 f1 f2)
    | (refine wpList_store_row (by rfl) 27 (.tmp 2) (.tmp 27) (by rfl) (w.heap.size + 1) _ (by rfl) (by rfl) 27 _ HZ10.out (HSZ.out _ _ _ _ _) (by rfl) (by simp [Value.oneCell']) ?_))
  obtain ⟨W7, hW7, _, s7, r7⟩ := row_set #[Value.bool b, Value.slice Y k c9, Value.string T] HZ10.out
  have hs2 := HS2.out
  have hset : ∀ i, i ≠ w.heap.size + 1 + 1 → (W9.setCell ⟨w.heap.size + 1 + 1, 1, none⟩ (.slice Y k c9)).heap[i]? = W9.heap[i]? := fun i hi => by
    simp [World.setCell, Array.getElem?_modify]
    intro e
    omega
  have HO7 : Owp W7 W2.heap.size 23 (.slice Y k c9) ([] ++ ps.take k) := HV9.out.same fun i hi => by
    have := (HV9.out.lt hi).1
    rw [s7 i (by omega), hset i (by omega)]
  have HB8 : Below w.heap.size w W7 := by
    have h1 : Below w.heap.size W9 (W9.setCell ⟨w.heap.size + 1 + 1, 1, none⟩ (.slice Y k c9)) := ⟨rfl, rfl, rfl, by simp [World.setCell], fun i hi => hset i (by omega)⟩
    exact HB9.out.trans (h1.trans (r7 _ (by omega)))
  obtain ⟨Y', c', e', hpl⟩ := HO7.plr (n := k) (by rw [List.nil_append]; exact HPK.out.len) (by have := HK6.out; omega)
  injection e' with e1 _ e3
  subst e1 e3
  rw [hW7] at hpl HB8
  refine bodyPost_ret (results_cell_row (by rfl) _ _ (w.heap.size + 1) 27 _ (0, 0) _ (by rfl) (setRow_heap _ _ _ _ _ _ HZ10.out) Try.underlying27 (by rfl) (HSZ.out _ _ _ _ _)) (by rfl) ⟨⟨Y, k, c9, _, ?_, hpl⟩, HB8⟩
  rw [HT.out]
end Go.Proofs.Ytmbdjjkgjnemiaa
