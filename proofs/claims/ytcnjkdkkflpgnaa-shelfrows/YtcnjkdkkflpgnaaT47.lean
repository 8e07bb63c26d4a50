import Derived.Test.YtcnjkdkkflpgnaaT46
/- Layer 8: Ideal's cost is the least; moving to the front costs at most twice as much. -/
namespace Go.Proofs.Ytcnjkdkkflpgnaa
open Go.RowKit Go.Maps
set_option linter.unusedVariables false

theorem pad_take {o : List Int} {m : Nat} (hl : o.length = 6) (ht : TailO m o) (hm : m ≤ 6) : padO (o.take m) = o := by
  have hlt : (o.take m).length = m := by rw [List.length_take]; omega
  have hp := padO_len (zs := o.take m) (by omega)
  refine List.ext_getElem (by omega) fun i h1 h2 => ?_
  have e1 : atI (padO (o.take m)) i = (padO (o.take m))[i] := by unfold atI; rw [List.getElem?_eq_getElem h1]; rfl
  have e2 : atI o i = o[i] := by unfold atI; rw [List.getElem?_eq_getElem h2]; rfl
  rw [← e1, ← e2]
  by_cases h : i < m
  · rw [atI_padlt (by omega)]
    unfold atI
    rw [List.getElem?_take_of_lt h]
  · rw [atI_padge (by omega) (by omega), ht i (by omega) (by omega)]
theorem take_ok {o : List Int} {m : Nat} (hf : FullO o) (ht : TailO m o) (hm : m ≤ 6) : okO (o.take m) m = true := by
  refine perm_okO ?_
  have h1 : List.Perm (o.take m ++ o6.drop m) (startL m ++ o6.drop m) := by
    have e1 : o.take m ++ o6.drop m = o := by
      have := pad_take hf.len ht hm
      unfold padO at this
      rwa [show (o.take m).length = m by rw [List.length_take, hf.len]; omega] at this
    have e2 : startL m ++ o6.drop m = o6 := by
      have := startL_pad m hm
      unfold padO at this
      rwa [startL_len] at this
    rw [e1, e2]; exact hf
  exact (List.perm_append_right_iff _).1 h1
theorem layF_I {m : Nat} (hm : m ≤ 6) : LayI m (layF m).1 (layF m).2 (layF m).1.length := layG_end hm 50000 0 _ _ (LayI.start m) (by omega)
section
variable {m n : Nat} {zs : List Int}
/-- No history costs less than Ideal says. -/
theorem ideal_le (h1 : 1 ≤ m) (hm : m ≤ 6) (hn : zs.length = n) (hz : ∀ i, i < n → ∃ r : Nat, atI zs i = (r : Int) ∧ r < m) {hs : List (List Int)} (hh : hisB m hs n = true) : idN m zs ≤ cstF zs hs n := by
  have H := layF_I hm
  obtain ⟨x, hx, hmem, hc⟩ := opt_le H h1 hm hn hz hh n (Nat.le_refl _)
  rw [Nat.sub_self] at hmem hc
  rw [show preO zs hs 0 = [o6] from rfl, List.mem_singleton] at hmem
  have e : x = 0 := ordAt_inj H.nd hx H.pos (hmem.trans H.first.symm)
  rw [e] at hc
  unfold idN
  rw [hn]
  have : cstF zs hs 0 = 0 := rfl
  omega
theorem idL_at {k : Nat} (hk : k < n) : ordAt (idL m zs n) k = (ordAt (layF m).1 (idO m zs k)).take m := by
  unfold ordAt idL
  rw [List.getElem?_map, List.getElem?_range hk]; rfl
theorem ideal_his (h1 : 1 ≤ m) (hm : m ≤ 6) (hn : zs.length = n) (hz : ∀ i, i < n → ∃ r : Nat, atI zs i = (r : Int) ∧ r < m) : hisB m (idL m zs n) n = true :=
  hisB_good (by simp [idL]) fun k hk => by
    have H := layF_I hm
    have hq := idO_lt h1 hm (by rw [hn]; exact hz) (k := k) (by omega)
    rw [idL_at hk]
    exact take_ok (H.full _ (ordAt_mem hq)) (H.tail _ (ordAt_mem hq)) hm
/-- Ideal's own history costs no more. -/
theorem ideal_ge (h1 : 1 ≤ m) (hm : m ≤ 6) (hn : zs.length = n) (hz : ∀ i, i < n → ∃ r : Nat, atI zs i = (r : Int) ∧ r < m) : ∀ i, i ≤ n →
    ordAt (layF m).1 (flA (layF m).1 (layF m).2 (m - 1) zs i) ∈ preO zs (idL m zs n) i ∧ cstF zs (idL m zs n) i ≤ idN m zs - atI (rjF (layF m).1 (layF m).2 (m - 1) zs (n - i)) (flA (layF m).1 (layF m).2 (m - 1) zs i)
  | 0, _ => by
    refine ⟨?_, ?_⟩
    · show ordAt (layF m).1 0 ∈ [o6]
      rw [(layF_I hm).first]; exact List.mem_singleton.2 rfl
    · show (0 : Int) ≤ idN m zs - atI (rjF (layF m).1 (layF m).2 (m - 1) zs (n - 0)) 0
      unfold idN
      rw [hn, Nat.sub_zero]; omega
  | i + 1, hi => by
    have H := layF_I hm
    have HL := layF_laid h1 hm
    have hzz : ∀ i, i < zs.length → ∃ r : Nat, atI zs i = (r : Int) ∧ r < m := by rw [hn]; exact hz
    obtain ⟨hmem, hcost⟩ := ideal_ge h1 hm hn hz i (by omega)
    obtain ⟨r, er, hr⟩ := hz i (by omega)
    have hx := flA_lt HL hzz i (by omega)
    obtain ⟨j, hj⟩ : ∃ j, j + 1 = n - i := ⟨n - i - 1, by omega⟩
    have hj2 : n - (i + 1) = j := by omega
    rw [← hj] at hcost
    rw [hj2]
    have hsm := rjF_small HL hzz (j + 1) (by omega)
    have hidx : zs.length - 1 - j = i := by omega
    obtain ⟨k1, k2, k3⟩ := flW_cost (zs := zs) H hm hsm ((atI (rjF (layF m).1 (layF m).2 (m - 1) zs (j + 1)) (flA (layF m).1 (layF m).2 (m - 1) zs i)).toNat + 1) _ hx (Nat.lt_succ_self _)
    rw [hidx] at k1 k2 k3
    have hS : flW (layF m).1 (layF m).2 (m - 1) (rjF (layF m).1 (layF m).2 (m - 1) zs (j + 1)) (rjF (layF m).1 (layF m).2 (m - 1) zs j) (atI zs i).toNat ((atI (rjF (layF m).1 (layF m).2 (m - 1) zs (j + 1)) (flA (layF m).1 (layF m).2 (m - 1) zs i)).toNat + 1) (flA (layF m).1 (layF m).2 (m - 1) zs i) = idO m zs i := by
      unfold idO flS
      rw [hn, ← hj, hj2]
    rw [hS] at k1 k2 k3
    have hA : flA (layF m).1 (layF m).2 (m - 1) zs (i + 1) = fwdF (layF m).1 (layF m).2 (rjF (layF m).1 (layF m).2 (m - 1) zs j) (idO m zs i) r := by
      show fwdF (layF m).1 (layF m).2 (rjF (layF m).1 (layF m).2 (m - 1) zs (zs.length - (i + 1))) (idO m zs i) (atI zs i).toNat = _
      rw [hn, hj2, er, Int.toNat_natCast]
    have hfy := H.full _ (ordAt_mem k1)
    have hty := H.tail _ (ordAt_mem k1)
    have hpad : padO (ordAt (idL m zs n) i) = ordAt (layF m).1 (idO m zs i) := by rw [idL_at (by omega), pad_take hfy.len hty hm]
    obtain ⟨p, ep, hp⟩ := HL.pl _ k1 r hr
    obtain ⟨_, ⟨s2, hs2, es2⟩, _⟩ := fwdF_le H hm (rjF (layF m).1 (layF m).2 (m - 1) zs j) k1 hp ep
    rw [hA]
    refine ⟨?_, ?_⟩
    · show _ ∈ choL (padO (ordAt (idL m zs n) i)) (exP zs (idL m zs n) i) (exP zs (idL m zs n) i + 1)
      have hxp : exP zs (idL m zs n) i = p := by
        unfold exP
        rw [hpad, er, ep, Int.toNat_natCast]
      rw [hxp, hpad, es2]
      exact choL_mem hs2
    · have hfl := few_le (o := ordAt (layF m).1 (idO m zs i)) (g := 36) hmem
      have hst : cstF zs (idL m zs n) (i + 1) = cstF zs (idL m zs n) i + ((fewT (ordAt (layF m).1 (idO m zs i)) (preO zs (idL m zs n) i) 36 : Int) + (p : Int) + 1) := by
        show cstF zs (idL m zs n) i + stpC zs (idL m zs n) i = _
        unfold stpC
        rw [hpad, er, ep]
      rw [er, Int.toNat_natCast] at k3
      unfold srvV at k3
      rw [ep] at k3
      omega
theorem ideal_is (h1 : 1 ≤ m) (hm : m ≤ 6) (hn : zs.length = n) (hz : ∀ i, i < n → ∃ r : Nat, atI zs i = (r : Int) ∧ r < m) : cstF zs (idL m zs n) n = idN m zs := by
  have h2 := (ideal_ge h1 hm hn hz n (Nat.le_refl _)).2
  have h3 := ideal_le h1 hm hn hz (ideal_his h1 hm hn hz)
  rw [Nat.sub_self] at h2
  have h4 : atI (rjF (layF m).1 (layF m).2 (m - 1) zs 0) (flA (layF m).1 (layF m).2 (m - 1) zs n) = 0 := by
    show ((List.replicate (layF m).1.length (0 : Int))[_]?).getD 0 = 0
    rw [List.getElem?_replicate]
    split <;> rfl
  omega
end
/-- x has moved forward, or stands still; the others keep their order. -/
structure FwdX (x : Int) (o o' : List Int) : Prop where
  perm : List.Perm o' o
  oth : ∀ u ∈ o, ∀ v ∈ o, u ≠ x → v ≠ x → (ixI o' u < ixI o' v ↔ ixI o u < ixI o v)
  back : ∀ v ∈ o, ixI o' v < ixI o' x → ixI o v < ixI o x
theorem FwdX.refl (x : Int) (o : List Int) : FwdX x o o := ⟨List.Perm.refl _, fun _ _ _ _ _ _ => Iff.rfl, fun _ _ h => h⟩
theorem FwdX.trans {x : Int} {a b c : List Int} (h : FwdX x a b) (k : FwdX x b c) : FwdX x a c :=
  ⟨k.perm.trans h.perm, fun u hu v hv h1 h2 => (k.oth u (h.perm.mem_iff.2 hu) v (h.perm.mem_iff.2 hv) h1 h2).trans (h.oth u hu v hv h1 h2), fun v hv e => h.back v hv (k.back v (h.perm.mem_iff.2 hv) e)⟩
theorem fwd_one {o : List Int} {q : Nat} (h : FullO o) (hq : q + 1 < 6) : FwdX (atI o (q + 1)) o (movedL o (q + 1) q) := by
  have hu0 : atI o q ∈ o := atI_mem (by rw [h.len]; omega)
  have hv0 : atI o (q + 1) ∈ o := atI_mem (by rw [h.len]; omega)
  have i0 := ixI_of h.nodup (i := q) (by rw [h.len]; omega)
  have i1 := ixI_of h.nodup (i := q + 1) (by rw [h.len]; omega)
  refine ⟨moved_perm (by rw [h.len]; omega), fun u hu v hv hux hvx => ?_, fun v hv e => ?_⟩
  · rcases ixI_xch h hq hu with ⟨e, e1⟩ | ⟨e, e1⟩ | ⟨en, en2, e1⟩
    · exact absurd e hux
    · rcases ixI_xch h hq hv with ⟨f, f1⟩ | ⟨f, f1⟩ | ⟨fn, fn2, f1⟩
      · exact absurd f hvx
      · rw [e1, f1, e, f]; omega
      · rw [e1, f1, e, i0]
        have : ixI o v ≠ ((q + 1 : Nat) : Int) := fun g => fn (ixI_inj hv hv0 (g.trans i1.symm))
        omega
    · rcases ixI_xch h hq hv with ⟨f, f1⟩ | ⟨f, f1⟩ | ⟨fn, fn2, f1⟩
      · exact absurd f hvx
      · rw [e1, f1, f, i0]
        have h2 : ixI o u ≠ (q : Int) := fun g => en2 (ixI_inj hu hu0 (g.trans i0.symm))
        omega
      · rw [e1, f1]
  · have hx : ixI (movedL o (q + 1) q) (atI o (q + 1)) = (q : Int) := by
      rcases ixI_xch h hq hv0 with ⟨_, f1⟩ | ⟨f, _⟩ | ⟨fn, _, _⟩
      · exact f1
      · have := atI_inj h.nodup (by rw [h.len]; omega) (by rw [h.len]; omega) f
        omega
      · exact absurd rfl fn
    rw [hx] at e
    rw [i1]
    rcases ixI_xch h hq hv with ⟨f, f1⟩ | ⟨f, f1⟩ | ⟨fn, fn2, f1⟩ <;> rw [f1] at e <;> omega
theorem fwd_moved {o : List Int} {p : Nat} (h : FullO o) (hp : p < 6) : ∀ d, d ≤ p → FwdX (atI o p) o (movedL o p (p - d))
  | 0, _ => by rw [Nat.sub_zero, moved_self (by rw [h.len]; exact hp)]; exact FwdX.refl _ _
  | d + 1, hd => by
    have ih := fwd_moved h hp d (by omega)
    have hf := h.moved hp (p - d)
    have hw : (witho o p).length = 5 := by rw [witho_len h.len hp]
    obtain ⟨q, hq⟩ : ∃ q, q + 1 = p - d := ⟨p - d - 1, by omega⟩
    have h2 := fwd_one hf (q := q) (by omega)
    rw [← hq] at ih hf h2
    rw [(witho_moved (o := o) (p := p) (q := q + 1) (by omega)).2, moved_again (by omega)] at h2
    rw [show p - (d + 1) = q by omega]
    exact ih.trans h2
theorem cnt_lt {F : List Int} (hn : F.Nodup) (k : Nat) : ∀ j, j ≤ F.length → sm (fun u => if ixI F u < (k : Int) then 1 else 0) (F.take j) = min j k
  | 0, _ => by simp [sm]
  | j + 1, hj => by
    rw [takeI (by omega), sm_app, cnt_lt hn k j (by omega)]
    show _ + ((if ixI F (atI F j) < (k : Int) then 1 else 0) + 0) = _
    rw [ixI_of hn (by omega)]
    split <;> omega
theorem cnt_all {F : List Int} (hn : F.Nodup) {k : Nat} (hk : k ≤ F.length) : sm (fun u => if ixI F u < (k : Int) then 1 else 0) F = k := by
  have := cnt_lt hn k F.length (Nat.le_refl _)
  rw [List.take_length] at this
  rw [this]; omega
/-- The step of the comparison. -/
theorem front_step {F O : List Int} {x : Int} {k p t : Nat} (hF : FullO F) (hO : FullO O) (hk : ixI F x = (k : Int)) (hk6 : k < 6) (hp : ixI O x = (p : Int)) (hp6 : p < 6) (ht : t ≤ p) : turnN (movedL F k 0) (movedL O p t) + k ≤ turnN F O + 2 * p := by
  have hF' := hF.moved hk6 0
  have exF := ixI_atI hk
  have exO := ixI_atI hp
  have fF := fwd_moved hF hk6 k (Nat.le_refl _)
  rw [exF, Nat.sub_self] at fF
  have fO := fwd_moved hO hp6 (p - t) (by omega)
  rw [exO, show p - (p - t) = t by omega] at fO
  have hx0 : ixI (movedL F k 0) x = 0 := by
    have h1 := (witho_moved (o := F) (p := k) (q := 0) (Nat.zero_le _)).2
    have h2 := ixI_of hF'.nodup (i := 0) (by rw [hF'.len]; omega)
    rw [h1, exF] at h2
    exact h2
  have hFO : ∀ u, u ∈ F → u ∈ O := fun u hu => hO.mem_iff.2 (hF.mem_iff.1 hu)
  rw [turnN_dN hF'.nodup, turnN_dN hF.nodup, dN_perm (l := movedL F k 0) (q := F) (hF'.trans hF.symm)]
  -- without x; with x
  have hA : dN (movedL F k 0) (movedL O p t) F ≤ sm (fun u => sm (fun v => if u = x ∨ v = x then 0 else trn F O u v) F) F + sm (fun v => if ixI O v < (p : Int) then 1 else 0) F := by
    have h1 : ∀ u ∈ F, sm (fun v => trn (movedL F k 0) (movedL O p t) u v) F ≤ sm (fun v => if u = x ∨ v = x then 0 else trn F O u v) F + (if u = x then sm (fun v => if ixI O v < (p : Int) then 1 else 0) F else 0) := fun u hu => by
      by_cases hux : u = x
      · rw [if_pos hux]
        refine Nat.le_trans (sm_le (f := fun v => if ixI O v < (p : Int) then 1 else 0) fun v hv => ?_) (Nat.le_add_left _ _)
        unfold trn
        split
        · rename_i hc
          have := fO.back v (hFO v hv) (by rw [← hux]; exact hc.2)
          rw [if_pos (by rw [hp] at this; exact this)]
          exact Nat.le_refl _
        · exact Nat.zero_le _
      · rw [if_neg hux, Nat.add_zero]
        refine sm_le fun v hv => ?_
        by_cases hvx : v = x
        · unfold trn
          rw [if_neg]
          · exact Nat.zero_le _
          · intro hc
            have h1 := hc.1
            rw [hvx, hx0] at h1
            obtain ⟨j, ej, _⟩ := ixI_pos (hF'.mem_iff.2 (hF.mem_iff.1 hu))
            omega
        · rw [if_neg (by intro h; rcases h with h | h; exact hux h; exact hvx h)]
          unfold trn
          split
          · rename_i hc
            rw [if_pos ⟨(fF.oth u hu v hv hux hvx).1 hc.1, (fO.oth v (hFO v hv) u (hFO u hu) hvx hux).1 hc.2⟩]
            exact Nat.le_refl _
          · exact Nat.zero_le _
    refine Nat.le_trans (sm_le h1) ?_
    rw [sm_add]
    exact Nat.add_le_add_left (sm_ind x _ hF.nodup) _
  have hB : sm (fun u => sm (fun v => if u = x ∨ v = x then 0 else trn F O u v) F) F + sm (fun u => trn F O u x) F ≤ dN F O F := by
    rw [← sm_add]
    unfold dN
    refine sm_le fun u hu => ?_
    have hxF : x ∈ F := by
      rw [← exF]; exact atI_mem (by rw [hF.len]; exact hk6)
    by_cases hux : u = x
    · rw [show sm (fun v => if u = x ∨ v = x then 0 else trn F O u v) F = sm (fun _ => 0) F from sm_congr fun v _ => if_pos (.inl hux), sm_zero, hux]
      unfold trn
      rw [if_neg (by omega)]
      omega
    · -- split the sum at x
      have h2 : sm (fun v => if u = x ∨ v = x then 0 else trn F O u v) F + sm (fun v => if v = x then trn F O u x else 0) F = sm (fun v => trn F O u v) F := by
        rw [← sm_add]
        refine sm_congr fun v _ => ?_
        by_cases hvx : v = x
        · rw [if_pos (.inr hvx), if_pos hvx, hvx, Nat.zero_add]
        · rw [if_neg (by intro h; rcases h with h | h; exact hux h; exact hvx h), if_neg hvx, Nat.add_zero]
      have h3 : trn F O u x ≤ sm (fun v => if v = x then trn F O u x else 0) F := by
        have hone : ∀ {l : List Int}, x ∈ l → trn F O u x ≤ sm (fun v => if v = x then trn F O u x else 0) l := fun {l} => by
          induction l with
          | nil => intro h; exact absurd h List.not_mem_nil
          | cons y l ih =>
            intro h
            show _ ≤ (if y = x then trn F O u x else 0) + sm (fun v => if v = x then trn F O u x else 0) l
            rcases List.mem_cons.1 h with e | e
            · rw [if_pos e.symm]; omega
            · have := ih e; omega
        exact hone hxF
      omega
  have hC : k ≤ sm (fun u => trn F O u x) F + sm (fun v => if ixI O v < (p : Int) then 1 else 0) F := by
    have h1 := cnt_all hF.nodup (k := k) (by rw [hF.len]; omega)
    rw [← sm_add]
    refine Nat.le_trans (Nat.le_of_eq h1.symm) (sm_le fun u hu => ?_)
    by_cases hc : ixI F u < (k : Int)
    · rw [if_pos hc]
      by_cases hd : ixI O u < (p : Int)
      · rw [if_pos hd]; omega
      · have hne : ixI O x ≠ ixI O u := fun e => by
          have := ixI_inj (hFO x (by rw [← exF]; exact atI_mem (by rw [hF.len]; exact hk6))) (hFO u hu) e
          rw [← this, hk] at hc
          omega
        unfold trn
        rw [if_pos ⟨by rw [hk]; exact hc, by rw [hp] at hne ⊢; omega⟩]
        omega
    · rw [if_neg hc]; exact Nat.zero_le _
  have hP : sm (fun v => if ixI O v < (p : Int) then 1 else 0) F = p := by
    rw [sm_perm _ (hF.trans hO.symm)]
    exact cnt_all hO.nodup (by rw [hO.len]; omega)
  omega
end Go.Proofs.Ytcnjkdkkflpgnaa
/- Layer 8: moving to the front costs at most twice as much as any history. -/
namespace Go.Proofs.Ytcnjkdkkflpgnaa
open Go.RowKit Go.Maps
set_option linter.unusedVariables false

section
variable {m n : Nat} {zs : List Int} {hs : List (List Int)}
theorem front_pot (hm : m ≤ 6) (h : ∀ k, k < n → okO (ordAt hs k) m = true) (hn : zs.length = n) (hz : ∀ i, i < n → ∃ r : Nat, atI zs i = (r : Int) ∧ r < m) : ∀ i, i ≤ n → ∀ b, b ∈ preO zs hs i → frC zs o6 i + (turnN (frO zs o6 i) b : Int) ≤ 2 * cstF zs hs i
  | 0, _, b, hb => by
    rw [show preO zs hs 0 = [o6] from rfl, List.mem_singleton] at hb
    rw [hb]
    show (0 : Int) + (turnN o6 o6 : Int) ≤ 2 * 0
    rw [turn_self (by decide)]
    decide
  | i + 1, hi, b', hb' => by
    obtain ⟨r, er, hr⟩ := hz i (by omega)
    have hoki := h i (by omega)
    have hl := (okO_rolls hoki).1
    obtain ⟨p, e2, hp⟩ := ok_place hoki hr
    have hip : ixI (padO (ordAt hs i)) (r : Int) = (p : Int) := by rw [ixI_padlt hl hm hr, e2]
    have hxp : exP zs hs i = p := by
      unfold exP
      rw [er, hip, Int.toNat_natCast]
    have hb2 : b' ∈ choL (padO (ordAt hs i)) p (p + 1) := by
      have : b' ∈ choL (padO (ordAt hs i)) (exP zs hs i) (exP zs hs i + 1) := hb'
      rwa [hxp] at this
    obtain ⟨t, ht, et⟩ := List.mem_map.1 hb2
    have ht := List.mem_range.1 ht
    have hF : FullO (frO zs o6 i) := frO_full fullO_o6 (fun k hk => by
      obtain ⟨r, e, hr⟩ := hz k (by omega)
      exact ⟨r, e, by omega⟩) i (by omega)
    have hO := okO_full hoki hm
    obtain ⟨k, ek, hk6⟩ := hF.place (r := r) (by omega)
    obtain ⟨hne, hf⟩ := preO_full hm h hz i (by omega)
    obtain ⟨b, hb, eb⟩ := few_mem (o := padO (ordAt hs i)) (g := 36) hne (fun z hz2 => turnN_36 (by rw [(hf z hz2).1.len]; omega))
    have ih := front_pot hm h hn hz i (by omega) b hb
    have htri := turn_tri (c := padO (ordAt hs i)) hF.nodup (hF.trans (hf b hb).1.symm)
    have hst := front_step (x := (r : Int)) (t := t) hF hO ek hk6 hip (by omega) (by omega)
    have h1 : frO zs o6 (i + 1) = movedL (frO zs o6 i) k 0 := by
      show movedL (frO zs o6 i) (ixI (frO zs o6 i) (atI zs i)).toNat 0 = _
      rw [er, ek, Int.toNat_natCast]
    have h2 : frC zs o6 (i + 1) = frC zs o6 i + ((k : Int) + 1) := by
      show frC zs o6 i + (ixI (frO zs o6 i) (atI zs i) + 1) = _
      rw [er, ek]
    have h3 : cstF zs hs (i + 1) = cstF zs hs i + ((fewT (padO (ordAt hs i)) (preO zs hs i) 36 : Int) + (p : Int) + 1) := by
      show cstF zs hs i + stpC zs hs i = _
      unfold stpC
      rw [er, hip]
    rw [h1, ← et, h2, h3]
    omega
theorem front_le (hm : m ≤ 6) (hn : zs.length = n) (hz : ∀ i, i < n → ∃ r : Nat, atI zs i = (r : Int) ∧ r < m) (hh : hisB m hs n = true) : frC zs (startL m) n ≤ 2 * cstF zs hs n := by
  have hok := (hisB_parts hh).2
  obtain ⟨hne, hf⟩ := preO_full hm hok hz n (Nat.le_refl _)
  obtain ⟨b, hb⟩ := List.exists_mem_of_ne_nil _ hne
  have h1 := front_pot hm hok hn hz n (Nat.le_refl _) b hb
  have h2 := (fr_same hm (by rw [hn]; exact hz)).2
  rw [hn] at h2
  rw [← h2]
  omega
theorem cst_ge (hm : m ≤ 6) (h : ∀ k, k < n → okO (ordAt hs k) m = true) (hz : ∀ i, i < n → ∃ r : Nat, atI zs i = (r : Int) ∧ r < m) : ∀ i : Nat, i ≤ n → (i : Int) ≤ cstF zs hs i
  | 0, _ => Int.le_refl _
  | i + 1, hi => by
    obtain ⟨r, er, hr⟩ := hz i (by omega)
    obtain ⟨p, e2, hp⟩ := ok_place (h i (by omega)) hr
    have ih := cst_ge hm h hz i (by omega)
    have h3 : cstF zs hs (i + 1) = cstF zs hs i + ((fewT (padO (ordAt hs i)) (preO zs hs i) 36 : Int) + (p : Int) + 1) := by
      show cstF zs hs i + stpC zs hs i = _
      unfold stpC
      rw [er, ixI_padlt (okO_rolls (h i (by omega))).1 hm hr, e2]
    omega
theorem front_first (hm : m ≤ 6) (hn : zs.length = n) (hz : ∀ i, i < n → ∃ r : Nat, atI zs i = (r : Int) ∧ r < m) {k : Nat} (hk : k + 1 = n) : atI (frO zs (startL m) n) 0 = atI zs k := by
  obtain ⟨r, er, hr⟩ := hz k (by omega)
  have hok := frM_ok hm (by rw [hn]; exact hz) (k := k) (by omega)
  obtain ⟨p, e2, hp⟩ := ok_place hok hr
  rw [← hk]
  show atI (movedL (frO zs (startL m) k) (ixI (frO zs (startL m) k) (atI zs k)).toNat 0) 0 = _
  rw [er, e2, Int.toNat_natCast, (witho_moved (Nat.zero_le _)).2, ixI_atI e2]
end
end Go.Proofs.Ytcnjkdkkflpgnaa
