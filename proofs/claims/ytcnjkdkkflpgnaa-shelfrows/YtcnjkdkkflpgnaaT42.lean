import Derived.Test.YtcnjkdkkflpgnaaT41
/- Layer 8: the reference's Cost. -/
namespace Go.Proofs.Ytcnjkdkkflpgnaa
open Go.RowKit Go.Maps
set_option linter.unusedVariables false

set_option maxRecDepth 100000 in
set_option maxHeartbeats 12800000 in
theorem costR_any (m : Nat) (zs : List Int) (hs : List (List Int)) (A B : Option Addr) (n c n2 c2 : Nat) (w : World) (h : Sl w A n c zs) (h2 : Sll w B n2 c2 hs) (hm1 : 1 ≤ m) (hm6 : m ≤ 6) (hn60 : n ≤ 60) (hzz : ∀ i, i < n → ∃ r : Nat, atI zs i = (r : Int) ∧ r < m) :
    Calls Try.prog 32 #[.int .i64 (m : Int), .slice A n c, .slice B n2 c2] w fun e w' => ((hisB m hs n = true ∧ e = .returned (.tuple #[.int .i64 (refC m zs hs n), .bool true])) ∨ (hisB m hs n = false ∧ e = .returned (.tuple #[.int .i64 0, .bool false]))) ∧ Below w.heap.size w w' := by
  have hbig2 := h2.big
  have HL : Hid (zs.length = n) := h.len
  have HSL := Lib.hid (fun V (hV : Below w.heap.size w V) => h.below hV (Nat.le_refl _))
  have HSR := Lib.hid (fun V (hV : Below w.heap.size w V) => h2.below hV (Nat.le_refl _))
  have HN6 := Lib.hid hn60
  have HZZ := Lib.hid hzz
  have HLR : Hid (hs.length = n2) := h2.len
  have HMM : Hid (1 ≤ m ∧ m ≤ 6) := ⟨hm1, hm6⟩
  clear h h2 hzz
  by_cases hnn : n2 = n
  · have e0 : ((n2 : Int) != (n : Int)) = false := by simp; omega
    subst hnn
    go_enter Try.func32, Try.ntmps32
    go_wp2
    go_loopw [8, 9] (fun s i w' => ∃ k : Nat, k ≤ n2 ∧ i = .int .i64 (k : Int) ∧ s = .int .i64 (refC m zs hs k) ∧ Hid (∀ j, j < k → okO (ordAt hs j) m = true) ∧ Hid (Below w.heap.size w w')) (fun _ i _ => n2 - (intOf i).toNat)
    case atStart => exact ⟨0, Nat.zero_le _, by go_num, rfl, fun j hj => absurd hj (Nat.not_lt_zero _), Below.refl _ _⟩
    case round =>
      clear e0
      obtain ⟨k, hk, rfl, rfl, HK, HB⟩ := hrel
      obtain ⟨wo, rfl⟩ : ∃ wo : World, wo = wr := ⟨_, rfl⟩
      by_cases hlt : k < n2
      · have i1 : (k : Int) < (n2 : Int) := by omega
        obtain ⟨b1, o1, rfl, hc1⟩ := (HSL.out wo HB.out).at_ hlt
        obtain ⟨r, er, hr⟩ := HZZ.out k hlt
        rw [show zs[k]?.getD 0 = atI zs k from rfl, er] at hc1
        have HC1 : Hid (∀ V, Below w.heap.size w V → V.cell? ⟨b1, o1 + k, none⟩ = some (.int .i64 (r : Int))) := fun V hV => by
          obtain ⟨b3, o3, e3, hc3⟩ := (HSL.out V hV).at_ hlt
          have e3 := Option.some.inj e3
          injection e3 with e3 e4 _
          rw [← e3, ← e4, show zs[k]?.getD 0 = atI zs k from rfl, er] at hc3
          exact hc3
        obtain ⟨b5, o5, rfl, hb5, A4, n4, c4, hc4, hs4⟩ := (HSR.out wo HB.out).rows k hlt
        have HC4 : Hid (∀ V, Below wo.heap.size wo V → V.cell? ⟨b5, o5 + k, none⟩ = some (.slice A4 n4 c4) ∧ Sl V A4 n4 c4 (ordAt hs k)) := fun V hV => ⟨(hV.cell (p := ⟨b5, o5 + k, none⟩) hb5).trans hc4, hs4.below hV (Nat.le_refl _)⟩
        have HO1 : Hid (Calls Try.prog 37 #[.slice A4 n4 c4, .int .i64 (m : Int)] wo fun e w' => e = .returned (.bool (okO (ordAt hs k) m)) ∧ Dr wo w') := by
          have := orderR_any (ordAt hs k) (m : Int) A4 n4 c4 wo hs4
          rw [ordB_okO] at this
          exact this
        have HER : Hid (atI zs k = (r : Int) ∧ r < m) := ⟨er, hr⟩
        have hokb : okO (ordAt hs k) m = false → hisB m hs n2 = false := fun e => hisB_bad hlt e
        have HOB := Lib.hid hokb
        have HBZ : Hid (w.heap.size ≤ wo.heap.size) := HB.out.size
        have HL4 : Hid ((ordAt hs k).length = n4) := hs4.len
        obtain ⟨b, hbk⟩ : ∃ b, b = okO (ordAt hs k) m := ⟨_, rfl⟩
        rw [← hbk] at HO1 HOB
        have HBK := Lib.hid hbk
        clear hs4 er hokb hbk hr hc1
        rcases b with _ | _
        · have HX := Lib.hid (HOB.out rfl)
          go_wp2_with (go_at_call 37; refine HO1.out.mono ?_; rintro e w1 ⟨rfl, hd⟩; have HD1 := Lib.hid (hd.below wo.heap.size); clear hd)
          go_ret2
          exact ⟨.inr ⟨HX.out, rfl⟩, HB.out.trans (HD1.out.mono HBZ.out)⟩
        · have HOK2 : Hid (∀ j, j < k + 1 → okO (ordAt hs j) m = true) := fun j hj => by
            by_cases e : j = k
            · rw [e]; exact HBK.out.symm
            · exact HK.out j (by omega)
          obtain ⟨p4, ep4, hp4⟩ := ok_place (HOK2.out k (by omega)) HER.out.2
          have HIP : Hid (ixI (ordAt hs k) (r : Int) = (p4 : Int)) := ep4
          obtain ⟨cc, hcc⟩ : ∃ cc, cc = refC m zs hs k := ⟨_, rfl⟩
          have HCC : Hid (refC m zs hs k = cc) := hcc.symm
          have HCB : Hid (0 ≤ cc ∧ cc ≤ 42 * (k : Int)) := by
            rw [Hid, hcc, ← cst_ref HMM.out.2 HOK2.out (fun j hj => HZZ.out j (by omega)) k (by omega)]
            exact cstF_bd HMM.out.2 HOK2.out (fun j hj => HZZ.out j (by omega)) k (by omega)
          have HB36 : Hid (refB m zs hs k ≤ 36) := by
            rw [Hid, ← few_ref HMM.out.2 HOK2.out (fun j hj => HZZ.out j (by omega)) k (by omega)]
            exact fewT_le _ _ _
          rw [← hcc]
          clear hcc ep4 HBK HK HOB HL
          go_upto_region 9 with (go_at_call 37; refine HO1.out.mono ?_; rintro e w1 ⟨rfl, hd⟩; have HD1 := Lib.hid (hd.below wo.heap.size); clear hd)
          have HK0 : Hid (Below wo.heap.size wo w1.drew) := HD1.out.drew
          refine wp_region_held_drew (S := fun V => V.cell? ⟨b5, o5 + k, none⟩ = some (.slice A4 n4 c4)) (by kernel_rfl) (HC4.out _ HK0.out).1 (fun hHeld => ?_)
          generalize w1.drew = V0 at *
          refine wpAnyH_takeX (i := 0) (v := ?_) (by simp only [↓List.getElem?_toArray, ↓List.getElem?_cons_zero]; rfl) (by kernel_rfl) (by kernel_rfl) (by kernel_rfl) (by assumption) ?_ ?_ ?_
          rotate_left
          · exact fun _ _ _ h => h
          · exact Or.inl ⟨by rfl, by (intro V hV; (try dsimp only at hV); go_simp; try with_reducible rfl)⟩
          simp only [Act.put, List.setIfInBounds_toArray, List.set_cons_zero, List.set_cons_succ]
          refine wpAnyH_takeX (i := 2) (v := ?_) (by simp only [↓List.getElem?_toArray, ↓List.getElem?_cons_succ, ↓List.getElem?_cons_zero]; rfl) (by kernel_rfl) (by kernel_rfl) (by kernel_rfl) (by assumption) ?_ ?_ ?_
          rotate_left
          · exact fun _ _ _ h => h
          · exact Or.inl ⟨by rfl, by (intro V hV; (try dsimp only at hV); go_simp; try with_reducible rfl)⟩
          simp only [Act.put, List.setIfInBounds_toArray, List.set_cons_zero, List.set_cons_succ]
          refine wpAnyH_takeX (i := 3) (v := ?_) (by simp only [↓List.getElem?_toArray, ↓List.getElem?_cons_succ, ↓List.getElem?_cons_zero]; rfl) (by kernel_rfl) (by kernel_rfl) (by kernel_rfl) (by assumption) ?_ ?_ ?_
          rotate_left
          · exact fun _ _ _ h => h
          · exact Or.inl ⟨by rfl, by (intro V hV; (try dsimp only at hV); go_simp; try with_reducible rfl)⟩
          simp only [Act.put, List.setIfInBounds_toArray, List.set_cons_zero, List.set_cons_succ]
          refine wpAnyH_takeX (i := 4) (v := ?_) (by simp only [↓List.getElem?_toArray, ↓List.getElem?_cons_succ, ↓List.getElem?_cons_zero]; rfl) (by kernel_rfl) (by kernel_rfl) (by kernel_rfl) (by assumption) ?_ ?_ ?_
          rotate_left
          · exact fun _ _ _ h => h
          · exact Or.inl ⟨by rfl, by (intro V hV; (try dsimp only at hV); go_simp; try with_reducible rfl)⟩
          simp only [Act.put, List.setIfInBounds_toArray, List.set_cons_zero, List.set_cons_succ]
          refine wpAnyH_takeX (i := 5) (v := ?_) (by simp only [↓List.getElem?_toArray, ↓List.getElem?_cons_succ, ↓List.getElem?_cons_zero]; rfl) (by kernel_rfl) (by kernel_rfl) (by kernel_rfl) (by assumption) ?_ ?_ ?_
          rotate_left
          · exact fun _ _ _ h => h
          · exact Or.inl ⟨by rfl, by (intro V hV; (try dsimp only at hV); go_simp; try with_reducible rfl)⟩
          simp only [Act.put, List.setIfInBounds_toArray, List.set_cons_zero, List.set_cons_succ]
          refine wpAnyH_ready (rs := [1]) (by kernel_rfl) (by simp) ?_
          refine AllReadyH.cons rfl (fun K hK => ?_) ?_
          rotate_left
          · exact AllReadyH.nil
          go_simp
          go_wp2_with (go_at_call 64; refine (startR_any m V0 (by omega)).mono ?_; rintro e v1 ⟨⟨v, rfl, ho⟩, hb⟩; obtain ⟨A9, c9, rfl, hs9⟩ := ho.sl_len (startL_len m) (by omega))
          have HS9 := Lib.hid hs9
          have HK1 : Hid (Below wo.heap.size wo v1) := HK0.out.trans (hb.mono HK0.out.size)
          clear hb ho hs9
          refine hK.out _ _ (HC4.out _ HK1.out).1 (fun hHeld => ?_)
          clear hK K
          try simp only [Act.put, List.setIfInBounds_toArray, List.set_cons_zero, List.set_cons_succ]
          refine wpAnyH_ready (rs := [6]) (by kernel_rfl) (by simp) ?_
          refine AllReadyH.cons rfl (fun K hK => ?_) ?_
          rotate_left
          · exact AllReadyH.nil
          go_simp
          go_wp2_with (go_at_call 38; refine (turnedR_any (startL m) (ordAt hs k) A9 A4 m c9 n4 c4 v1 HS9.out (HC4.out _ HK1.out).2 (by omega)).mono ?_; rintro e v2 ⟨rfl, hd⟩)
          have HK2 : Hid (Below wo.heap.size wo v2) := HK1.out.trans (hd.below _)
          clear hd
          refine hK.out _ _ (HC4.out _ HK2.out).1 (fun hHeld => ?_)
          clear hK K
          try simp only [Act.put, List.setIfInBounds_toArray, List.set_cons_zero, List.set_cons_succ]
          refine wpAnyH_takeX (i := 7) (v := ?_) (by simp only [↓List.getElem?_toArray, ↓List.getElem?_cons_succ, ↓List.getElem?_cons_zero]; rfl) (by kernel_rfl) (by kernel_rfl) (by kernel_rfl) (by assumption) ?_ ?_ ?_
          rotate_left
          · exact fun _ _ _ h => h
          · exact Or.inl ⟨by rfl, by (intro V hV; (try dsimp only at hV); go_simp; try with_reducible rfl)⟩
          simp only [Act.put, List.setIfInBounds_toArray, List.set_cons_zero, List.set_cons_succ]
          refine wpAnyH_done (by kernel_rfl) ?_ _
          have HBV : Hid (Below w.heap.size w v2) := HB.out.trans (HK2.out.mono HBZ.out)
          clear HD1 HK0 HK1 HS9
          by_cases hk0 : k = 0
          · have i2 : ¬ (k : Int) > 0 := by omega
            have i2' : ¬ 0 < k := by omega
            have HRB : Hid (refB m zs hs k = turnN (startL m) (ordAt hs k)) := by subst hk0; rfl
            generalize turnN (startL m) (ordAt hs k) = f at *
            clear hk0
            go_upto_region 18 with (fail)
            have HRF : Hid (refC m zs hs (k + 1) = cc + (f : Int) + (p4 : Int) + 1) := by
              show refC m zs hs k + (refB m zs hs k : Int) + ixI (ordAt hs k) (atI zs k) + 1 = _
              rw [HRB.out, HCC.out, HER.out.1, HIP.out]
            have hb36 := HB36.out
            rw [HRB.out] at hb36
            have hcb := HCB.out
            have hn6 := HN6.out
            have hc4 := (HC4.out v2 HK2.out).1
            have hc1 := HC1.out v2 HBV.out
            have v11 : IntKind.i64.wrap (cc + (f : Int)) = cc + (f : Int) := IntWalk.i64_in _ (by omega)
            have v12 : IntKind.i64.wrap (cc + (f : Int) + (p4 : Int)) = cc + (f : Int) + (p4 : Int) := IntWalk.i64_in _ (by omega)
            have v13 : IntKind.i64.wrap (cc + (f : Int) + (p4 : Int) + 1) = cc + (f : Int) + (p4 : Int) + 1 := IntWalk.i64_in _ (by omega)
            have HIX : Hid (∀ j, Calls Try.prog 50 #[.slice A4 n4 c4, .int .i64 (r : Int)] (v2.drewN j) fun e w' => e = .returned (.int .i64 (p4 : Int)) ∧ v2.drewN j = w') := fun j => by
              have := index_any (ordAt hs k) (r : Int) A4 n4 c4 (v2.drewN j) ((HC4.out _ (below_drewN HK2.out)).2)
              rw [HIP.out] at this
              exact this
            clear hb36 hcb
            go_wp2
            go_quiet ((go_at_call 50; (with_reducible exact quiet_same (HIX.out _))))
            go_wp2
            exact ⟨⟨k + 1, by omega, by go_num, by rw [HRF.out], HOK2.out, below_drewN HBV.out⟩, by simp [intOf]; omega⟩
          · have i2 : (k : Int) > 0 := by omega
            have i2' : 0 < k := by omega
            obtain ⟨q, hq⟩ : ∃ q, q + 1 = k := ⟨k - 1, by omega⟩
            have v7 : IntKind.i64.wrap ((k : Int) - 1) = (q : Int) := by rw [IntWalk.i64_in _ (by omega)]; omega
            have hqn : q < n2 := by omega
            have i4 : (q : Int) < (n2 : Int) := by omega
            obtain ⟨b6, o6', e6, hb6, A6, n6, c6, hc6, hs6⟩ := (HSR.out wo HB.out).rows q hqn
            have e6 := Option.some.inj e6
            injection e6 with e6 e7 _
            subst e6 e7
            have HC6 : Hid (∀ V, Below wo.heap.size wo V → V.cell? ⟨b5, o5 + q, none⟩ = some (.slice A6 n6 c6) ∧ Sl V A6 n6 c6 (ordAt hs q)) := fun V hV => ⟨(hV.cell (p := ⟨b5, o5 + q, none⟩) hb5).trans hc6, hs6.below hV (Nat.le_refl _)⟩
            have hn6l : n6 ≤ 6 := by rw [← hs6.len, (okO_rolls (HOK2.out q (by omega))).1]; exact HMM.out.2
            obtain ⟨rq, erq, hrq⟩ := HZZ.out q hqn
            obtain ⟨p, ep, hp⟩ := ok_place (HOK2.out q (by omega)) hrq
            have hpn : p < n6 := by rw [← hs6.len, (okO_rolls (HOK2.out q (by omega))).1]; exact hp
            have hcq : v2.cell? ⟨b1, o1 + q, none⟩ = some (.int .i64 (rq : Int)) := by
              obtain ⟨b3, o3, e3, hc3⟩ := (HSL.out v2 HBV.out).at_ hqn
              have e3 := Option.some.inj e3
              injection e3 with e3 e4 _
              rw [← e3, ← e4, show zs[q]?.getD 0 = atI zs q from rfl, erq] at hc3
              exact hc3
            have HRB : Hid (refB m zs hs k = bstR (ordAt hs q) (ordAt hs k) p p) := by
              rw [Hid, ← hq]
              show bstR (ordAt hs q) (ordAt hs (q + 1)) (ixI (ordAt hs q) (atI zs q)).toNat (ixI (ordAt hs q) (atI zs q)).toNat = _
              rw [erq, ep, Int.toNat_natCast]
            have HIQ := Lib.hid (index_any (ordAt hs q) (rq : Int) A6 n6 c6 v2 (HC6.out _ HK2.out).2)
            rw [ep] at HIQ
            have HTQ := Lib.hid (turnedR_any (ordAt hs q) (ordAt hs k) A6 A4 n6 c6 n4 c4 v2 (HC6.out _ HK2.out).2 (HC4.out _ HK2.out).2 (by omega))
            have hc4' := (HC4.out _ HK2.out).1
            have hc6' := (HC6.out _ HK2.out).1
            have HMV := Lib.hid (fun V t (hV : Below wo.heap.size wo V) (ht : t ≤ p) => movedR_any A6 n6 c6 p t (ordAt hs q) V (HC6.out _ hV).2 (by omega) ht (by omega))
            have HML : Hid (∀ t, (movedL (ordAt hs q) p t).length = n6) := fun t => by
              rw [(moved_perm (by rw [hs6.len]; omega)).length_eq, hs6.len]
            clear hc6 hs6 ep erq hrq hb6 hc4 hq
            go_wp2_with (first
              | (go_at_call 50; refine HIQ.out.mono ?_; rintro e v3 ⟨rfl, rfl⟩)
              | (go_at_call 38; refine HTQ.out.mono ?_; rintro e v3 ⟨rfl, hd⟩; have HK3 : Hid (Below wo.heap.size wo v3) := HK2.out.trans (hd.below _); clear hd))
            clear hcq hc4' hc6' HIQ HTQ HBV
            go_loopw [10, 13] (fun b t w' => ∃ tt : Nat, tt ≤ p ∧ t = .int .i64 (tt : Int) ∧ b = .int .i64 (bstR (ordAt hs q) (ordAt hs k) p tt : Int) ∧ Hid (Below wo.heap.size wo w')) (fun _ t _ => p - (intOf t).toNat)
            case atStart => exact ⟨0, Nat.zero_le _, by go_num, rfl, HK3.out⟩
            case round =>
              clear HK3
              obtain ⟨tt, htt, rfl, rfl, HKK⟩ := hrel
              obtain ⟨wi, rfl⟩ : ∃ wi : World, wi = wr := ⟨_, rfl⟩
              by_cases hlp : tt < p
              · have j1 : (tt : Int) < (p : Int) := by omega
                have HBS : Hid (bstR (ordAt hs q) (ordAt hs k) p (tt + 1) = min (bstR (ordAt hs q) (ordAt hs k) p tt) (turnN (movedL (ordAt hs q) p tt) (ordAt hs k))) := rfl
                have HMV2 := Lib.hid (fun V hV => HMV.out V tt hV htt)
                have HML2 := Lib.hid (HML.out tt)
                have HTR := Lib.hid (fun V (A9 : Option Addr) c9 (hV : Below wo.heap.size wo V) (h9 : Sl V A9 n6 c9 (movedL (ordAt hs q) p tt)) => turnedR_any (movedL (ordAt hs q) p tt) (ordAt hs k) A9 A4 n6 c9 n4 c4 V h9 (HC4.out _ hV).2 (by omega))
                generalize bstR (ordAt hs q) (ordAt hs k) p tt = f at *
                generalize turnN (movedL (ordAt hs q) p tt) (ordAt hs k) = t at *
                have hmin : ∀ V : World, (Builtin.min_ #[3, 3] 3 #[.int .i64 (f : Int), .int .i64 (t : Int)]).run Try.prog V = .ok (.int .i64 ((min f t : Nat) : Int)) V := fun V => by
                  rw [run_min_int2]
                  congr 2
                  by_cases h : (t : Int) < (f : Int)
                  · rw [if_pos h, Nat.min_eq_right (by omega)]
                  · rw [if_neg h, Nat.min_eq_left (by omega)]
                have HKD : Hid (Below wo.heap.size wo wi.drew) := HKK.out.drew
                clear HMV HML HRB HB36 HCB HZZ HSL HSR HOK2 HC6 HC1
                go_wp2
                refine wp_region_held_drew (S := fun V => V.cell? ⟨b5, o5 + k, none⟩ = some (.slice A4 n4 c4)) (by kernel_rfl) (HC4.out _ HKD.out).1 (fun hHeld => ?_)
                generalize wi.drew = V1 at *
                refine wpAnyH_takeX (i := 0) (v := ?_) (by simp only [↓List.getElem?_toArray, ↓List.getElem?_cons_zero]; rfl) (by kernel_rfl) (by kernel_rfl) (by kernel_rfl) (by assumption) ?_ ?_ ?_
                rotate_left
                · exact fun _ _ _ h => h
                · exact Or.inl ⟨by rfl, by (intro V hV; (try dsimp only at hV); go_simp; try with_reducible rfl)⟩
                simp only [Act.put, List.setIfInBounds_toArray, List.set_cons_zero, List.set_cons_succ]
                refine wpAnyH_takeX (i := 1) (v := ?_) (by simp only [↓List.getElem?_toArray, ↓List.getElem?_cons_succ, ↓List.getElem?_cons_zero]; rfl) (by kernel_rfl) (by kernel_rfl) (by kernel_rfl) (by assumption) ?_ ?_ ?_
                rotate_left
                · exact fun _ _ _ h => h
                · exact Or.inl ⟨by rfl, by (intro V hV; (try dsimp only at hV); go_simp; try with_reducible rfl)⟩
                simp only [Act.put, List.setIfInBounds_toArray, List.set_cons_zero, List.set_cons_succ]
                refine wpAnyH_takeX (i := 2) (v := ?_) (by simp only [↓List.getElem?_toArray, ↓List.getElem?_cons_succ, ↓List.getElem?_cons_zero]; rfl) (by kernel_rfl) (by kernel_rfl) (by kernel_rfl) (by assumption) ?_ ?_ ?_
                rotate_left
                · exact fun _ _ _ h => h
                · exact Or.inl ⟨by rfl, by (intro V hV; (try dsimp only at hV); go_simp; try with_reducible rfl)⟩
                simp only [Act.put, List.setIfInBounds_toArray, List.set_cons_zero, List.set_cons_succ]
                refine wpAnyH_takeX (i := 3) (v := ?_) (by simp only [↓List.getElem?_toArray, ↓List.getElem?_cons_succ, ↓List.getElem?_cons_zero]; rfl) (by kernel_rfl) (by kernel_rfl) (by kernel_rfl) (by assumption) ?_ ?_ ?_
                rotate_left
                · exact fun _ _ _ h => h
                · exact Or.inl ⟨by rfl, by (intro V hV; (try dsimp only at hV); go_simp; try with_reducible rfl)⟩
                simp only [Act.put, List.setIfInBounds_toArray, List.set_cons_zero, List.set_cons_succ]
                refine wpAnyH_takeX (i := 5) (v := ?_) (by simp only [↓List.getElem?_toArray, ↓List.getElem?_cons_succ, ↓List.getElem?_cons_zero]; rfl) (by kernel_rfl) (by kernel_rfl) (by kernel_rfl) (by assumption) ?_ ?_ ?_
                rotate_left
                · exact fun _ _ _ h => h
                · exact Or.inl ⟨by rfl, by (intro V hV; (try dsimp only at hV); go_simp; try with_reducible rfl)⟩
                simp only [Act.put, List.setIfInBounds_toArray, List.set_cons_zero, List.set_cons_succ]
                refine wpAnyH_takeX (i := 6) (v := ?_) (by simp only [↓List.getElem?_toArray, ↓List.getElem?_cons_succ, ↓List.getElem?_cons_zero]; rfl) (by kernel_rfl) (by kernel_rfl) (by kernel_rfl) (by assumption) ?_ ?_ ?_
                rotate_left
                · exact fun _ _ _ h => h
                · exact Or.inl ⟨by rfl, by (intro V hV; (try dsimp only at hV); go_simp; try with_reducible rfl)⟩
                simp only [Act.put, List.setIfInBounds_toArray, List.set_cons_zero, List.set_cons_succ]
                refine wpAnyH_takeX (i := 7) (v := ?_) (by simp only [↓List.getElem?_toArray, ↓List.getElem?_cons_succ, ↓List.getElem?_cons_zero]; rfl) (by kernel_rfl) (by kernel_rfl) (by kernel_rfl) (by assumption) ?_ ?_ ?_
                rotate_left
                · exact fun _ _ _ h => h
                · exact Or.inl ⟨by rfl, by (intro V hV; (try dsimp only at hV); go_simp; try with_reducible rfl)⟩
                simp only [Act.put, List.setIfInBounds_toArray, List.set_cons_zero, List.set_cons_succ]
                refine wpAnyH_takeX (i := 8) (v := ?_) (by simp only [↓List.getElem?_toArray, ↓List.getElem?_cons_succ, ↓List.getElem?_cons_zero]; rfl) (by kernel_rfl) (by kernel_rfl) (by kernel_rfl) (by assumption) ?_ ?_ ?_
                rotate_left
                · exact fun _ _ _ h => h
                · exact Or.inl ⟨by rfl, by (intro V hV; (try dsimp only at hV); go_simp; try with_reducible rfl)⟩
                simp only [Act.put, List.setIfInBounds_toArray, List.set_cons_zero, List.set_cons_succ]
                refine wpAnyH_ready (rs := [4]) (by kernel_rfl) (by simp) ?_
                refine AllReadyH.cons rfl (fun K hK => ?_) ?_
                rotate_left
                · exact AllReadyH.nil
                go_simp
                go_wp2_with (go_at_call 65; refine (HMV2.out V1 HKD.out).mono ?_; rintro e v5 ⟨⟨v, rfl, ho⟩, hb⟩; obtain ⟨A9, c9, rfl, hs9⟩ := ho.sl_len HML2.out (by omega))
                have HS9 := Lib.hid hs9
                have HK5 : Hid (Below wo.heap.size wo v5) := HKD.out.trans (hb.mono HKD.out.size)
                clear hb ho hs9
                refine hK.out _ _ (HC4.out _ HK5.out).1 (fun hHeld => ?_)
                clear hK K
                try simp only [Act.put, List.setIfInBounds_toArray, List.set_cons_zero, List.set_cons_succ]
                refine wpAnyH_ready (rs := [9]) (by kernel_rfl) (by simp) ?_
                refine AllReadyH.cons rfl (fun K hK => ?_) ?_
                rotate_left
                · exact AllReadyH.nil
                go_simp
                go_wp2_with (go_at_call 38; refine (HTR.out v5 A9 c9 HK5.out HS9.out).mono ?_; rintro e v6 ⟨rfl, hd⟩)
                have HK6 : Hid (Below wo.heap.size wo v6) := HK5.out.trans (hd.below _)
                clear hd
                refine hK.out _ _ (HC4.out _ HK6.out).1 (fun hHeld => ?_)
                clear hK K
                try simp only [Act.put, List.setIfInBounds_toArray, List.set_cons_zero, List.set_cons_succ]
                refine wpAnyH_takeX (i := 10) (v := ?_) (by simp only [↓List.getElem?_toArray, ↓List.getElem?_cons_succ, ↓List.getElem?_cons_zero]; rfl) (by kernel_rfl) (by kernel_rfl) (by kernel_rfl) (by assumption) ?_ ?_ ?_
                rotate_left
                · exact fun _ _ _ h => h
                · exact Or.inl ⟨by rfl, by (intro V hV; (try dsimp only at hV); go_simp; try with_reducible rfl)⟩
                simp only [Act.put, List.setIfInBounds_toArray, List.set_cons_zero, List.set_cons_succ]
                refine wpAnyH_takeX (i := 11) (v := ?_) (by simp only [↓List.getElem?_toArray, ↓List.getElem?_cons_succ, ↓List.getElem?_cons_zero]; rfl) (by kernel_rfl) (by kernel_rfl) (by kernel_rfl) (by assumption) ?_ ?_ ?_
                rotate_left
                · exact fun _ _ _ h => h
                · exact Or.inl ⟨by rfl, by (intro V hV; (try dsimp only at hV); go_simp; try with_reducible rfl)⟩
                simp only [Act.put, List.setIfInBounds_toArray, List.set_cons_zero, List.set_cons_succ]
                refine wpAnyH_done (by kernel_rfl) ?_ _
                go_wp2
                exact ⟨⟨tt + 1, by omega, by go_num, by rw [HBS.out], HK6.out⟩, by simp [intOf]; omega⟩
              · have htp : tt = p := by omega
                subst htp
                have j1 : ¬ (tt : Int) < (tt : Int) := by omega
                have HBV : Hid (Below w.heap.size w wi) := HB.out.trans (HKK.out.mono HBZ.out)
                generalize bstR (ordAt hs q) (ordAt hs k) tt tt = f at *
                clear HMV HML HC6 v7 i4 i2 i2' HK2
                go_upto_region 18 with (fail)
                have HRF : Hid (refC m zs hs (k + 1) = cc + (f : Int) + (p4 : Int) + 1) := by
                  show refC m zs hs k + (refB m zs hs k : Int) + ixI (ordAt hs k) (atI zs k) + 1 = _
                  rw [HRB.out, HCC.out, HER.out.1, HIP.out]
                have hb36 := HB36.out
                rw [HRB.out] at hb36
                have hcb := HCB.out
                have hn6 := HN6.out
                have hc4 := (HC4.out wi HKK.out).1
                have hc1 := HC1.out wi HBV.out
                have v11 : IntKind.i64.wrap (cc + (f : Int)) = cc + (f : Int) := IntWalk.i64_in _ (by omega)
                have v12 : IntKind.i64.wrap (cc + (f : Int) + (p4 : Int)) = cc + (f : Int) + (p4 : Int) := IntWalk.i64_in _ (by omega)
                have v13 : IntKind.i64.wrap (cc + (f : Int) + (p4 : Int) + 1) = cc + (f : Int) + (p4 : Int) + 1 := IntWalk.i64_in _ (by omega)
                have HIX : Hid (∀ j, Calls Try.prog 50 #[.slice A4 n4 c4, .int .i64 (r : Int)] (wi.drewN j) fun e w' => e = .returned (.int .i64 (p4 : Int)) ∧ wi.drewN j = w') := fun j => by
                  have := index_any (ordAt hs k) (r : Int) A4 n4 c4 (wi.drewN j) ((HC4.out _ (below_drewN HKK.out)).2)
                  rw [HIP.out] at this
                  exact this
                clear hb36 hcb
                go_wp2
                go_quiet ((go_at_call 50; (with_reducible exact quiet_same (HIX.out _))))
                go_wp2
                exact ⟨⟨k + 1, by omega, by go_num, by rw [HRF.out], HOK2.out, below_drewN HBV.out⟩, by simp [intOf]; omega⟩
      · have hkn : k = n2 := by omega
        subst hkn
        have i1 : ¬ (k : Int) < (k : Int) := by omega
        have HX := Lib.hid (hisB_good HLR.out HK.out)
        go_wp2
        go_ret2
        exact ⟨.inl ⟨HX.out, rfl⟩, HB.out⟩
  · have e0 : ((n2 : Int) != (n : Int)) = true := by simp; omega
    have HX : Hid (hisB m hs n = false) := hisB_len (by rw [HLR.out]; exact hnn)
    go_enter Try.func32, Try.ntmps32
    go_wp2
    go_ret2
    exact ⟨.inr ⟨HX.out, rfl⟩, Below.refl _ _⟩
end Go.Proofs.Ytcnjkdkkflpgnaa
