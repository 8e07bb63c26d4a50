import Derived.Test.YtfeohcknopdamaaT37
/- Layer 10: TurnsOrders (written by gen_orders.py). -/
namespace Go.Proofs.Ytfeohcknopdamaa
open Go.RowKit
set_option linter.unusedVariables false

set_option maxRecDepth 100000 in
set_option maxHeartbeats 12800000 in
theorem orders_walk (zs0 : List Int) (n a : Int) (A : Option Addr) (m c : Nat) (w : World) (h : Sl w A m c zs0) :
    Calls Try.prog 5 #[.int .i64 n, .int .i64 a, .slice A m c] w fun e w' => e = .returned (.bool true) ∧ Below w.heap.size w w' := by
  have HCP := Lib.hid (copy_any zs0 A m c w h)
  have HL0 : Hid (Sls w []) := fun _ h => by cases h
  have HB0 : Hid (Below w.heap.size w w) := Below.refl _ _
  have hl0 : (zs0.take 42).length ≤ 42 := by rw [List.length_take]; omega
  clear h
  generalize zs0.take 42 = zs at HCP hl0
  have HRB0 := Lib.hid (fun V A c (hs : Sl V A zs.length c zs) => ordersR_any zs A zs.length c V hs)
  rcases h0 : in18 n with _ | _
  · have HOR := Lib.hid (fun V => order_bad n a V (by rw [h0]; rfl))
    by_cases h1 : n < 0
    · have d0 : decide (n < 0) = true := decide_eq_true h1
      clear h0
      rcases h3 : ordB zs with _ | _
      · have HOA := Lib.hid (fun V A c (hs : Sl V A zs.length c zs) => orderAt_bad zs A zs.length c V hs h3)
        have HTU := Lib.hid (fun V A c (hs : Sl V A zs.length c zs) => turn_bad zs A zs.length c V hs h3)
        have HRB := HRB0
        rw [h3] at HRB
        clear h3 HRB0
        go_enter Try.func5, Try.ntmps5
        go_upto_region 5 with (first
          | (go_at_call 16; (with_reducible refine (HCP.out).mono ?_); rintro e w1 ⟨⟨A1, c1, rfl, hs⟩, hb⟩; have HL1 := Lib.hid ((HL0.out.below hb).push hs); have HB1 := Lib.hid (HB0.out.trans (hb.mono HB0.out.size)); clear hs hb)
          | (go_at_call 30; (with_reducible refine (HOR.out _).mono ?_); rintro e w2 ⟨rfl, hb⟩; have HL2 := Lib.hid ((HL1.out.below hb)); have HB2 := Lib.hid (HB1.out.trans (hb.mono HB1.out.size)); clear hb)
          | (go_at_call 31; (with_reducible refine (HOA.out _ _ _ HL2.out.hd).mono ?_); rintro e w3 ⟨rfl, hb⟩; have HL3 := Lib.hid ((HL2.out.below hb)); have HB3 := Lib.hid (HB2.out.trans (hb.mono HB2.out.size)); clear hb)
          | (go_at_call 32; (with_reducible refine (HTU.out _ _ _ HL3.out.hd).mono ?_); rintro e w4 ⟨rfl, hb⟩; have HL4 := Lib.hid ((HL3.out.below hb)); have HB4 := Lib.hid (HB3.out.trans (hb.mono HB3.out.size)); clear hb))
        have HQ5 := Lib.hid (Bx2.new w4 0 0)
        have HL5 := Lib.hid (HL4.out.below (below_one w4 (.cells #[.int .i64 0, .int .i64 0] 35)))
        have HB5 : Hid (Below w.heap.size w (w4.alloc (.cells #[.int .i64 0, .int .i64 0] 35))) := HB4.out.alloc HB4.out.size _
        generalize w4.alloc (.cells #[.int .i64 0, .int .i64 0] 35) = w5 at HQ5 HL5 HB5 ⊢
        generalize w4.heap.size = g at HQ5 ⊢
        go_upto_region 11 with (first
          | (go_at_call 35; (with_reducible refine (HRB.out _ _ _ HL5.out.hd).mono ?_); rintro e w6 ⟨rfl, hd⟩; have hb := hd.below w5.heap.size; have HL6 := Lib.hid ((HL5.out.below hb)); have HB6 := Lib.hid (HB5.out.trans (hb.mono HB5.out.size)); have HQ6 := Lib.hid (HQ5.out.below hb HQ5.out.lt); clear hb hd))
        have e0 := HQ6.out.c0
        have e1 := HQ6.out.c1
        have heq := fun W => run_eql_pair W 0 0
        go_wp2_with (go_at_call 19; (with_reducible refine (awake_here _).mono ?_); rintro e v3 ⟨rfl, hb⟩; have HBZ := Lib.hid (HB6.out.trans (hb.mono HB6.out.size)); clear hb)
        go_ret
        exact ⟨rfl, HBZ.out⟩
      · obtain ⟨ho, hz18⟩ := ordB_or h3
        obtain ⟨x, y, hT⟩ := turns_any ho hz18
        have HOA := Lib.hid (fun V A c (hs : Sl V A zs.length c zs) => orderAt_ok zs A zs.length c V hs ho hz18)
        have HTU := Lib.hid hT.1
        have HTR := Lib.hid hT.2
        have HRA := Lib.hid (fun V A c (hs : Sl V A zs.length c zs) => orderAtR_any zs.length zs A c V hz18 hs ho)
        have HRB := HRB0
        rw [h3] at HRB
        clear h3 HRB0 hT ho
        generalize rkO zs.length zs = pp at *
        go_enter Try.func5, Try.ntmps5
        go_upto_region 5 with (first
          | (go_at_call 16; (with_reducible refine (HCP.out).mono ?_); rintro e w1 ⟨⟨A1, c1, rfl, hs⟩, hb⟩; have HL1 := Lib.hid ((HL0.out.below hb).push hs); have HB1 := Lib.hid (HB0.out.trans (hb.mono HB0.out.size)); clear hs hb)
          | (go_at_call 30; (with_reducible refine (HOR.out _).mono ?_); rintro e w2 ⟨rfl, hb⟩; have HL2 := Lib.hid ((HL1.out.below hb)); have HB2 := Lib.hid (HB1.out.trans (hb.mono HB1.out.size)); clear hb)
          | (go_at_call 31; (with_reducible refine (HOA.out _ _ _ HL2.out.hd).mono ?_); rintro e w3 ⟨rfl, hb⟩; have HL3 := Lib.hid ((HL2.out.below hb)); have HB3 := Lib.hid (HB2.out.trans (hb.mono HB2.out.size)); clear hb)
          | (go_at_call 32; (with_reducible refine (HTU.out _ _ _ HL3.out.hd).mono ?_); rintro e w4 ⟨rfl, hb⟩; have HL4 := Lib.hid ((HL3.out.below hb)); have HB4 := Lib.hid (HB3.out.trans (hb.mono HB3.out.size)); clear hb))
        have HQ5 := Lib.hid (Bx2.new w4 x y)
        have HL5 := Lib.hid (HL4.out.below (below_one w4 (.cells #[.int .i64 x, .int .i64 y] 35)))
        have HB5 : Hid (Below w.heap.size w (w4.alloc (.cells #[.int .i64 x, .int .i64 y] 35))) := HB4.out.alloc HB4.out.size _
        generalize w4.alloc (.cells #[.int .i64 x, .int .i64 y] 35) = w5 at HQ5 HL5 HB5 ⊢
        generalize w4.heap.size = g at HQ5 ⊢
        go_upto_region 12 with (first
          | (go_at_call 35; (with_reducible refine (HRB.out _ _ _ HL5.out.hd).mono ?_); rintro e w6 ⟨rfl, hd⟩; have hb := hd.below w5.heap.size; have HL6 := Lib.hid ((HL5.out.below hb)); have HB6 := Lib.hid (HB5.out.trans (hb.mono HB5.out.size)); have HQ6 := Lib.hid (HQ5.out.below hb HQ5.out.lt); clear hb hd))
        have e0 := HQ6.out.c0
        have e1 := HQ6.out.c1
        have heq := fun W => run_eql_pair W x y
        have HLD := Lib.hid (HL6.out.below (Below.refl _ w6).drew)
        have HBD : Hid (Below w.heap.size w w6.drew) := HB6.out.drew
        have HQD : Hid (Bx2 w6.drew g x y) := HQ6.out
        refine wp_region_held_drew (S := fun V => V.cell? ⟨g, 0, none⟩ = some (.int .i64 x) ∧ V.cell? ⟨g, 1, none⟩ = some (.int .i64 y)) (by kernel_rfl) ⟨e0, e1⟩ (fun hHeld => ?_)
        generalize w6.drew = V0 at HLD HBD HQD hHeld ⊢
        clear e0 e1
        refine wpAnyH_takeX (i := 0) (v := ?_) (by simp only [↓List.getElem?_toArray, ↓List.getElem?_cons_zero]; rfl) (by kernel_rfl) (by kernel_rfl) (by kernel_rfl) (by assumption) ?_ ?_ ?_
        rotate_left
        · exact fun _ _ _ h => h
        · exact Or.inl ⟨by rfl, by (intro V hV; (try dsimp only at hV); go_simp; try with_reducible rfl)⟩
        simp only [Act.put, List.setIfInBounds_toArray, List.set_cons_zero, List.set_cons_succ]
        refine wpAnyH_takeX (i := 1) (v := ?_) (by simp only [↓List.getElem?_toArray, ↓List.getElem?_cons_succ, ↓List.getElem?_cons_zero]; rfl) (by kernel_rfl) (by kernel_rfl) (by kernel_rfl) (by assumption) ?_ ?_ ?_
        rotate_left
        · exact fun _ _ _ h => h
        · exact Or.inl ⟨by rfl, by (intro V hV; (try dsimp only at hV); go_simp; try with_reducible rfl)⟩
        simp only [Act.put, List.setIfInBounds_toArray, List.set_cons_zero, List.set_cons_succ]
        refine wpAnyH_ready (rs := [2]) (by kernel_rfl) (by simp) ?_
        refine AllReadyH.cons rfl (fun K hK => ?_) ?_
        · go_simp
          go_wp2_with (go_at_call 36; (with_reducible refine (HRA.out _ _ _ HLD.out.hd).mono ?_); rintro e v1 ⟨rfl, hb⟩; have HLV := Lib.hid (HLD.out.below hb); have HBV := Lib.hid (HBD.out.trans (hb.mono HBD.out.size)); have HQV := Lib.hid (HQD.out.below hb HQD.out.lt); clear hb)
          refine hK.out _ _ ⟨HQV.out.c0, HQV.out.c1⟩ (fun hHeld => ?_)
          clear hK K
          try simp only [List.setIfInBounds_toArray, List.set_cons_zero, List.set_cons_succ]
          refine wpAnyH_takeX (i := 3) (v := ?_) (by simp only [↓List.getElem?_toArray, ↓List.getElem?_cons_succ, ↓List.getElem?_cons_zero]; rfl) (by kernel_rfl) (by kernel_rfl) (by kernel_rfl) (by assumption) ?_ ?_ ?_
          rotate_left
          · exact fun _ _ _ h => h
          · exact Or.inl ⟨by rfl, by (intro V hV; (try dsimp only at hV); go_simp; try with_reducible rfl)⟩
          simp only [Act.put, List.setIfInBounds_toArray, List.set_cons_zero, List.set_cons_succ]
          refine wpAnyH_takeX (i := 4) (v := ?_) (by simp only [↓List.getElem?_toArray, ↓List.getElem?_cons_succ, ↓List.getElem?_cons_zero]; rfl) (by kernel_rfl) (by kernel_rfl) (by kernel_rfl) (by assumption) ?_ ?_ ?_
          rotate_left
          · exact fun _ _ _ h => h
          · exact Or.inl ⟨by rfl, by (intro V hV; (try dsimp only at hV); go_simp; try with_reducible rfl)⟩
          simp only [Act.put, List.setIfInBounds_toArray, List.set_cons_zero, List.set_cons_succ]
          refine wpAnyH_takeX (i := 5) (v := ?_) (by simp only [↓List.getElem?_toArray, ↓List.getElem?_cons_succ, ↓List.getElem?_cons_zero]; rfl) (by kernel_rfl) (by kernel_rfl) (by kernel_rfl) (by assumption) ?_ ?_ ?_
          rotate_left
          · exact fun _ _ _ h => h
          · exact Or.inl ⟨by rfl, by (intro V hV; (try dsimp only at hV); go_simp; try with_reducible rfl)⟩
          simp only [Act.put, List.setIfInBounds_toArray, List.set_cons_zero, List.set_cons_succ]
          refine wpAnyH_takeX (i := 6) (v := ?_) (by simp only [↓List.getElem?_toArray, ↓List.getElem?_cons_succ, ↓List.getElem?_cons_zero]; rfl) (by kernel_rfl) (by kernel_rfl) (by kernel_rfl) (by assumption) ?_ ?_ ?_
          rotate_left
          · exact fun _ _ _ h => h
          · exact Or.inl ⟨by rfl, by (intro V hV; (try dsimp only at hV); go_simp; try with_reducible rfl)⟩
          simp only [Act.put, List.setIfInBounds_toArray, List.set_cons_zero, List.set_cons_succ]
          refine wpAnyH_takeX (i := 7) (v := ?_) (by simp only [↓List.getElem?_toArray, ↓List.getElem?_cons_succ, ↓List.getElem?_cons_zero]; rfl) (by kernel_rfl) (by kernel_rfl) (by kernel_rfl) (by assumption) ?_ ?_ ?_
          rotate_left
          · exact fun _ _ _ h => h
          · exact Or.inl ⟨by rfl, by (intro V hV; (try dsimp only at hV); go_simp; try with_reducible rfl)⟩
          simp only [Act.put, List.setIfInBounds_toArray, List.set_cons_zero, List.set_cons_succ]
          refine wpAnyH_takeX (i := 8) (v := ?_) (by simp only [↓List.getElem?_toArray, ↓List.getElem?_cons_succ, ↓List.getElem?_cons_zero]; rfl) (by kernel_rfl) (by kernel_rfl) (by kernel_rfl) (by assumption) ?_ ?_ ?_
          rotate_left
          · exact fun _ _ _ h => h
          · exact Or.inl ⟨by rfl, by (intro V hV; (try dsimp only at hV); go_simp; try with_reducible rfl)⟩
          simp only [Act.put, List.setIfInBounds_toArray, List.set_cons_zero, List.set_cons_succ]
          refine wpAnyH_takeX (i := 9) (v := ?_) (by simp only [↓List.getElem?_toArray, ↓List.getElem?_cons_succ, ↓List.getElem?_cons_zero]; rfl) (by kernel_rfl) (by kernel_rfl) (by kernel_rfl) (by assumption) ?_ ?_ ?_
          rotate_left
          · exact fun _ _ _ h => h
          · exact Or.inl ⟨by rfl, by (intro V hV; (try dsimp only at hV); go_simp; try with_reducible rfl)⟩
          simp only [Act.put, List.setIfInBounds_toArray, List.set_cons_zero, List.set_cons_succ]
          refine wpAnyH_takeX (i := 10) (v := ?_) (by simp only [↓List.getElem?_toArray, ↓List.getElem?_cons_succ, ↓List.getElem?_cons_zero]; rfl) (by kernel_rfl) (by kernel_rfl) (by kernel_rfl) (by assumption) ?_ ?_ ?_
          rotate_left
          · exact fun _ _ _ h => h
          · exact Or.inl ⟨by rfl, by (intro V hV; (try dsimp only at hV); go_simp; try with_reducible rfl)⟩
          simp only [Act.put, List.setIfInBounds_toArray, List.set_cons_zero, List.set_cons_succ]
          refine wpAnyH_ready (rs := [11]) (by kernel_rfl) (by simp) ?_
          refine AllReadyH.cons rfl (fun K hK => ?_) ?_
          · go_simp
            go_wp2_with (go_at_call 37; (with_reducible refine (HTR.out _ _ _ HLV.out.hd).mono ?_); rintro e v2 ⟨rfl, hb⟩; have HBW := Lib.hid (HBV.out.trans (hb.mono HBV.out.size)); have HQW := Lib.hid (HQV.out.below hb HQV.out.lt); clear hb)
            refine hK.out _ _ ⟨HQW.out.c0, HQW.out.c1⟩ (fun hHeld => ?_)
            clear hK K
            try simp only [List.setIfInBounds_toArray, List.set_cons_zero, List.set_cons_succ]
            refine wpAnyH_takeX (i := 12) (v := ?_) (by simp only [↓List.getElem?_toArray, ↓List.getElem?_cons_succ, ↓List.getElem?_cons_zero]; rfl) (by kernel_rfl) (by kernel_rfl) (by kernel_rfl) (by assumption) ?_ ?_ ?_
            rotate_left
            · exact fun _ _ _ h => h
            · exact Or.inl ⟨by rfl, by (intro V hV; (try dsimp only at hV); go_simp; try with_reducible rfl)⟩
            simp only [Act.put, List.setIfInBounds_toArray, List.set_cons_zero, List.set_cons_succ]
            refine wpAnyH_takeX (i := 13) (v := ?_) (by simp only [↓List.getElem?_toArray, ↓List.getElem?_cons_succ, ↓List.getElem?_cons_zero]; rfl) (by kernel_rfl) (by kernel_rfl) (by kernel_rfl) (by assumption) ?_ ?_ ?_
            rotate_left
            · exact fun _ _ _ h => h
            · exact Or.inl ⟨by rfl, by (intro V hV; (try dsimp only at hV); go_simp; try with_reducible rfl)⟩
            simp only [Act.put, List.setIfInBounds_toArray, List.set_cons_zero, List.set_cons_succ]
            refine wpAnyH_takeX (i := 14) (v := ?_) (by simp only [↓List.getElem?_toArray, ↓List.getElem?_cons_succ, ↓List.getElem?_cons_zero]; rfl) (by kernel_rfl) (by kernel_rfl) (by kernel_rfl) (by assumption) ?_ ?_ ?_
            rotate_left
            · exact fun _ _ _ h => h
            · exact Or.inl ⟨by rfl, by (intro V hV; (try dsimp only at hV); go_simp; try with_reducible rfl)⟩
            simp only [Act.put, List.setIfInBounds_toArray, List.set_cons_zero, List.set_cons_succ]
            refine wpAnyH_takeX (i := 15) (v := ?_) (by simp only [↓List.getElem?_toArray, ↓List.getElem?_cons_succ, ↓List.getElem?_cons_zero]; rfl) (by kernel_rfl) (by kernel_rfl) (by kernel_rfl) (by assumption) ?_ ?_ ?_
            rotate_left
            · exact fun _ _ _ h => h
            · exact Or.inl ⟨by rfl, by (intro V hV; (try dsimp only at hV); go_simp; try with_reducible rfl)⟩
            simp only [Act.put, List.setIfInBounds_toArray, List.set_cons_zero, List.set_cons_succ]
            refine wpAnyH_takeX (i := 16) (v := ?_) (by simp only [↓List.getElem?_toArray, ↓List.getElem?_cons_succ, ↓List.getElem?_cons_zero]; rfl) (by kernel_rfl) (by kernel_rfl) (by kernel_rfl) (by assumption) ?_ ?_ ?_
            rotate_left
            · exact fun _ _ _ h => h
            · exact Or.inl ⟨by rfl, by (intro V hV; (try dsimp only at hV); go_simp; try with_reducible rfl)⟩
            simp only [Act.put, List.setIfInBounds_toArray, List.set_cons_zero, List.set_cons_succ]
            refine wpAnyH_takeX (i := 17) (v := ?_) (by simp only [↓List.getElem?_toArray, ↓List.getElem?_cons_succ, ↓List.getElem?_cons_zero]; rfl) (by kernel_rfl) (by kernel_rfl) (by kernel_rfl) (by assumption) ?_ ?_ ?_
            rotate_left
            · exact fun _ _ _ h => h
            · exact Or.inl ⟨by rfl, by (intro V hV; (try dsimp only at hV); go_simp; try with_reducible rfl)⟩
            simp only [Act.put, List.setIfInBounds_toArray, List.set_cons_zero, List.set_cons_succ]
            refine wpAnyH_takeX (i := 18) (v := ?_) (by simp only [↓List.getElem?_toArray, ↓List.getElem?_cons_succ, ↓List.getElem?_cons_zero]; rfl) (by kernel_rfl) (by kernel_rfl) (by kernel_rfl) (by assumption) ?_ ?_ ?_
            rotate_left
            · exact fun _ _ _ h => h
            · exact Or.inl ⟨by rfl, by (intro V hV; (try dsimp only at hV); go_simp; try with_reducible rfl)⟩
            simp only [Act.put, List.setIfInBounds_toArray, List.set_cons_zero, List.set_cons_succ]
            refine wpAnyH_ready (rs := [19]) (by kernel_rfl) (by simp) ?_
            refine AllReadyH.cons rfl (fun K hK => ?_) ?_
            · go_simp
              go_wp2_with (go_at_call 19; (with_reducible refine (awake_here _).mono ?_); rintro e v3 ⟨rfl, hb⟩; have HBZ := Lib.hid (HBW.out.trans (hb.mono HBW.out.size)); have HQZ := Lib.hid (HQW.out.below hb HQW.out.lt); clear hb)
              refine hK.out _ _ ⟨HQZ.out.c0, HQZ.out.c1⟩ (fun hHeld => ?_)
              clear hK K
              try simp only [List.setIfInBounds_toArray, List.set_cons_zero, List.set_cons_succ]
              refine wpAnyH_takeX (i := 20) (v := ?_) (by simp only [↓List.getElem?_toArray, ↓List.getElem?_cons_succ, ↓List.getElem?_cons_zero]; rfl) (by kernel_rfl) (by kernel_rfl) (by kernel_rfl) (by assumption) ?_ ?_ ?_
              rotate_left
              · exact fun _ _ _ h => h
              · exact Or.inl ⟨by rfl, by (intro V hV; (try dsimp only at hV); go_simp; try with_reducible rfl)⟩
              simp only [Act.put, List.setIfInBounds_toArray, List.set_cons_zero, List.set_cons_succ]
              refine wpAnyH_takeX (i := 21) (v := ?_) (by simp only [↓List.getElem?_toArray, ↓List.getElem?_cons_succ, ↓List.getElem?_cons_zero]; rfl) (by kernel_rfl) (by kernel_rfl) (by kernel_rfl) (by assumption) ?_ ?_ ?_
              rotate_left
              · exact fun _ _ _ h => h
              · exact Or.inl ⟨by rfl, by (intro V hV; (try dsimp only at hV); go_simp; try with_reducible rfl)⟩
              simp only [Act.put, List.setIfInBounds_toArray, List.set_cons_zero, List.set_cons_succ]
              refine wpAnyH_done (by kernel_rfl) ?_ _
              go_wp2
              go_ret
              exact ⟨rfl, HBZ.out⟩
            exact AllReadyH.nil
          exact AllReadyH.nil
        exact AllReadyH.nil
    · have h2 : n > 18 := by
        rw [in18, Bool.and_eq_false_iff, decide_eq_false_iff_not, decide_eq_false_iff_not] at h0
        omega
      have d0 : decide (n < 0) = false := decide_eq_false h1
      have d1 : decide (n > 18) = true := decide_eq_true h2
      have d2 : decide (18 < n) = true := decide_eq_true h2
      clear h0
      rcases h3 : ordB zs with _ | _
      · have HOA := Lib.hid (fun V A c (hs : Sl V A zs.length c zs) => orderAt_bad zs A zs.length c V hs h3)
        have HTU := Lib.hid (fun V A c (hs : Sl V A zs.length c zs) => turn_bad zs A zs.length c V hs h3)
        have HRB := HRB0
        rw [h3] at HRB
        clear h3 HRB0
        go_enter Try.func5, Try.ntmps5
        go_upto_region 5 with (first
          | (go_at_call 16; (with_reducible refine (HCP.out).mono ?_); rintro e w1 ⟨⟨A1, c1, rfl, hs⟩, hb⟩; have HL1 := Lib.hid ((HL0.out.below hb).push hs); have HB1 := Lib.hid (HB0.out.trans (hb.mono HB0.out.size)); clear hs hb)
          | (go_at_call 30; (with_reducible refine (HOR.out _).mono ?_); rintro e w2 ⟨rfl, hb⟩; have HL2 := Lib.hid ((HL1.out.below hb)); have HB2 := Lib.hid (HB1.out.trans (hb.mono HB1.out.size)); clear hb)
          | (go_at_call 31; (with_reducible refine (HOA.out _ _ _ HL2.out.hd).mono ?_); rintro e w3 ⟨rfl, hb⟩; have HL3 := Lib.hid ((HL2.out.below hb)); have HB3 := Lib.hid (HB2.out.trans (hb.mono HB2.out.size)); clear hb)
          | (go_at_call 32; (with_reducible refine (HTU.out _ _ _ HL3.out.hd).mono ?_); rintro e w4 ⟨rfl, hb⟩; have HL4 := Lib.hid ((HL3.out.below hb)); have HB4 := Lib.hid (HB3.out.trans (hb.mono HB3.out.size)); clear hb))
        have HQ5 := Lib.hid (Bx2.new w4 0 0)
        have HL5 := Lib.hid (HL4.out.below (below_one w4 (.cells #[.int .i64 0, .int .i64 0] 35)))
        have HB5 : Hid (Below w.heap.size w (w4.alloc (.cells #[.int .i64 0, .int .i64 0] 35))) := HB4.out.alloc HB4.out.size _
        generalize w4.alloc (.cells #[.int .i64 0, .int .i64 0] 35) = w5 at HQ5 HL5 HB5 ⊢
        generalize w4.heap.size = g at HQ5 ⊢
        go_upto_region 11 with (first
          | (go_at_call 35; (with_reducible refine (HRB.out _ _ _ HL5.out.hd).mono ?_); rintro e w6 ⟨rfl, hd⟩; have hb := hd.below w5.heap.size; have HL6 := Lib.hid ((HL5.out.below hb)); have HB6 := Lib.hid (HB5.out.trans (hb.mono HB5.out.size)); have HQ6 := Lib.hid (HQ5.out.below hb HQ5.out.lt); clear hb hd))
        have e0 := HQ6.out.c0
        have e1 := HQ6.out.c1
        have heq := fun W => run_eql_pair W 0 0
        go_wp2_with (go_at_call 19; (with_reducible refine (awake_here _).mono ?_); rintro e v3 ⟨rfl, hb⟩; have HBZ := Lib.hid (HB6.out.trans (hb.mono HB6.out.size)); clear hb)
        go_ret
        exact ⟨rfl, HBZ.out⟩
      · obtain ⟨ho, hz18⟩ := ordB_or h3
        obtain ⟨x, y, hT⟩ := turns_any ho hz18
        have HOA := Lib.hid (fun V A c (hs : Sl V A zs.length c zs) => orderAt_ok zs A zs.length c V hs ho hz18)
        have HTU := Lib.hid hT.1
        have HTR := Lib.hid hT.2
        have HRA := Lib.hid (fun V A c (hs : Sl V A zs.length c zs) => orderAtR_any zs.length zs A c V hz18 hs ho)
        have HRB := HRB0
        rw [h3] at HRB
        clear h3 HRB0 hT ho
        generalize rkO zs.length zs = pp at *
        go_enter Try.func5, Try.ntmps5
        go_upto_region 5 with (first
          | (go_at_call 16; (with_reducible refine (HCP.out).mono ?_); rintro e w1 ⟨⟨A1, c1, rfl, hs⟩, hb⟩; have HL1 := Lib.hid ((HL0.out.below hb).push hs); have HB1 := Lib.hid (HB0.out.trans (hb.mono HB0.out.size)); clear hs hb)
          | (go_at_call 30; (with_reducible refine (HOR.out _).mono ?_); rintro e w2 ⟨rfl, hb⟩; have HL2 := Lib.hid ((HL1.out.below hb)); have HB2 := Lib.hid (HB1.out.trans (hb.mono HB1.out.size)); clear hb)
          | (go_at_call 31; (with_reducible refine (HOA.out _ _ _ HL2.out.hd).mono ?_); rintro e w3 ⟨rfl, hb⟩; have HL3 := Lib.hid ((HL2.out.below hb)); have HB3 := Lib.hid (HB2.out.trans (hb.mono HB2.out.size)); clear hb)
          | (go_at_call 32; (with_reducible refine (HTU.out _ _ _ HL3.out.hd).mono ?_); rintro e w4 ⟨rfl, hb⟩; have HL4 := Lib.hid ((HL3.out.below hb)); have HB4 := Lib.hid (HB3.out.trans (hb.mono HB3.out.size)); clear hb))
        have HQ5 := Lib.hid (Bx2.new w4 x y)
        have HL5 := Lib.hid (HL4.out.below (below_one w4 (.cells #[.int .i64 x, .int .i64 y] 35)))
        have HB5 : Hid (Below w.heap.size w (w4.alloc (.cells #[.int .i64 x, .int .i64 y] 35))) := HB4.out.alloc HB4.out.size _
        generalize w4.alloc (.cells #[.int .i64 x, .int .i64 y] 35) = w5 at HQ5 HL5 HB5 ⊢
        generalize w4.heap.size = g at HQ5 ⊢
        go_upto_region 12 with (first
          | (go_at_call 35; (with_reducible refine (HRB.out _ _ _ HL5.out.hd).mono ?_); rintro e w6 ⟨rfl, hd⟩; have hb := hd.below w5.heap.size; have HL6 := Lib.hid ((HL5.out.below hb)); have HB6 := Lib.hid (HB5.out.trans (hb.mono HB5.out.size)); have HQ6 := Lib.hid (HQ5.out.below hb HQ5.out.lt); clear hb hd))
        have e0 := HQ6.out.c0
        have e1 := HQ6.out.c1
        have heq := fun W => run_eql_pair W x y
        have HLD := Lib.hid (HL6.out.below (Below.refl _ w6).drew)
        have HBD : Hid (Below w.heap.size w w6.drew) := HB6.out.drew
        have HQD : Hid (Bx2 w6.drew g x y) := HQ6.out
        refine wp_region_held_drew (S := fun V => V.cell? ⟨g, 0, none⟩ = some (.int .i64 x) ∧ V.cell? ⟨g, 1, none⟩ = some (.int .i64 y)) (by kernel_rfl) ⟨e0, e1⟩ (fun hHeld => ?_)
        generalize w6.drew = V0 at HLD HBD HQD hHeld ⊢
        clear e0 e1
        refine wpAnyH_takeX (i := 0) (v := ?_) (by simp only [↓List.getElem?_toArray, ↓List.getElem?_cons_zero]; rfl) (by kernel_rfl) (by kernel_rfl) (by kernel_rfl) (by assumption) ?_ ?_ ?_
        rotate_left
        · exact fun _ _ _ h => h
        · exact Or.inl ⟨by rfl, by (intro V hV; (try dsimp only at hV); go_simp; try with_reducible rfl)⟩
        simp only [Act.put, List.setIfInBounds_toArray, List.set_cons_zero, List.set_cons_succ]
        refine wpAnyH_takeX (i := 1) (v := ?_) (by simp only [↓List.getElem?_toArray, ↓List.getElem?_cons_succ, ↓List.getElem?_cons_zero]; rfl) (by kernel_rfl) (by kernel_rfl) (by kernel_rfl) (by assumption) ?_ ?_ ?_
        rotate_left
        · exact fun _ _ _ h => h
        · exact Or.inl ⟨by rfl, by (intro V hV; (try dsimp only at hV); go_simp; try with_reducible rfl)⟩
        simp only [Act.put, List.setIfInBounds_toArray, List.set_cons_zero, List.set_cons_succ]
        refine wpAnyH_ready (rs := [2]) (by kernel_rfl) (by simp) ?_
        refine AllReadyH.cons rfl (fun K hK => ?_) ?_
        · go_simp
          go_wp2_with (go_at_call 36; (with_reducible refine (HRA.out _ _ _ HLD.out.hd).mono ?_); rintro e v1 ⟨rfl, hb⟩; have HLV := Lib.hid (HLD.out.below hb); have HBV := Lib.hid (HBD.out.trans (hb.mono HBD.out.size)); have HQV := Lib.hid (HQD.out.below hb HQD.out.lt); clear hb)
          refine hK.out _ _ ⟨HQV.out.c0, HQV.out.c1⟩ (fun hHeld => ?_)
          clear hK K
          try simp only [List.setIfInBounds_toArray, List.set_cons_zero, List.set_cons_succ]
          refine wpAnyH_takeX (i := 3) (v := ?_) (by simp only [↓List.getElem?_toArray, ↓List.getElem?_cons_succ, ↓List.getElem?_cons_zero]; rfl) (by kernel_rfl) (by kernel_rfl) (by kernel_rfl) (by assumption) ?_ ?_ ?_
          rotate_left
          · exact fun _ _ _ h => h
          · exact Or.inl ⟨by rfl, by (intro V hV; (try dsimp only at hV); go_simp; try with_reducible rfl)⟩
          simp only [Act.put, List.setIfInBounds_toArray, List.set_cons_zero, List.set_cons_succ]
          refine wpAnyH_takeX (i := 4) (v := ?_) (by simp only [↓List.getElem?_toArray, ↓List.getElem?_cons_succ, ↓List.getElem?_cons_zero]; rfl) (by kernel_rfl) (by kernel_rfl) (by kernel_rfl) (by assumption) ?_ ?_ ?_
          rotate_left
          · exact fun _ _ _ h => h
          · exact Or.inl ⟨by rfl, by (intro V hV; (try dsimp only at hV); go_simp; try with_reducible rfl)⟩
          simp only [Act.put, List.setIfInBounds_toArray, List.set_cons_zero, List.set_cons_succ]
          refine wpAnyH_takeX (i := 5) (v := ?_) (by simp only [↓List.getElem?_toArray, ↓List.getElem?_cons_succ, ↓List.getElem?_cons_zero]; rfl) (by kernel_rfl) (by kernel_rfl) (by kernel_rfl) (by assumption) ?_ ?_ ?_
          rotate_left
          · exact fun _ _ _ h => h
          · exact Or.inl ⟨by rfl, by (intro V hV; (try dsimp only at hV); go_simp; try with_reducible rfl)⟩
          simp only [Act.put, List.setIfInBounds_toArray, List.set_cons_zero, List.set_cons_succ]
          refine wpAnyH_takeX (i := 6) (v := ?_) (by simp only [↓List.getElem?_toArray, ↓List.getElem?_cons_succ, ↓List.getElem?_cons_zero]; rfl) (by kernel_rfl) (by kernel_rfl) (by kernel_rfl) (by assumption) ?_ ?_ ?_
          rotate_left
          · exact fun _ _ _ h => h
          · exact Or.inl ⟨by rfl, by (intro V hV; (try dsimp only at hV); go_simp; try with_reducible rfl)⟩
          simp only [Act.put, List.setIfInBounds_toArray, List.set_cons_zero, List.set_cons_succ]
          refine wpAnyH_takeX (i := 7) (v := ?_) (by simp only [↓List.getElem?_toArray, ↓List.getElem?_cons_succ, ↓List.getElem?_cons_zero]; rfl) (by kernel_rfl) (by kernel_rfl) (by kernel_rfl) (by assumption) ?_ ?_ ?_
          rotate_left
          · exact fun _ _ _ h => h
          · exact Or.inl ⟨by rfl, by (intro V hV; (try dsimp only at hV); go_simp; try with_reducible rfl)⟩
          simp only [Act.put, List.setIfInBounds_toArray, List.set_cons_zero, List.set_cons_succ]
          refine wpAnyH_takeX (i := 8) (v := ?_) (by simp only [↓List.getElem?_toArray, ↓List.getElem?_cons_succ, ↓List.getElem?_cons_zero]; rfl) (by kernel_rfl) (by kernel_rfl) (by kernel_rfl) (by assumption) ?_ ?_ ?_
          rotate_left
          · exact fun _ _ _ h => h
          · exact Or.inl ⟨by rfl, by (intro V hV; (try dsimp only at hV); go_simp; try with_reducible rfl)⟩
          simp only [Act.put, List.setIfInBounds_toArray, List.set_cons_zero, List.set_cons_succ]
          refine wpAnyH_takeX (i := 9) (v := ?_) (by simp only [↓List.getElem?_toArray, ↓List.getElem?_cons_succ, ↓List.getElem?_cons_zero]; rfl) (by kernel_rfl) (by kernel_rfl) (by kernel_rfl) (by assumption) ?_ ?_ ?_
          rotate_left
          · exact fun _ _ _ h => h
          · exact Or.inl ⟨by rfl, by (intro V hV; (try dsimp only at hV); go_simp; try with_reducible rfl)⟩
          simp only [Act.put, List.setIfInBounds_toArray, List.set_cons_zero, List.set_cons_succ]
          refine wpAnyH_takeX (i := 10) (v := ?_) (by simp only [↓List.getElem?_toArray, ↓List.getElem?_cons_succ, ↓List.getElem?_cons_zero]; rfl) (by kernel_rfl) (by kernel_rfl) (by kernel_rfl) (by assumption) ?_ ?_ ?_
          rotate_left
          · exact fun _ _ _ h => h
          · exact Or.inl ⟨by rfl, by (intro V hV; (try dsimp only at hV); go_simp; try with_reducible rfl)⟩
          simp only [Act.put, List.setIfInBounds_toArray, List.set_cons_zero, List.set_cons_succ]
          refine wpAnyH_ready (rs := [11]) (by kernel_rfl) (by simp) ?_
          refine AllReadyH.cons rfl (fun K hK => ?_) ?_
          · go_simp
            go_wp2_with (go_at_call 37; (with_reducible refine (HTR.out _ _ _ HLV.out.hd).mono ?_); rintro e v2 ⟨rfl, hb⟩; have HBW := Lib.hid (HBV.out.trans (hb.mono HBV.out.size)); have HQW := Lib.hid (HQV.out.below hb HQV.out.lt); clear hb)
            refine hK.out _ _ ⟨HQW.out.c0, HQW.out.c1⟩ (fun hHeld => ?_)
            clear hK K
            try simp only [List.setIfInBounds_toArray, List.set_cons_zero, List.set_cons_succ]
            refine wpAnyH_takeX (i := 12) (v := ?_) (by simp only [↓List.getElem?_toArray, ↓List.getElem?_cons_succ, ↓List.getElem?_cons_zero]; rfl) (by kernel_rfl) (by kernel_rfl) (by kernel_rfl) (by assumption) ?_ ?_ ?_
            rotate_left
            · exact fun _ _ _ h => h
            · exact Or.inl ⟨by rfl, by (intro V hV; (try dsimp only at hV); go_simp; try with_reducible rfl)⟩
            simp only [Act.put, List.setIfInBounds_toArray, List.set_cons_zero, List.set_cons_succ]
            refine wpAnyH_takeX (i := 13) (v := ?_) (by simp only [↓List.getElem?_toArray, ↓List.getElem?_cons_succ, ↓List.getElem?_cons_zero]; rfl) (by kernel_rfl) (by kernel_rfl) (by kernel_rfl) (by assumption) ?_ ?_ ?_
            rotate_left
            · exact fun _ _ _ h => h
            · exact Or.inl ⟨by rfl, by (intro V hV; (try dsimp only at hV); go_simp; try with_reducible rfl)⟩
            simp only [Act.put, List.setIfInBounds_toArray, List.set_cons_zero, List.set_cons_succ]
            refine wpAnyH_takeX (i := 14) (v := ?_) (by simp only [↓List.getElem?_toArray, ↓List.getElem?_cons_succ, ↓List.getElem?_cons_zero]; rfl) (by kernel_rfl) (by kernel_rfl) (by kernel_rfl) (by assumption) ?_ ?_ ?_
            rotate_left
            · exact fun _ _ _ h => h
            · exact Or.inl ⟨by rfl, by (intro V hV; (try dsimp only at hV); go_simp; try with_reducible rfl)⟩
            simp only [Act.put, List.setIfInBounds_toArray, List.set_cons_zero, List.set_cons_succ]
            refine wpAnyH_takeX (i := 15) (v := ?_) (by simp only [↓List.getElem?_toArray, ↓List.getElem?_cons_succ, ↓List.getElem?_cons_zero]; rfl) (by kernel_rfl) (by kernel_rfl) (by kernel_rfl) (by assumption) ?_ ?_ ?_
            rotate_left
            · exact fun _ _ _ h => h
            · exact Or.inl ⟨by rfl, by (intro V hV; (try dsimp only at hV); go_simp; try with_reducible rfl)⟩
            simp only [Act.put, List.setIfInBounds_toArray, List.set_cons_zero, List.set_cons_succ]
            refine wpAnyH_takeX (i := 16) (v := ?_) (by simp only [↓List.getElem?_toArray, ↓List.getElem?_cons_succ, ↓List.getElem?_cons_zero]; rfl) (by kernel_rfl) (by kernel_rfl) (by kernel_rfl) (by assumption) ?_ ?_ ?_
            rotate_left
            · exact fun _ _ _ h => h
            · exact Or.inl ⟨by rfl, by (intro V hV; (try dsimp only at hV); go_simp; try with_reducible rfl)⟩
            simp only [Act.put, List.setIfInBounds_toArray, List.set_cons_zero, List.set_cons_succ]
            refine wpAnyH_takeX (i := 17) (v := ?_) (by simp only [↓List.getElem?_toArray, ↓List.getElem?_cons_succ, ↓List.getElem?_cons_zero]; rfl) (by kernel_rfl) (by kernel_rfl) (by kernel_rfl) (by assumption) ?_ ?_ ?_
            rotate_left
            · exact fun _ _ _ h => h
            · exact Or.inl ⟨by rfl, by (intro V hV; (try dsimp only at hV); go_simp; try with_reducible rfl)⟩
            simp only [Act.put, List.setIfInBounds_toArray, List.set_cons_zero, List.set_cons_succ]
            refine wpAnyH_takeX (i := 18) (v := ?_) (by simp only [↓List.getElem?_toArray, ↓List.getElem?_cons_succ, ↓List.getElem?_cons_zero]; rfl) (by kernel_rfl) (by kernel_rfl) (by kernel_rfl) (by assumption) ?_ ?_ ?_
            rotate_left
            · exact fun _ _ _ h => h
            · exact Or.inl ⟨by rfl, by (intro V hV; (try dsimp only at hV); go_simp; try with_reducible rfl)⟩
            simp only [Act.put, List.setIfInBounds_toArray, List.set_cons_zero, List.set_cons_succ]
            refine wpAnyH_ready (rs := [19]) (by kernel_rfl) (by simp) ?_
            refine AllReadyH.cons rfl (fun K hK => ?_) ?_
            · go_simp
              go_wp2_with (go_at_call 19; (with_reducible refine (awake_here _).mono ?_); rintro e v3 ⟨rfl, hb⟩; have HBZ := Lib.hid (HBW.out.trans (hb.mono HBW.out.size)); have HQZ := Lib.hid (HQW.out.below hb HQW.out.lt); clear hb)
              refine hK.out _ _ ⟨HQZ.out.c0, HQZ.out.c1⟩ (fun hHeld => ?_)
              clear hK K
              try simp only [List.setIfInBounds_toArray, List.set_cons_zero, List.set_cons_succ]
              refine wpAnyH_takeX (i := 20) (v := ?_) (by simp only [↓List.getElem?_toArray, ↓List.getElem?_cons_succ, ↓List.getElem?_cons_zero]; rfl) (by kernel_rfl) (by kernel_rfl) (by kernel_rfl) (by assumption) ?_ ?_ ?_
              rotate_left
              · exact fun _ _ _ h => h
              · exact Or.inl ⟨by rfl, by (intro V hV; (try dsimp only at hV); go_simp; try with_reducible rfl)⟩
              simp only [Act.put, List.setIfInBounds_toArray, List.set_cons_zero, List.set_cons_succ]
              refine wpAnyH_takeX (i := 21) (v := ?_) (by simp only [↓List.getElem?_toArray, ↓List.getElem?_cons_succ, ↓List.getElem?_cons_zero]; rfl) (by kernel_rfl) (by kernel_rfl) (by kernel_rfl) (by assumption) ?_ ?_ ?_
              rotate_left
              · exact fun _ _ _ h => h
              · exact Or.inl ⟨by rfl, by (intro V hV; (try dsimp only at hV); go_simp; try with_reducible rfl)⟩
              simp only [Act.put, List.setIfInBounds_toArray, List.set_cons_zero, List.set_cons_succ]
              refine wpAnyH_done (by kernel_rfl) ?_ _
              go_wp2
              go_ret
              exact ⟨rfl, HBZ.out⟩
            exact AllReadyH.nil
          exact AllReadyH.nil
        exact AllReadyH.nil
  · obtain ⟨N, rfl, hN⟩ : ∃ N : Nat, n = (N : Int) ∧ N ≤ 18 := by
      rw [in18, Bool.and_eq_true, decide_eq_true_iff, decide_eq_true_iff] at h0
      exact ⟨n.toNat, by omega, by omega⟩
    have HRF := Lib.hid (fun V => factorialR_any N V hN)
    have d0 : decide ((N : Int) < 0) = false := decide_eq_false (by omega)
    have d1 : decide ((N : Int) > 18) = false := decide_eq_false (by omega)
    have d2 : decide (18 < (N : Int)) = false := decide_eq_false (by omega)
    have g0 : ¬ (N : Int) < 0 := by omega
    have g1 : ¬ (N : Int) > 18 := by omega
    have hfl := fac_le hN
    rcases h1 : posB a ((fac N : Nat) : Int) with _ | _
    · have HOR := Lib.hid (fun V => order_bad (N : Int) a V (by rw [h0, Int.toNat_natCast, h1]; rfl))
      have hp : a < 0 ∨ ((fac N : Nat) : Int) ≤ a := by
        rw [posB, Bool.and_eq_false_iff, decide_eq_false_iff_not, decide_eq_false_iff_not] at h1
        omega
      clear h0 h1
      generalize fac N = q at *
      by_cases hn : a < 0
      · have f0 : decide (a < 0) = true := decide_eq_true hn
        clear hp
        rcases h3 : ordB zs with _ | _
        · have HOA := Lib.hid (fun V A c (hs : Sl V A zs.length c zs) => orderAt_bad zs A zs.length c V hs h3)
          have HTU := Lib.hid (fun V A c (hs : Sl V A zs.length c zs) => turn_bad zs A zs.length c V hs h3)
          have HRB := HRB0
          rw [h3] at HRB
          clear h3 HRB0
          go_enter Try.func5, Try.ntmps5
          go_upto_region 5 with (first
            | (go_at_call 16; (with_reducible refine (HCP.out).mono ?_); rintro e w1 ⟨⟨A1, c1, rfl, hs⟩, hb⟩; have HL1 := Lib.hid ((HL0.out.below hb).push hs); have HB1 := Lib.hid (HB0.out.trans (hb.mono HB0.out.size)); clear hs hb)
            | (go_at_call 30; (with_reducible refine (HOR.out _).mono ?_); rintro e w2 ⟨rfl, hb⟩; have HL2 := Lib.hid ((HL1.out.below hb)); have HB2 := Lib.hid (HB1.out.trans (hb.mono HB1.out.size)); clear hb)
            | (go_at_call 31; (with_reducible refine (HOA.out _ _ _ HL2.out.hd).mono ?_); rintro e w3 ⟨rfl, hb⟩; have HL3 := Lib.hid ((HL2.out.below hb)); have HB3 := Lib.hid (HB2.out.trans (hb.mono HB2.out.size)); clear hb)
            | (go_at_call 32; (with_reducible refine (HTU.out _ _ _ HL3.out.hd).mono ?_); rintro e w4 ⟨rfl, hb⟩; have HL4 := Lib.hid ((HL3.out.below hb)); have HB4 := Lib.hid (HB3.out.trans (hb.mono HB3.out.size)); clear hb))
          have HQ5 := Lib.hid (Bx2.new w4 0 0)
          have HL5 := Lib.hid (HL4.out.below (below_one w4 (.cells #[.int .i64 0, .int .i64 0] 35)))
          have HB5 : Hid (Below w.heap.size w (w4.alloc (.cells #[.int .i64 0, .int .i64 0] 35))) := HB4.out.alloc HB4.out.size _
          generalize w4.alloc (.cells #[.int .i64 0, .int .i64 0] 35) = w5 at HQ5 HL5 HB5 ⊢
          generalize w4.heap.size = g at HQ5 ⊢
          go_upto_region 11 with (first
            | (go_at_call 35; (with_reducible refine (HRB.out _ _ _ HL5.out.hd).mono ?_); rintro e w6 ⟨rfl, hd⟩; have hb := hd.below w5.heap.size; have HL6 := Lib.hid ((HL5.out.below hb)); have HB6 := Lib.hid (HB5.out.trans (hb.mono HB5.out.size)); have HQ6 := Lib.hid (HQ5.out.below hb HQ5.out.lt); clear hb hd))
          have e0 := HQ6.out.c0
          have e1 := HQ6.out.c1
          have heq := fun W => run_eql_pair W 0 0
          go_wp2_with (go_at_call 19; (with_reducible refine (awake_here _).mono ?_); rintro e v3 ⟨rfl, hb⟩; have HBZ := Lib.hid (HB6.out.trans (hb.mono HB6.out.size)); clear hb)
          go_ret
          exact ⟨rfl, HBZ.out⟩
        · obtain ⟨ho, hz18⟩ := ordB_or h3
          obtain ⟨x, y, hT⟩ := turns_any ho hz18
          have HOA := Lib.hid (fun V A c (hs : Sl V A zs.length c zs) => orderAt_ok zs A zs.length c V hs ho hz18)
          have HTU := Lib.hid hT.1
          have HTR := Lib.hid hT.2
          have HRA := Lib.hid (fun V A c (hs : Sl V A zs.length c zs) => orderAtR_any zs.length zs A c V hz18 hs ho)
          have HRB := HRB0
          rw [h3] at HRB
          clear h3 HRB0 hT ho
          generalize rkO zs.length zs = pp at *
          go_enter Try.func5, Try.ntmps5
          go_upto_region 5 with (first
            | (go_at_call 16; (with_reducible refine (HCP.out).mono ?_); rintro e w1 ⟨⟨A1, c1, rfl, hs⟩, hb⟩; have HL1 := Lib.hid ((HL0.out.below hb).push hs); have HB1 := Lib.hid (HB0.out.trans (hb.mono HB0.out.size)); clear hs hb)
            | (go_at_call 30; (with_reducible refine (HOR.out _).mono ?_); rintro e w2 ⟨rfl, hb⟩; have HL2 := Lib.hid ((HL1.out.below hb)); have HB2 := Lib.hid (HB1.out.trans (hb.mono HB1.out.size)); clear hb)
            | (go_at_call 31; (with_reducible refine (HOA.out _ _ _ HL2.out.hd).mono ?_); rintro e w3 ⟨rfl, hb⟩; have HL3 := Lib.hid ((HL2.out.below hb)); have HB3 := Lib.hid (HB2.out.trans (hb.mono HB2.out.size)); clear hb)
            | (go_at_call 32; (with_reducible refine (HTU.out _ _ _ HL3.out.hd).mono ?_); rintro e w4 ⟨rfl, hb⟩; have HL4 := Lib.hid ((HL3.out.below hb)); have HB4 := Lib.hid (HB3.out.trans (hb.mono HB3.out.size)); clear hb))
          have HQ5 := Lib.hid (Bx2.new w4 x y)
          have HL5 := Lib.hid (HL4.out.below (below_one w4 (.cells #[.int .i64 x, .int .i64 y] 35)))
          have HB5 : Hid (Below w.heap.size w (w4.alloc (.cells #[.int .i64 x, .int .i64 y] 35))) := HB4.out.alloc HB4.out.size _
          generalize w4.alloc (.cells #[.int .i64 x, .int .i64 y] 35) = w5 at HQ5 HL5 HB5 ⊢
          generalize w4.heap.size = g at HQ5 ⊢
          go_upto_region 12 with (first
            | (go_at_call 35; (with_reducible refine (HRB.out _ _ _ HL5.out.hd).mono ?_); rintro e w6 ⟨rfl, hd⟩; have hb := hd.below w5.heap.size; have HL6 := Lib.hid ((HL5.out.below hb)); have HB6 := Lib.hid (HB5.out.trans (hb.mono HB5.out.size)); have HQ6 := Lib.hid (HQ5.out.below hb HQ5.out.lt); clear hb hd))
          have e0 := HQ6.out.c0
          have e1 := HQ6.out.c1
          have heq := fun W => run_eql_pair W x y
          have HLD := Lib.hid (HL6.out.below (Below.refl _ w6).drew)
          have HBD : Hid (Below w.heap.size w w6.drew) := HB6.out.drew
          have HQD : Hid (Bx2 w6.drew g x y) := HQ6.out
          refine wp_region_held_drew (S := fun V => V.cell? ⟨g, 0, none⟩ = some (.int .i64 x) ∧ V.cell? ⟨g, 1, none⟩ = some (.int .i64 y)) (by kernel_rfl) ⟨e0, e1⟩ (fun hHeld => ?_)
          generalize w6.drew = V0 at HLD HBD HQD hHeld ⊢
          clear e0 e1
          refine wpAnyH_takeX (i := 0) (v := ?_) (by simp only [↓List.getElem?_toArray, ↓List.getElem?_cons_zero]; rfl) (by kernel_rfl) (by kernel_rfl) (by kernel_rfl) (by assumption) ?_ ?_ ?_
          rotate_left
          · exact fun _ _ _ h => h
          · exact Or.inl ⟨by rfl, by (intro V hV; (try dsimp only at hV); go_simp; try with_reducible rfl)⟩
          simp only [Act.put, List.setIfInBounds_toArray, List.set_cons_zero, List.set_cons_succ]
          refine wpAnyH_takeX (i := 1) (v := ?_) (by simp only [↓List.getElem?_toArray, ↓List.getElem?_cons_succ, ↓List.getElem?_cons_zero]; rfl) (by kernel_rfl) (by kernel_rfl) (by kernel_rfl) (by assumption) ?_ ?_ ?_
          rotate_left
          · exact fun _ _ _ h => h
          · exact Or.inl ⟨by rfl, by (intro V hV; (try dsimp only at hV); go_simp; try with_reducible rfl)⟩
          simp only [Act.put, List.setIfInBounds_toArray, List.set_cons_zero, List.set_cons_succ]
          refine wpAnyH_ready (rs := [2]) (by kernel_rfl) (by simp) ?_
          refine AllReadyH.cons rfl (fun K hK => ?_) ?_
          · go_simp
            go_wp2_with (go_at_call 36; (with_reducible refine (HRA.out _ _ _ HLD.out.hd).mono ?_); rintro e v1 ⟨rfl, hb⟩; have HLV := Lib.hid (HLD.out.below hb); have HBV := Lib.hid (HBD.out.trans (hb.mono HBD.out.size)); have HQV := Lib.hid (HQD.out.below hb HQD.out.lt); clear hb)
            refine hK.out _ _ ⟨HQV.out.c0, HQV.out.c1⟩ (fun hHeld => ?_)
            clear hK K
            try simp only [List.setIfInBounds_toArray, List.set_cons_zero, List.set_cons_succ]
            refine wpAnyH_takeX (i := 3) (v := ?_) (by simp only [↓List.getElem?_toArray, ↓List.getElem?_cons_succ, ↓List.getElem?_cons_zero]; rfl) (by kernel_rfl) (by kernel_rfl) (by kernel_rfl) (by assumption) ?_ ?_ ?_
            rotate_left
            · exact fun _ _ _ h => h
            · exact Or.inl ⟨by rfl, by (intro V hV; (try dsimp only at hV); go_simp; try with_reducible rfl)⟩
            simp only [Act.put, List.setIfInBounds_toArray, List.set_cons_zero, List.set_cons_succ]
            refine wpAnyH_takeX (i := 4) (v := ?_) (by simp only [↓List.getElem?_toArray, ↓List.getElem?_cons_succ, ↓List.getElem?_cons_zero]; rfl) (by kernel_rfl) (by kernel_rfl) (by kernel_rfl) (by assumption) ?_ ?_ ?_
            rotate_left
            · exact fun _ _ _ h => h
            · exact Or.inl ⟨by rfl, by (intro V hV; (try dsimp only at hV); go_simp; try with_reducible rfl)⟩
            simp only [Act.put, List.setIfInBounds_toArray, List.set_cons_zero, List.set_cons_succ]
            refine wpAnyH_takeX (i := 5) (v := ?_) (by simp only [↓List.getElem?_toArray, ↓List.getElem?_cons_succ, ↓List.getElem?_cons_zero]; rfl) (by kernel_rfl) (by kernel_rfl) (by kernel_rfl) (by assumption) ?_ ?_ ?_
            rotate_left
            · exact fun _ _ _ h => h
            · exact Or.inl ⟨by rfl, by (intro V hV; (try dsimp only at hV); go_simp; try with_reducible rfl)⟩
            simp only [Act.put, List.setIfInBounds_toArray, List.set_cons_zero, List.set_cons_succ]
            refine wpAnyH_takeX (i := 6) (v := ?_) (by simp only [↓List.getElem?_toArray, ↓List.getElem?_cons_succ, ↓List.getElem?_cons_zero]; rfl) (by kernel_rfl) (by kernel_rfl) (by kernel_rfl) (by assumption) ?_ ?_ ?_
            rotate_left
            · exact fun _ _ _ h => h
            · exact Or.inl ⟨by rfl, by (intro V hV; (try dsimp only at hV); go_simp; try with_reducible rfl)⟩
            simp only [Act.put, List.setIfInBounds_toArray, List.set_cons_zero, List.set_cons_succ]
            refine wpAnyH_takeX (i := 7) (v := ?_) (by simp only [↓List.getElem?_toArray, ↓List.getElem?_cons_succ, ↓List.getElem?_cons_zero]; rfl) (by kernel_rfl) (by kernel_rfl) (by kernel_rfl) (by assumption) ?_ ?_ ?_
            rotate_left
            · exact fun _ _ _ h => h
            · exact Or.inl ⟨by rfl, by (intro V hV; (try dsimp only at hV); go_simp; try with_reducible rfl)⟩
            simp only [Act.put, List.setIfInBounds_toArray, List.set_cons_zero, List.set_cons_succ]
            refine wpAnyH_takeX (i := 8) (v := ?_) (by simp only [↓List.getElem?_toArray, ↓List.getElem?_cons_succ, ↓List.getElem?_cons_zero]; rfl) (by kernel_rfl) (by kernel_rfl) (by kernel_rfl) (by assumption) ?_ ?_ ?_
            rotate_left
            · exact fun _ _ _ h => h
            · exact Or.inl ⟨by rfl, by (intro V hV; (try dsimp only at hV); go_simp; try with_reducible rfl)⟩
            simp only [Act.put, List.setIfInBounds_toArray, List.set_cons_zero, List.set_cons_succ]
            refine wpAnyH_takeX (i := 9) (v := ?_) (by simp only [↓List.getElem?_toArray, ↓List.getElem?_cons_succ, ↓List.getElem?_cons_zero]; rfl) (by kernel_rfl) (by kernel_rfl) (by kernel_rfl) (by assumption) ?_ ?_ ?_
            rotate_left
            · exact fun _ _ _ h => h
            · exact Or.inl ⟨by rfl, by (intro V hV; (try dsimp only at hV); go_simp; try with_reducible rfl)⟩
            simp only [Act.put, List.setIfInBounds_toArray, List.set_cons_zero, List.set_cons_succ]
            refine wpAnyH_takeX (i := 10) (v := ?_) (by simp only [↓List.getElem?_toArray, ↓List.getElem?_cons_succ, ↓List.getElem?_cons_zero]; rfl) (by kernel_rfl) (by kernel_rfl) (by kernel_rfl) (by assumption) ?_ ?_ ?_
            rotate_left
            · exact fun _ _ _ h => h
            · exact Or.inl ⟨by rfl, by (intro V hV; (try dsimp only at hV); go_simp; try with_reducible rfl)⟩
            simp only [Act.put, List.setIfInBounds_toArray, List.set_cons_zero, List.set_cons_succ]
            refine wpAnyH_ready (rs := [11]) (by kernel_rfl) (by simp) ?_
            refine AllReadyH.cons rfl (fun K hK => ?_) ?_
            · go_simp
              go_wp2_with (go_at_call 37; (with_reducible refine (HTR.out _ _ _ HLV.out.hd).mono ?_); rintro e v2 ⟨rfl, hb⟩; have HBW := Lib.hid (HBV.out.trans (hb.mono HBV.out.size)); have HQW := Lib.hid (HQV.out.below hb HQV.out.lt); clear hb)
              refine hK.out _ _ ⟨HQW.out.c0, HQW.out.c1⟩ (fun hHeld => ?_)
              clear hK K
              try simp only [List.setIfInBounds_toArray, List.set_cons_zero, List.set_cons_succ]
              refine wpAnyH_takeX (i := 12) (v := ?_) (by simp only [↓List.getElem?_toArray, ↓List.getElem?_cons_succ, ↓List.getElem?_cons_zero]; rfl) (by kernel_rfl) (by kernel_rfl) (by kernel_rfl) (by assumption) ?_ ?_ ?_
              rotate_left
              · exact fun _ _ _ h => h
              · exact Or.inl ⟨by rfl, by (intro V hV; (try dsimp only at hV); go_simp; try with_reducible rfl)⟩
              simp only [Act.put, List.setIfInBounds_toArray, List.set_cons_zero, List.set_cons_succ]
              refine wpAnyH_takeX (i := 13) (v := ?_) (by simp only [↓List.getElem?_toArray, ↓List.getElem?_cons_succ, ↓List.getElem?_cons_zero]; rfl) (by kernel_rfl) (by kernel_rfl) (by kernel_rfl) (by assumption) ?_ ?_ ?_
              rotate_left
              · exact fun _ _ _ h => h
              · exact Or.inl ⟨by rfl, by (intro V hV; (try dsimp only at hV); go_simp; try with_reducible rfl)⟩
              simp only [Act.put, List.setIfInBounds_toArray, List.set_cons_zero, List.set_cons_succ]
              refine wpAnyH_takeX (i := 14) (v := ?_) (by simp only [↓List.getElem?_toArray, ↓List.getElem?_cons_succ, ↓List.getElem?_cons_zero]; rfl) (by kernel_rfl) (by kernel_rfl) (by kernel_rfl) (by assumption) ?_ ?_ ?_
              rotate_left
              · exact fun _ _ _ h => h
              · exact Or.inl ⟨by rfl, by (intro V hV; (try dsimp only at hV); go_simp; try with_reducible rfl)⟩
              simp only [Act.put, List.setIfInBounds_toArray, List.set_cons_zero, List.set_cons_succ]
              refine wpAnyH_takeX (i := 15) (v := ?_) (by simp only [↓List.getElem?_toArray, ↓List.getElem?_cons_succ, ↓List.getElem?_cons_zero]; rfl) (by kernel_rfl) (by kernel_rfl) (by kernel_rfl) (by assumption) ?_ ?_ ?_
              rotate_left
              · exact fun _ _ _ h => h
              · exact Or.inl ⟨by rfl, by (intro V hV; (try dsimp only at hV); go_simp; try with_reducible rfl)⟩
              simp only [Act.put, List.setIfInBounds_toArray, List.set_cons_zero, List.set_cons_succ]
              refine wpAnyH_takeX (i := 16) (v := ?_) (by simp only [↓List.getElem?_toArray, ↓List.getElem?_cons_succ, ↓List.getElem?_cons_zero]; rfl) (by kernel_rfl) (by kernel_rfl) (by kernel_rfl) (by assumption) ?_ ?_ ?_
              rotate_left
              · exact fun _ _ _ h => h
              · exact Or.inl ⟨by rfl, by (intro V hV; (try dsimp only at hV); go_simp; try with_reducible rfl)⟩
              simp only [Act.put, List.setIfInBounds_toArray, List.set_cons_zero, List.set_cons_succ]
              refine wpAnyH_takeX (i := 17) (v := ?_) (by simp only [↓List.getElem?_toArray, ↓List.getElem?_cons_succ, ↓List.getElem?_cons_zero]; rfl) (by kernel_rfl) (by kernel_rfl) (by kernel_rfl) (by assumption) ?_ ?_ ?_
              rotate_left
              · exact fun _ _ _ h => h
              · exact Or.inl ⟨by rfl, by (intro V hV; (try dsimp only at hV); go_simp; try with_reducible rfl)⟩
              simp only [Act.put, List.setIfInBounds_toArray, List.set_cons_zero, List.set_cons_succ]
              refine wpAnyH_takeX (i := 18) (v := ?_) (by simp only [↓List.getElem?_toArray, ↓List.getElem?_cons_succ, ↓List.getElem?_cons_zero]; rfl) (by kernel_rfl) (by kernel_rfl) (by kernel_rfl) (by assumption) ?_ ?_ ?_
              rotate_left
              · exact fun _ _ _ h => h
              · exact Or.inl ⟨by rfl, by (intro V hV; (try dsimp only at hV); go_simp; try with_reducible rfl)⟩
              simp only [Act.put, List.setIfInBounds_toArray, List.set_cons_zero, List.set_cons_succ]
              refine wpAnyH_ready (rs := [19]) (by kernel_rfl) (by simp) ?_
              refine AllReadyH.cons rfl (fun K hK => ?_) ?_
              · go_simp
                go_wp2_with (go_at_call 19; (with_reducible refine (awake_here _).mono ?_); rintro e v3 ⟨rfl, hb⟩; have HBZ := Lib.hid (HBW.out.trans (hb.mono HBW.out.size)); have HQZ := Lib.hid (HQW.out.below hb HQW.out.lt); clear hb)
                refine hK.out _ _ ⟨HQZ.out.c0, HQZ.out.c1⟩ (fun hHeld => ?_)
                clear hK K
                try simp only [List.setIfInBounds_toArray, List.set_cons_zero, List.set_cons_succ]
                refine wpAnyH_takeX (i := 20) (v := ?_) (by simp only [↓List.getElem?_toArray, ↓List.getElem?_cons_succ, ↓List.getElem?_cons_zero]; rfl) (by kernel_rfl) (by kernel_rfl) (by kernel_rfl) (by assumption) ?_ ?_ ?_
                rotate_left
                · exact fun _ _ _ h => h
                · exact Or.inl ⟨by rfl, by (intro V hV; (try dsimp only at hV); go_simp; try with_reducible rfl)⟩
                simp only [Act.put, List.setIfInBounds_toArray, List.set_cons_zero, List.set_cons_succ]
                refine wpAnyH_takeX (i := 21) (v := ?_) (by simp only [↓List.getElem?_toArray, ↓List.getElem?_cons_succ, ↓List.getElem?_cons_zero]; rfl) (by kernel_rfl) (by kernel_rfl) (by kernel_rfl) (by assumption) ?_ ?_ ?_
                rotate_left
                · exact fun _ _ _ h => h
                · exact Or.inl ⟨by rfl, by (intro V hV; (try dsimp only at hV); go_simp; try with_reducible rfl)⟩
                simp only [Act.put, List.setIfInBounds_toArray, List.set_cons_zero, List.set_cons_succ]
                refine wpAnyH_done (by kernel_rfl) ?_ _
                go_wp2
                go_ret
                exact ⟨rfl, HBZ.out⟩
              exact AllReadyH.nil
            exact AllReadyH.nil
          exact AllReadyH.nil
      · have hp2 : (q : Int) ≤ a := by omega
        have f0 : decide (a < 0) = false := decide_eq_false hn
        have f1 : decide (a ≥ (q : Int)) = true := decide_eq_true hp2
        have f2 : decide ((q : Int) ≤ a) = true := decide_eq_true hp2
        clear hp
        rcases h3 : ordB zs with _ | _
        · have HOA := Lib.hid (fun V A c (hs : Sl V A zs.length c zs) => orderAt_bad zs A zs.length c V hs h3)
          have HTU := Lib.hid (fun V A c (hs : Sl V A zs.length c zs) => turn_bad zs A zs.length c V hs h3)
          have HRB := HRB0
          rw [h3] at HRB
          clear h3 HRB0
          go_enter Try.func5, Try.ntmps5
          go_upto_region 5 with (first
            | (go_at_call 16; (with_reducible refine (HCP.out).mono ?_); rintro e w1 ⟨⟨A1, c1, rfl, hs⟩, hb⟩; have HL1 := Lib.hid ((HL0.out.below hb).push hs); have HB1 := Lib.hid (HB0.out.trans (hb.mono HB0.out.size)); clear hs hb)
            | (go_at_call 30; (with_reducible refine (HOR.out _).mono ?_); rintro e w2 ⟨rfl, hb⟩; have HL2 := Lib.hid ((HL1.out.below hb)); have HB2 := Lib.hid (HB1.out.trans (hb.mono HB1.out.size)); clear hb)
            | (go_at_call 31; (with_reducible refine (HOA.out _ _ _ HL2.out.hd).mono ?_); rintro e w3 ⟨rfl, hb⟩; have HL3 := Lib.hid ((HL2.out.below hb)); have HB3 := Lib.hid (HB2.out.trans (hb.mono HB2.out.size)); clear hb)
            | (go_at_call 32; (with_reducible refine (HTU.out _ _ _ HL3.out.hd).mono ?_); rintro e w4 ⟨rfl, hb⟩; have HL4 := Lib.hid ((HL3.out.below hb)); have HB4 := Lib.hid (HB3.out.trans (hb.mono HB3.out.size)); clear hb))
          have HQ5 := Lib.hid (Bx2.new w4 0 0)
          have HL5 := Lib.hid (HL4.out.below (below_one w4 (.cells #[.int .i64 0, .int .i64 0] 35)))
          have HB5 : Hid (Below w.heap.size w (w4.alloc (.cells #[.int .i64 0, .int .i64 0] 35))) := HB4.out.alloc HB4.out.size _
          generalize w4.alloc (.cells #[.int .i64 0, .int .i64 0] 35) = w5 at HQ5 HL5 HB5 ⊢
          generalize w4.heap.size = g at HQ5 ⊢
          go_upto_region 11 with (first
            | (go_at_call 33; (with_reducible refine (HRF.out _).mono ?_); rintro e w' ⟨rfl, rfl⟩)
            | (go_at_call 35; (with_reducible refine (HRB.out _ _ _ HL5.out.hd).mono ?_); rintro e w6 ⟨rfl, hd⟩; have hb := hd.below w5.heap.size; have HL6 := Lib.hid ((HL5.out.below hb)); have HB6 := Lib.hid (HB5.out.trans (hb.mono HB5.out.size)); have HQ6 := Lib.hid (HQ5.out.below hb HQ5.out.lt); clear hb hd))
          have e0 := HQ6.out.c0
          have e1 := HQ6.out.c1
          have heq := fun W => run_eql_pair W 0 0
          go_wp2_with (go_at_call 19; (with_reducible refine (awake_here _).mono ?_); rintro e v3 ⟨rfl, hb⟩; have HBZ := Lib.hid (HB6.out.trans (hb.mono HB6.out.size)); clear hb)
          go_ret
          exact ⟨rfl, HBZ.out⟩
        · obtain ⟨ho, hz18⟩ := ordB_or h3
          obtain ⟨x, y, hT⟩ := turns_any ho hz18
          have HOA := Lib.hid (fun V A c (hs : Sl V A zs.length c zs) => orderAt_ok zs A zs.length c V hs ho hz18)
          have HTU := Lib.hid hT.1
          have HTR := Lib.hid hT.2
          have HRA := Lib.hid (fun V A c (hs : Sl V A zs.length c zs) => orderAtR_any zs.length zs A c V hz18 hs ho)
          have HRB := HRB0
          rw [h3] at HRB
          clear h3 HRB0 hT ho
          generalize rkO zs.length zs = pp at *
          go_enter Try.func5, Try.ntmps5
          go_upto_region 5 with (first
            | (go_at_call 16; (with_reducible refine (HCP.out).mono ?_); rintro e w1 ⟨⟨A1, c1, rfl, hs⟩, hb⟩; have HL1 := Lib.hid ((HL0.out.below hb).push hs); have HB1 := Lib.hid (HB0.out.trans (hb.mono HB0.out.size)); clear hs hb)
            | (go_at_call 30; (with_reducible refine (HOR.out _).mono ?_); rintro e w2 ⟨rfl, hb⟩; have HL2 := Lib.hid ((HL1.out.below hb)); have HB2 := Lib.hid (HB1.out.trans (hb.mono HB1.out.size)); clear hb)
            | (go_at_call 31; (with_reducible refine (HOA.out _ _ _ HL2.out.hd).mono ?_); rintro e w3 ⟨rfl, hb⟩; have HL3 := Lib.hid ((HL2.out.below hb)); have HB3 := Lib.hid (HB2.out.trans (hb.mono HB2.out.size)); clear hb)
            | (go_at_call 32; (with_reducible refine (HTU.out _ _ _ HL3.out.hd).mono ?_); rintro e w4 ⟨rfl, hb⟩; have HL4 := Lib.hid ((HL3.out.below hb)); have HB4 := Lib.hid (HB3.out.trans (hb.mono HB3.out.size)); clear hb))
          have HQ5 := Lib.hid (Bx2.new w4 x y)
          have HL5 := Lib.hid (HL4.out.below (below_one w4 (.cells #[.int .i64 x, .int .i64 y] 35)))
          have HB5 : Hid (Below w.heap.size w (w4.alloc (.cells #[.int .i64 x, .int .i64 y] 35))) := HB4.out.alloc HB4.out.size _
          generalize w4.alloc (.cells #[.int .i64 x, .int .i64 y] 35) = w5 at HQ5 HL5 HB5 ⊢
          generalize w4.heap.size = g at HQ5 ⊢
          go_upto_region 12 with (first
            | (go_at_call 33; (with_reducible refine (HRF.out _).mono ?_); rintro e w' ⟨rfl, rfl⟩)
            | (go_at_call 35; (with_reducible refine (HRB.out _ _ _ HL5.out.hd).mono ?_); rintro e w6 ⟨rfl, hd⟩; have hb := hd.below w5.heap.size; have HL6 := Lib.hid ((HL5.out.below hb)); have HB6 := Lib.hid (HB5.out.trans (hb.mono HB5.out.size)); have HQ6 := Lib.hid (HQ5.out.below hb HQ5.out.lt); clear hb hd))
          have e0 := HQ6.out.c0
          have e1 := HQ6.out.c1
          have heq := fun W => run_eql_pair W x y
          have HLD := Lib.hid (HL6.out.below (Below.refl _ w6).drew)
          have HBD : Hid (Below w.heap.size w w6.drew) := HB6.out.drew
          have HQD : Hid (Bx2 w6.drew g x y) := HQ6.out
          refine wp_region_held_drew (S := fun V => V.cell? ⟨g, 0, none⟩ = some (.int .i64 x) ∧ V.cell? ⟨g, 1, none⟩ = some (.int .i64 y)) (by kernel_rfl) ⟨e0, e1⟩ (fun hHeld => ?_)
          generalize w6.drew = V0 at HLD HBD HQD hHeld ⊢
          clear e0 e1
          refine wpAnyH_takeX (i := 0) (v := ?_) (by simp only [↓List.getElem?_toArray, ↓List.getElem?_cons_zero]; rfl) (by kernel_rfl) (by kernel_rfl) (by kernel_rfl) (by assumption) ?_ ?_ ?_
          rotate_left
          · exact fun _ _ _ h => h
          · exact Or.inl ⟨by rfl, by (intro V hV; (try dsimp only at hV); go_simp; try with_reducible rfl)⟩
          simp only [Act.put, List.setIfInBounds_toArray, List.set_cons_zero, List.set_cons_succ]
          refine wpAnyH_takeX (i := 1) (v := ?_) (by simp only [↓List.getElem?_toArray, ↓List.getElem?_cons_succ, ↓List.getElem?_cons_zero]; rfl) (by kernel_rfl) (by kernel_rfl) (by kernel_rfl) (by assumption) ?_ ?_ ?_
          rotate_left
          · exact fun _ _ _ h => h
          · exact Or.inl ⟨by rfl, by (intro V hV; (try dsimp only at hV); go_simp; try with_reducible rfl)⟩
          simp only [Act.put, List.setIfInBounds_toArray, List.set_cons_zero, List.set_cons_succ]
          refine wpAnyH_ready (rs := [2]) (by kernel_rfl) (by simp) ?_
          refine AllReadyH.cons rfl (fun K hK => ?_) ?_
          · go_simp
            go_wp2_with (go_at_call 36; (with_reducible refine (HRA.out _ _ _ HLD.out.hd).mono ?_); rintro e v1 ⟨rfl, hb⟩; have HLV := Lib.hid (HLD.out.below hb); have HBV := Lib.hid (HBD.out.trans (hb.mono HBD.out.size)); have HQV := Lib.hid (HQD.out.below hb HQD.out.lt); clear hb)
            refine hK.out _ _ ⟨HQV.out.c0, HQV.out.c1⟩ (fun hHeld => ?_)
            clear hK K
            try simp only [List.setIfInBounds_toArray, List.set_cons_zero, List.set_cons_succ]
            refine wpAnyH_takeX (i := 3) (v := ?_) (by simp only [↓List.getElem?_toArray, ↓List.getElem?_cons_succ, ↓List.getElem?_cons_zero]; rfl) (by kernel_rfl) (by kernel_rfl) (by kernel_rfl) (by assumption) ?_ ?_ ?_
            rotate_left
            · exact fun _ _ _ h => h
            · exact Or.inl ⟨by rfl, by (intro V hV; (try dsimp only at hV); go_simp; try with_reducible rfl)⟩
            simp only [Act.put, List.setIfInBounds_toArray, List.set_cons_zero, List.set_cons_succ]
            refine wpAnyH_takeX (i := 4) (v := ?_) (by simp only [↓List.getElem?_toArray, ↓List.getElem?_cons_succ, ↓List.getElem?_cons_zero]; rfl) (by kernel_rfl) (by kernel_rfl) (by kernel_rfl) (by assumption) ?_ ?_ ?_
            rotate_left
            · exact fun _ _ _ h => h
            · exact Or.inl ⟨by rfl, by (intro V hV; (try dsimp only at hV); go_simp; try with_reducible rfl)⟩
            simp only [Act.put, List.setIfInBounds_toArray, List.set_cons_zero, List.set_cons_succ]
            refine wpAnyH_takeX (i := 5) (v := ?_) (by simp only [↓List.getElem?_toArray, ↓List.getElem?_cons_succ, ↓List.getElem?_cons_zero]; rfl) (by kernel_rfl) (by kernel_rfl) (by kernel_rfl) (by assumption) ?_ ?_ ?_
            rotate_left
            · exact fun _ _ _ h => h
            · exact Or.inl ⟨by rfl, by (intro V hV; (try dsimp only at hV); go_simp; try with_reducible rfl)⟩
            simp only [Act.put, List.setIfInBounds_toArray, List.set_cons_zero, List.set_cons_succ]
            refine wpAnyH_takeX (i := 6) (v := ?_) (by simp only [↓List.getElem?_toArray, ↓List.getElem?_cons_succ, ↓List.getElem?_cons_zero]; rfl) (by kernel_rfl) (by kernel_rfl) (by kernel_rfl) (by assumption) ?_ ?_ ?_
            rotate_left
            · exact fun _ _ _ h => h
            · exact Or.inl ⟨by rfl, by (intro V hV; (try dsimp only at hV); go_simp; try with_reducible rfl)⟩
            simp only [Act.put, List.setIfInBounds_toArray, List.set_cons_zero, List.set_cons_succ]
            refine wpAnyH_takeX (i := 7) (v := ?_) (by simp only [↓List.getElem?_toArray, ↓List.getElem?_cons_succ, ↓List.getElem?_cons_zero]; rfl) (by kernel_rfl) (by kernel_rfl) (by kernel_rfl) (by assumption) ?_ ?_ ?_
            rotate_left
            · exact fun _ _ _ h => h
            · exact Or.inl ⟨by rfl, by (intro V hV; (try dsimp only at hV); go_simp; try with_reducible rfl)⟩
            simp only [Act.put, List.setIfInBounds_toArray, List.set_cons_zero, List.set_cons_succ]
            refine wpAnyH_takeX (i := 8) (v := ?_) (by simp only [↓List.getElem?_toArray, ↓List.getElem?_cons_succ, ↓List.getElem?_cons_zero]; rfl) (by kernel_rfl) (by kernel_rfl) (by kernel_rfl) (by assumption) ?_ ?_ ?_
            rotate_left
            · exact fun _ _ _ h => h
            · exact Or.inl ⟨by rfl, by (intro V hV; (try dsimp only at hV); go_simp; try with_reducible rfl)⟩
            simp only [Act.put, List.setIfInBounds_toArray, List.set_cons_zero, List.set_cons_succ]
            refine wpAnyH_takeX (i := 9) (v := ?_) (by simp only [↓List.getElem?_toArray, ↓List.getElem?_cons_succ, ↓List.getElem?_cons_zero]; rfl) (by kernel_rfl) (by kernel_rfl) (by kernel_rfl) (by assumption) ?_ ?_ ?_
            rotate_left
            · exact fun _ _ _ h => h
            · exact Or.inl ⟨by rfl, by (intro V hV; (try dsimp only at hV); go_simp; try with_reducible rfl)⟩
            simp only [Act.put, List.setIfInBounds_toArray, List.set_cons_zero, List.set_cons_succ]
            refine wpAnyH_takeX (i := 10) (v := ?_) (by simp only [↓List.getElem?_toArray, ↓List.getElem?_cons_succ, ↓List.getElem?_cons_zero]; rfl) (by kernel_rfl) (by kernel_rfl) (by kernel_rfl) (by assumption) ?_ ?_ ?_
            rotate_left
            · exact fun _ _ _ h => h
            · exact Or.inl ⟨by rfl, by (intro V hV; (try dsimp only at hV); go_simp; try with_reducible rfl)⟩
            simp only [Act.put, List.setIfInBounds_toArray, List.set_cons_zero, List.set_cons_succ]
            refine wpAnyH_ready (rs := [11]) (by kernel_rfl) (by simp) ?_
            refine AllReadyH.cons rfl (fun K hK => ?_) ?_
            · go_simp
              go_wp2_with (go_at_call 37; (with_reducible refine (HTR.out _ _ _ HLV.out.hd).mono ?_); rintro e v2 ⟨rfl, hb⟩; have HBW := Lib.hid (HBV.out.trans (hb.mono HBV.out.size)); have HQW := Lib.hid (HQV.out.below hb HQV.out.lt); clear hb)
              refine hK.out _ _ ⟨HQW.out.c0, HQW.out.c1⟩ (fun hHeld => ?_)
              clear hK K
              try simp only [List.setIfInBounds_toArray, List.set_cons_zero, List.set_cons_succ]
              refine wpAnyH_takeX (i := 12) (v := ?_) (by simp only [↓List.getElem?_toArray, ↓List.getElem?_cons_succ, ↓List.getElem?_cons_zero]; rfl) (by kernel_rfl) (by kernel_rfl) (by kernel_rfl) (by assumption) ?_ ?_ ?_
              rotate_left
              · exact fun _ _ _ h => h
              · exact Or.inl ⟨by rfl, by (intro V hV; (try dsimp only at hV); go_simp; try with_reducible rfl)⟩
              simp only [Act.put, List.setIfInBounds_toArray, List.set_cons_zero, List.set_cons_succ]
              refine wpAnyH_takeX (i := 13) (v := ?_) (by simp only [↓List.getElem?_toArray, ↓List.getElem?_cons_succ, ↓List.getElem?_cons_zero]; rfl) (by kernel_rfl) (by kernel_rfl) (by kernel_rfl) (by assumption) ?_ ?_ ?_
              rotate_left
              · exact fun _ _ _ h => h
              · exact Or.inl ⟨by rfl, by (intro V hV; (try dsimp only at hV); go_simp; try with_reducible rfl)⟩
              simp only [Act.put, List.setIfInBounds_toArray, List.set_cons_zero, List.set_cons_succ]
              refine wpAnyH_takeX (i := 14) (v := ?_) (by simp only [↓List.getElem?_toArray, ↓List.getElem?_cons_succ, ↓List.getElem?_cons_zero]; rfl) (by kernel_rfl) (by kernel_rfl) (by kernel_rfl) (by assumption) ?_ ?_ ?_
              rotate_left
              · exact fun _ _ _ h => h
              · exact Or.inl ⟨by rfl, by (intro V hV; (try dsimp only at hV); go_simp; try with_reducible rfl)⟩
              simp only [Act.put, List.setIfInBounds_toArray, List.set_cons_zero, List.set_cons_succ]
              refine wpAnyH_takeX (i := 15) (v := ?_) (by simp only [↓List.getElem?_toArray, ↓List.getElem?_cons_succ, ↓List.getElem?_cons_zero]; rfl) (by kernel_rfl) (by kernel_rfl) (by kernel_rfl) (by assumption) ?_ ?_ ?_
              rotate_left
              · exact fun _ _ _ h => h
              · exact Or.inl ⟨by rfl, by (intro V hV; (try dsimp only at hV); go_simp; try with_reducible rfl)⟩
              simp only [Act.put, List.setIfInBounds_toArray, List.set_cons_zero, List.set_cons_succ]
              refine wpAnyH_takeX (i := 16) (v := ?_) (by simp only [↓List.getElem?_toArray, ↓List.getElem?_cons_succ, ↓List.getElem?_cons_zero]; rfl) (by kernel_rfl) (by kernel_rfl) (by kernel_rfl) (by assumption) ?_ ?_ ?_
              rotate_left
              · exact fun _ _ _ h => h
              · exact Or.inl ⟨by rfl, by (intro V hV; (try dsimp only at hV); go_simp; try with_reducible rfl)⟩
              simp only [Act.put, List.setIfInBounds_toArray, List.set_cons_zero, List.set_cons_succ]
              refine wpAnyH_takeX (i := 17) (v := ?_) (by simp only [↓List.getElem?_toArray, ↓List.getElem?_cons_succ, ↓List.getElem?_cons_zero]; rfl) (by kernel_rfl) (by kernel_rfl) (by kernel_rfl) (by assumption) ?_ ?_ ?_
              rotate_left
              · exact fun _ _ _ h => h
              · exact Or.inl ⟨by rfl, by (intro V hV; (try dsimp only at hV); go_simp; try with_reducible rfl)⟩
              simp only [Act.put, List.setIfInBounds_toArray, List.set_cons_zero, List.set_cons_succ]
              refine wpAnyH_takeX (i := 18) (v := ?_) (by simp only [↓List.getElem?_toArray, ↓List.getElem?_cons_succ, ↓List.getElem?_cons_zero]; rfl) (by kernel_rfl) (by kernel_rfl) (by kernel_rfl) (by assumption) ?_ ?_ ?_
              rotate_left
              · exact fun _ _ _ h => h
              · exact Or.inl ⟨by rfl, by (intro V hV; (try dsimp only at hV); go_simp; try with_reducible rfl)⟩
              simp only [Act.put, List.setIfInBounds_toArray, List.set_cons_zero, List.set_cons_succ]
              refine wpAnyH_ready (rs := [19]) (by kernel_rfl) (by simp) ?_
              refine AllReadyH.cons rfl (fun K hK => ?_) ?_
              · go_simp
                go_wp2_with (go_at_call 19; (with_reducible refine (awake_here _).mono ?_); rintro e v3 ⟨rfl, hb⟩; have HBZ := Lib.hid (HBW.out.trans (hb.mono HBW.out.size)); have HQZ := Lib.hid (HQW.out.below hb HQW.out.lt); clear hb)
                refine hK.out _ _ ⟨HQZ.out.c0, HQZ.out.c1⟩ (fun hHeld => ?_)
                clear hK K
                try simp only [List.setIfInBounds_toArray, List.set_cons_zero, List.set_cons_succ]
                refine wpAnyH_takeX (i := 20) (v := ?_) (by simp only [↓List.getElem?_toArray, ↓List.getElem?_cons_succ, ↓List.getElem?_cons_zero]; rfl) (by kernel_rfl) (by kernel_rfl) (by kernel_rfl) (by assumption) ?_ ?_ ?_
                rotate_left
                · exact fun _ _ _ h => h
                · exact Or.inl ⟨by rfl, by (intro V hV; (try dsimp only at hV); go_simp; try with_reducible rfl)⟩
                simp only [Act.put, List.setIfInBounds_toArray, List.set_cons_zero, List.set_cons_succ]
                refine wpAnyH_takeX (i := 21) (v := ?_) (by simp only [↓List.getElem?_toArray, ↓List.getElem?_cons_succ, ↓List.getElem?_cons_zero]; rfl) (by kernel_rfl) (by kernel_rfl) (by kernel_rfl) (by assumption) ?_ ?_ ?_
                rotate_left
                · exact fun _ _ _ h => h
                · exact Or.inl ⟨by rfl, by (intro V hV; (try dsimp only at hV); go_simp; try with_reducible rfl)⟩
                simp only [Act.put, List.setIfInBounds_toArray, List.set_cons_zero, List.set_cons_succ]
                refine wpAnyH_done (by kernel_rfl) ?_ _
                go_wp2
                go_ret
                exact ⟨rfl, HBZ.out⟩
              exact AllReadyH.nil
            exact AllReadyH.nil
          exact AllReadyH.nil
    · obtain ⟨b, rfl, hb⟩ := posB_nat h1
      have HOR := Lib.hid (fun V => order_ok N b V hN hb)
      have HRO := Lib.hid (fun V => orderR_ok N b V hN hb)
      have HIN := Lib.hid (fun V A c B d (hz : Sl V A N c (oN N b)) (hx : Sl V B N d (oN N b)) => ints_one V A B N c d (oN N b) (by omega) hz hx)
      clear h0 h1
      generalize oN N b = LL at *
      generalize fac N = q at *
      have f0 : decide ((b : Int) < 0) = false := decide_eq_false (by omega)
      have f1 : decide ((b : Int) ≥ (q : Int)) = false := decide_eq_false (by omega)
      have f2 : decide ((q : Int) ≤ (b : Int)) = false := decide_eq_false (by omega)
      have f3 : decide (q ≤ b) = false := decide_eq_false (by omega)
      rcases h3 : ordB zs with _ | _
      · have HOA := Lib.hid (fun V A c (hs : Sl V A zs.length c zs) => orderAt_bad zs A zs.length c V hs h3)
        have HTU := Lib.hid (fun V A c (hs : Sl V A zs.length c zs) => turn_bad zs A zs.length c V hs h3)
        have HRB := HRB0
        rw [h3] at HRB
        clear h3 HRB0
        go_enter Try.func5, Try.ntmps5
        go_upto_region 5 with (first
          | (go_at_call 16; (with_reducible refine (HCP.out).mono ?_); rintro e w1 ⟨⟨A1, c1, rfl, hs⟩, hb⟩; have HL1 := Lib.hid ((HL0.out.below hb).push hs); have HB1 := Lib.hid (HB0.out.trans (hb.mono HB0.out.size)); clear hs hb)
          | (go_at_call 30; (with_reducible refine (HOR.out _).mono ?_); rintro e w2 ⟨⟨A2, c2, rfl, hs⟩, hb⟩; have HL2 := Lib.hid ((HL1.out.below hb).push hs); have HB2 := Lib.hid (HB1.out.trans (hb.mono HB1.out.size)); clear hs hb)
          | (go_at_call 31; (with_reducible refine (HOA.out _ _ _ HL2.out.tl.hd).mono ?_); rintro e w3 ⟨rfl, hb⟩; have HL3 := Lib.hid ((HL2.out.below hb)); have HB3 := Lib.hid (HB2.out.trans (hb.mono HB2.out.size)); clear hb)
          | (go_at_call 32; (with_reducible refine (HTU.out _ _ _ HL3.out.tl.hd).mono ?_); rintro e w4 ⟨rfl, hb⟩; have HL4 := Lib.hid ((HL3.out.below hb)); have HB4 := Lib.hid (HB3.out.trans (hb.mono HB3.out.size)); clear hb))
        have HQ5 := Lib.hid (Bx2.new w4 0 0)
        have HL5 := Lib.hid (HL4.out.below (below_one w4 (.cells #[.int .i64 0, .int .i64 0] 35)))
        have HB5 : Hid (Below w.heap.size w (w4.alloc (.cells #[.int .i64 0, .int .i64 0] 35))) := HB4.out.alloc HB4.out.size _
        generalize w4.alloc (.cells #[.int .i64 0, .int .i64 0] 35) = w5 at HQ5 HL5 HB5 ⊢
        generalize w4.heap.size = g at HQ5 ⊢
        go_upto_region 11 with (first
          | (go_at_call 33; (with_reducible refine (HRF.out _).mono ?_); rintro e w' ⟨rfl, rfl⟩)
          | (go_at_call 34; (with_reducible refine (HRO.out _).mono ?_); rintro e w6 ⟨⟨A6, c6, rfl, hs⟩, hb⟩; have HL6 := Lib.hid ((HL5.out.below hb).push hs); have HB6 := Lib.hid (HB5.out.trans (hb.mono HB5.out.size)); have HQ6 := Lib.hid (HQ5.out.below hb HQ5.out.lt); clear hs hb)
          | (go_at_call 20; (with_reducible refine (HIN.out _ _ _ _ _ HL6.out.tl.hd HL6.out.hd).mono ?_); rintro e w7 ⟨rfl, hd⟩; have hb := hd.below w6.heap.size; have HL7 := Lib.hid ((HL6.out.below hb)); have HB7 := Lib.hid (HB6.out.trans (hb.mono HB6.out.size)); have HQ7 := Lib.hid (HQ6.out.below hb HQ6.out.lt); clear hb hd)
          | (go_at_call 35; (with_reducible refine (HRB.out _ _ _ HL7.out.tl.tl.hd).mono ?_); rintro e w8 ⟨rfl, hd⟩; have hb := hd.below w7.heap.size; have HL8 := Lib.hid ((HL7.out.below hb)); have HB8 := Lib.hid (HB7.out.trans (hb.mono HB7.out.size)); have HQ8 := Lib.hid (HQ7.out.below hb HQ7.out.lt); clear hb hd))
        have e0 := HQ8.out.c0
        have e1 := HQ8.out.c1
        have heq := fun W => run_eql_pair W 0 0
        go_wp2_with (go_at_call 19; (with_reducible refine (awake_here _).mono ?_); rintro e v3 ⟨rfl, hb⟩; have HBZ := Lib.hid (HB8.out.trans (hb.mono HB8.out.size)); clear hb)
        go_ret
        exact ⟨rfl, HBZ.out⟩
      · obtain ⟨ho, hz18⟩ := ordB_or h3
        obtain ⟨x, y, hT⟩ := turns_any ho hz18
        have HOA := Lib.hid (fun V A c (hs : Sl V A zs.length c zs) => orderAt_ok zs A zs.length c V hs ho hz18)
        have HTU := Lib.hid hT.1
        have HTR := Lib.hid hT.2
        have HRA := Lib.hid (fun V A c (hs : Sl V A zs.length c zs) => orderAtR_any zs.length zs A c V hz18 hs ho)
        have HRB := HRB0
        rw [h3] at HRB
        clear h3 HRB0 hT ho
        generalize rkO zs.length zs = pp at *
        go_enter Try.func5, Try.ntmps5
        go_upto_region 5 with (first
          | (go_at_call 16; (with_reducible refine (HCP.out).mono ?_); rintro e w1 ⟨⟨A1, c1, rfl, hs⟩, hb⟩; have HL1 := Lib.hid ((HL0.out.below hb).push hs); have HB1 := Lib.hid (HB0.out.trans (hb.mono HB0.out.size)); clear hs hb)
          | (go_at_call 30; (with_reducible refine (HOR.out _).mono ?_); rintro e w2 ⟨⟨A2, c2, rfl, hs⟩, hb⟩; have HL2 := Lib.hid ((HL1.out.below hb).push hs); have HB2 := Lib.hid (HB1.out.trans (hb.mono HB1.out.size)); clear hs hb)
          | (go_at_call 31; (with_reducible refine (HOA.out _ _ _ HL2.out.tl.hd).mono ?_); rintro e w3 ⟨rfl, hb⟩; have HL3 := Lib.hid ((HL2.out.below hb)); have HB3 := Lib.hid (HB2.out.trans (hb.mono HB2.out.size)); clear hb)
          | (go_at_call 32; (with_reducible refine (HTU.out _ _ _ HL3.out.tl.hd).mono ?_); rintro e w4 ⟨rfl, hb⟩; have HL4 := Lib.hid ((HL3.out.below hb)); have HB4 := Lib.hid (HB3.out.trans (hb.mono HB3.out.size)); clear hb))
        have HQ5 := Lib.hid (Bx2.new w4 x y)
        have HL5 := Lib.hid (HL4.out.below (below_one w4 (.cells #[.int .i64 x, .int .i64 y] 35)))
        have HB5 : Hid (Below w.heap.size w (w4.alloc (.cells #[.int .i64 x, .int .i64 y] 35))) := HB4.out.alloc HB4.out.size _
        generalize w4.alloc (.cells #[.int .i64 x, .int .i64 y] 35) = w5 at HQ5 HL5 HB5 ⊢
        generalize w4.heap.size = g at HQ5 ⊢
        go_upto_region 12 with (first
          | (go_at_call 33; (with_reducible refine (HRF.out _).mono ?_); rintro e w' ⟨rfl, rfl⟩)
          | (go_at_call 34; (with_reducible refine (HRO.out _).mono ?_); rintro e w6 ⟨⟨A6, c6, rfl, hs⟩, hb⟩; have HL6 := Lib.hid ((HL5.out.below hb).push hs); have HB6 := Lib.hid (HB5.out.trans (hb.mono HB5.out.size)); have HQ6 := Lib.hid (HQ5.out.below hb HQ5.out.lt); clear hs hb)
          | (go_at_call 20; (with_reducible refine (HIN.out _ _ _ _ _ HL6.out.tl.hd HL6.out.hd).mono ?_); rintro e w7 ⟨rfl, hd⟩; have hb := hd.below w6.heap.size; have HL7 := Lib.hid ((HL6.out.below hb)); have HB7 := Lib.hid (HB6.out.trans (hb.mono HB6.out.size)); have HQ7 := Lib.hid (HQ6.out.below hb HQ6.out.lt); clear hb hd)
          | (go_at_call 35; (with_reducible refine (HRB.out _ _ _ HL7.out.tl.tl.hd).mono ?_); rintro e w8 ⟨rfl, hd⟩; have hb := hd.below w7.heap.size; have HL8 := Lib.hid ((HL7.out.below hb)); have HB8 := Lib.hid (HB7.out.trans (hb.mono HB7.out.size)); have HQ8 := Lib.hid (HQ7.out.below hb HQ7.out.lt); clear hb hd))
        have e0 := HQ8.out.c0
        have e1 := HQ8.out.c1
        have heq := fun W => run_eql_pair W x y
        have HLD := Lib.hid (HL8.out.below (Below.refl _ w8).drew)
        have HBD : Hid (Below w.heap.size w w8.drew) := HB8.out.drew
        have HQD : Hid (Bx2 w8.drew g x y) := HQ8.out
        refine wp_region_held_drew (S := fun V => V.cell? ⟨g, 0, none⟩ = some (.int .i64 x) ∧ V.cell? ⟨g, 1, none⟩ = some (.int .i64 y)) (by kernel_rfl) ⟨e0, e1⟩ (fun hHeld => ?_)
        generalize w8.drew = V0 at HLD HBD HQD hHeld ⊢
        clear e0 e1
        refine wpAnyH_takeX (i := 0) (v := ?_) (by simp only [↓List.getElem?_toArray, ↓List.getElem?_cons_zero]; rfl) (by kernel_rfl) (by kernel_rfl) (by kernel_rfl) (by assumption) ?_ ?_ ?_
        rotate_left
        · exact fun _ _ _ h => h
        · exact Or.inl ⟨by rfl, by (intro V hV; (try dsimp only at hV); go_simp; try with_reducible rfl)⟩
        simp only [Act.put, List.setIfInBounds_toArray, List.set_cons_zero, List.set_cons_succ]
        refine wpAnyH_takeX (i := 1) (v := ?_) (by simp only [↓List.getElem?_toArray, ↓List.getElem?_cons_succ, ↓List.getElem?_cons_zero]; rfl) (by kernel_rfl) (by kernel_rfl) (by kernel_rfl) (by assumption) ?_ ?_ ?_
        rotate_left
        · exact fun _ _ _ h => h
        · exact Or.inl ⟨by rfl, by (intro V hV; (try dsimp only at hV); go_simp; try with_reducible rfl)⟩
        simp only [Act.put, List.setIfInBounds_toArray, List.set_cons_zero, List.set_cons_succ]
        refine wpAnyH_ready (rs := [2]) (by kernel_rfl) (by simp) ?_
        refine AllReadyH.cons rfl (fun K hK => ?_) ?_
        · go_simp
          go_wp2_with (go_at_call 36; (with_reducible refine (HRA.out _ _ _ HLD.out.tl.tl.hd).mono ?_); rintro e v1 ⟨rfl, hb⟩; have HLV := Lib.hid (HLD.out.below hb); have HBV := Lib.hid (HBD.out.trans (hb.mono HBD.out.size)); have HQV := Lib.hid (HQD.out.below hb HQD.out.lt); clear hb)
          refine hK.out _ _ ⟨HQV.out.c0, HQV.out.c1⟩ (fun hHeld => ?_)
          clear hK K
          try simp only [List.setIfInBounds_toArray, List.set_cons_zero, List.set_cons_succ]
          refine wpAnyH_takeX (i := 3) (v := ?_) (by simp only [↓List.getElem?_toArray, ↓List.getElem?_cons_succ, ↓List.getElem?_cons_zero]; rfl) (by kernel_rfl) (by kernel_rfl) (by kernel_rfl) (by assumption) ?_ ?_ ?_
          rotate_left
          · exact fun _ _ _ h => h
          · exact Or.inl ⟨by rfl, by (intro V hV; (try dsimp only at hV); go_simp; try with_reducible rfl)⟩
          simp only [Act.put, List.setIfInBounds_toArray, List.set_cons_zero, List.set_cons_succ]
          refine wpAnyH_takeX (i := 4) (v := ?_) (by simp only [↓List.getElem?_toArray, ↓List.getElem?_cons_succ, ↓List.getElem?_cons_zero]; rfl) (by kernel_rfl) (by kernel_rfl) (by kernel_rfl) (by assumption) ?_ ?_ ?_
          rotate_left
          · exact fun _ _ _ h => h
          · exact Or.inl ⟨by rfl, by (intro V hV; (try dsimp only at hV); go_simp; try with_reducible rfl)⟩
          simp only [Act.put, List.setIfInBounds_toArray, List.set_cons_zero, List.set_cons_succ]
          refine wpAnyH_takeX (i := 5) (v := ?_) (by simp only [↓List.getElem?_toArray, ↓List.getElem?_cons_succ, ↓List.getElem?_cons_zero]; rfl) (by kernel_rfl) (by kernel_rfl) (by kernel_rfl) (by assumption) ?_ ?_ ?_
          rotate_left
          · exact fun _ _ _ h => h
          · exact Or.inl ⟨by rfl, by (intro V hV; (try dsimp only at hV); go_simp; try with_reducible rfl)⟩
          simp only [Act.put, List.setIfInBounds_toArray, List.set_cons_zero, List.set_cons_succ]
          refine wpAnyH_takeX (i := 6) (v := ?_) (by simp only [↓List.getElem?_toArray, ↓List.getElem?_cons_succ, ↓List.getElem?_cons_zero]; rfl) (by kernel_rfl) (by kernel_rfl) (by kernel_rfl) (by assumption) ?_ ?_ ?_
          rotate_left
          · exact fun _ _ _ h => h
          · exact Or.inl ⟨by rfl, by (intro V hV; (try dsimp only at hV); go_simp; try with_reducible rfl)⟩
          simp only [Act.put, List.setIfInBounds_toArray, List.set_cons_zero, List.set_cons_succ]
          refine wpAnyH_takeX (i := 7) (v := ?_) (by simp only [↓List.getElem?_toArray, ↓List.getElem?_cons_succ, ↓List.getElem?_cons_zero]; rfl) (by kernel_rfl) (by kernel_rfl) (by kernel_rfl) (by assumption) ?_ ?_ ?_
          rotate_left
          · exact fun _ _ _ h => h
          · exact Or.inl ⟨by rfl, by (intro V hV; (try dsimp only at hV); go_simp; try with_reducible rfl)⟩
          simp only [Act.put, List.setIfInBounds_toArray, List.set_cons_zero, List.set_cons_succ]
          refine wpAnyH_takeX (i := 8) (v := ?_) (by simp only [↓List.getElem?_toArray, ↓List.getElem?_cons_succ, ↓List.getElem?_cons_zero]; rfl) (by kernel_rfl) (by kernel_rfl) (by kernel_rfl) (by assumption) ?_ ?_ ?_
          rotate_left
          · exact fun _ _ _ h => h
          · exact Or.inl ⟨by rfl, by (intro V hV; (try dsimp only at hV); go_simp; try with_reducible rfl)⟩
          simp only [Act.put, List.setIfInBounds_toArray, List.set_cons_zero, List.set_cons_succ]
          refine wpAnyH_takeX (i := 9) (v := ?_) (by simp only [↓List.getElem?_toArray, ↓List.getElem?_cons_succ, ↓List.getElem?_cons_zero]; rfl) (by kernel_rfl) (by kernel_rfl) (by kernel_rfl) (by assumption) ?_ ?_ ?_
          rotate_left
          · exact fun _ _ _ h => h
          · exact Or.inl ⟨by rfl, by (intro V hV; (try dsimp only at hV); go_simp; try with_reducible rfl)⟩
          simp only [Act.put, List.setIfInBounds_toArray, List.set_cons_zero, List.set_cons_succ]
          refine wpAnyH_takeX (i := 10) (v := ?_) (by simp only [↓List.getElem?_toArray, ↓List.getElem?_cons_succ, ↓List.getElem?_cons_zero]; rfl) (by kernel_rfl) (by kernel_rfl) (by kernel_rfl) (by assumption) ?_ ?_ ?_
          rotate_left
          · exact fun _ _ _ h => h
          · exact Or.inl ⟨by rfl, by (intro V hV; (try dsimp only at hV); go_simp; try with_reducible rfl)⟩
          simp only [Act.put, List.setIfInBounds_toArray, List.set_cons_zero, List.set_cons_succ]
          refine wpAnyH_ready (rs := [11]) (by kernel_rfl) (by simp) ?_
          refine AllReadyH.cons rfl (fun K hK => ?_) ?_
          · go_simp
            go_wp2_with (go_at_call 37; (with_reducible refine (HTR.out _ _ _ HLV.out.tl.tl.hd).mono ?_); rintro e v2 ⟨rfl, hb⟩; have HBW := Lib.hid (HBV.out.trans (hb.mono HBV.out.size)); have HQW := Lib.hid (HQV.out.below hb HQV.out.lt); clear hb)
            refine hK.out _ _ ⟨HQW.out.c0, HQW.out.c1⟩ (fun hHeld => ?_)
            clear hK K
            try simp only [List.setIfInBounds_toArray, List.set_cons_zero, List.set_cons_succ]
            refine wpAnyH_takeX (i := 12) (v := ?_) (by simp only [↓List.getElem?_toArray, ↓List.getElem?_cons_succ, ↓List.getElem?_cons_zero]; rfl) (by kernel_rfl) (by kernel_rfl) (by kernel_rfl) (by assumption) ?_ ?_ ?_
            rotate_left
            · exact fun _ _ _ h => h
            · exact Or.inl ⟨by rfl, by (intro V hV; (try dsimp only at hV); go_simp; try with_reducible rfl)⟩
            simp only [Act.put, List.setIfInBounds_toArray, List.set_cons_zero, List.set_cons_succ]
            refine wpAnyH_takeX (i := 13) (v := ?_) (by simp only [↓List.getElem?_toArray, ↓List.getElem?_cons_succ, ↓List.getElem?_cons_zero]; rfl) (by kernel_rfl) (by kernel_rfl) (by kernel_rfl) (by assumption) ?_ ?_ ?_
            rotate_left
            · exact fun _ _ _ h => h
            · exact Or.inl ⟨by rfl, by (intro V hV; (try dsimp only at hV); go_simp; try with_reducible rfl)⟩
            simp only [Act.put, List.setIfInBounds_toArray, List.set_cons_zero, List.set_cons_succ]
            refine wpAnyH_takeX (i := 14) (v := ?_) (by simp only [↓List.getElem?_toArray, ↓List.getElem?_cons_succ, ↓List.getElem?_cons_zero]; rfl) (by kernel_rfl) (by kernel_rfl) (by kernel_rfl) (by assumption) ?_ ?_ ?_
            rotate_left
            · exact fun _ _ _ h => h
            · exact Or.inl ⟨by rfl, by (intro V hV; (try dsimp only at hV); go_simp; try with_reducible rfl)⟩
            simp only [Act.put, List.setIfInBounds_toArray, List.set_cons_zero, List.set_cons_succ]
            refine wpAnyH_takeX (i := 15) (v := ?_) (by simp only [↓List.getElem?_toArray, ↓List.getElem?_cons_succ, ↓List.getElem?_cons_zero]; rfl) (by kernel_rfl) (by kernel_rfl) (by kernel_rfl) (by assumption) ?_ ?_ ?_
            rotate_left
            · exact fun _ _ _ h => h
            · exact Or.inl ⟨by rfl, by (intro V hV; (try dsimp only at hV); go_simp; try with_reducible rfl)⟩
            simp only [Act.put, List.setIfInBounds_toArray, List.set_cons_zero, List.set_cons_succ]
            refine wpAnyH_takeX (i := 16) (v := ?_) (by simp only [↓List.getElem?_toArray, ↓List.getElem?_cons_succ, ↓List.getElem?_cons_zero]; rfl) (by kernel_rfl) (by kernel_rfl) (by kernel_rfl) (by assumption) ?_ ?_ ?_
            rotate_left
            · exact fun _ _ _ h => h
            · exact Or.inl ⟨by rfl, by (intro V hV; (try dsimp only at hV); go_simp; try with_reducible rfl)⟩
            simp only [Act.put, List.setIfInBounds_toArray, List.set_cons_zero, List.set_cons_succ]
            refine wpAnyH_takeX (i := 17) (v := ?_) (by simp only [↓List.getElem?_toArray, ↓List.getElem?_cons_succ, ↓List.getElem?_cons_zero]; rfl) (by kernel_rfl) (by kernel_rfl) (by kernel_rfl) (by assumption) ?_ ?_ ?_
            rotate_left
            · exact fun _ _ _ h => h
            · exact Or.inl ⟨by rfl, by (intro V hV; (try dsimp only at hV); go_simp; try with_reducible rfl)⟩
            simp only [Act.put, List.setIfInBounds_toArray, List.set_cons_zero, List.set_cons_succ]
            refine wpAnyH_takeX (i := 18) (v := ?_) (by simp only [↓List.getElem?_toArray, ↓List.getElem?_cons_succ, ↓List.getElem?_cons_zero]; rfl) (by kernel_rfl) (by kernel_rfl) (by kernel_rfl) (by assumption) ?_ ?_ ?_
            rotate_left
            · exact fun _ _ _ h => h
            · exact Or.inl ⟨by rfl, by (intro V hV; (try dsimp only at hV); go_simp; try with_reducible rfl)⟩
            simp only [Act.put, List.setIfInBounds_toArray, List.set_cons_zero, List.set_cons_succ]
            refine wpAnyH_ready (rs := [19]) (by kernel_rfl) (by simp) ?_
            refine AllReadyH.cons rfl (fun K hK => ?_) ?_
            · go_simp
              go_wp2_with (go_at_call 19; (with_reducible refine (awake_here _).mono ?_); rintro e v3 ⟨rfl, hb⟩; have HBZ := Lib.hid (HBW.out.trans (hb.mono HBW.out.size)); have HQZ := Lib.hid (HQW.out.below hb HQW.out.lt); clear hb)
              refine hK.out _ _ ⟨HQZ.out.c0, HQZ.out.c1⟩ (fun hHeld => ?_)
              clear hK K
              try simp only [List.setIfInBounds_toArray, List.set_cons_zero, List.set_cons_succ]
              refine wpAnyH_takeX (i := 20) (v := ?_) (by simp only [↓List.getElem?_toArray, ↓List.getElem?_cons_succ, ↓List.getElem?_cons_zero]; rfl) (by kernel_rfl) (by kernel_rfl) (by kernel_rfl) (by assumption) ?_ ?_ ?_
              rotate_left
              · exact fun _ _ _ h => h
              · exact Or.inl ⟨by rfl, by (intro V hV; (try dsimp only at hV); go_simp; try with_reducible rfl)⟩
              simp only [Act.put, List.setIfInBounds_toArray, List.set_cons_zero, List.set_cons_succ]
              refine wpAnyH_takeX (i := 21) (v := ?_) (by simp only [↓List.getElem?_toArray, ↓List.getElem?_cons_succ, ↓List.getElem?_cons_zero]; rfl) (by kernel_rfl) (by kernel_rfl) (by kernel_rfl) (by assumption) ?_ ?_ ?_
              rotate_left
              · exact fun _ _ _ h => h
              · exact Or.inl ⟨by rfl, by (intro V hV; (try dsimp only at hV); go_simp; try with_reducible rfl)⟩
              simp only [Act.put, List.setIfInBounds_toArray, List.set_cons_zero, List.set_cons_succ]
              refine wpAnyH_done (by kernel_rfl) ?_ _
              go_wp2
              go_ret
              exact ⟨rfl, HBZ.out⟩
            exact AllReadyH.nil
          exact AllReadyH.nil
        exact AllReadyH.nil
end Go.Proofs.Ytfeohcknopdamaa
