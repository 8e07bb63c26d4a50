import Derived.Test.YtcnjkdkkflpgnaaT36
/- Layer 8: the walk of ShelfMore. -/
namespace Go.Proofs.Ytcnjkdkkflpgnaa
open Go.RowKit Go.Maps
set_option linter.unusedVariables false

theorem curve_sl (zs : List Int) (A : Option Addr) (n c : Nat) (V : World) (h : Sl V A n c zs) (h1 : reqB zs 200 15 = true) :
    Calls Try.prog 26 #[.slice A n c] V fun e w' => (∃ A' c', e = .returned (.tuple #[.slice A' 8 c', .int .i64 0]) ∧ Sl w' A' 8 c' (cvL zs 8)) ∧ Below V.heap.size V w' := by
  refine (curve_any zs A n c V h).mono ?_
  rintro e w' ⟨⟨_, v, rfl, ho⟩ | ⟨e1, _⟩, hb⟩
  · obtain ⟨A', c', rfl, hs⟩ := ho.sl_of (cvL_len _ _) (by omega)
    exact ⟨⟨A', c', rfl, hs⟩, hb⟩
  · rw [h1] at e1; cases e1
theorem best_num (k : Int) (zs : List Int) (A : Option Addr) (n c : Nat) (V : World) (h : Sl V A n c zs) (h1 : reqB zs 200 15 = true) (h2 : placesB k = true) :
    Calls Try.prog 19 #[.slice A n c, .int .i64 k] V fun e w' => (∃ v, e = .returned (.tuple #[.int .i64 (rC (rkBest zs) k zs n), v, .int .i64 0])) ∧ Below V.heap.size V w' :=
  (run_best k zs A n c V h h1 h2).mono fun e w' ⟨⟨A', c', h, _⟩, hb⟩ => ⟨⟨_, h⟩, hb⟩
/-- The array of the pages that have been seen. -/
def SeenB (V : World) (b : Nat) (zs : List Int) (i : Nat) : Prop := ∃ cs, V.heap[b]? = some (.cells cs 58 (0, 0)) ∧ cs.size = 10 ∧ ∀ x : Nat, x < 10 → cs[x]? = some (.bool (decide ((x : Int) ∈ zs.take i)))
theorem take_step {zs : List Int} {i : Nat} (hi : i < zs.length) : zs.take (i + 1) = zs.take i ++ [atI zs i] := by
  rw [List.take_add_one, List.getElem?_eq_getElem hi]
  unfold atI
  rw [List.getElem?_eq_getElem hi]; rfl
theorem SeenB.same {V : World} {b : Nat} {zs : List Int} {i x : Nat} (h : SeenB V b zs i) (hi : i < zs.length) (hx : atI zs i = (x : Int)) (hm : (x : Int) ∈ zs.take i) : SeenB V b zs (i + 1) := by
  obtain ⟨cs, h1, h2, h3⟩ := h
  refine ⟨cs, h1, h2, fun y hy => ?_⟩
  rw [h3 y hy, take_step hi, hx]
  congr 2
  refine decide_eq_decide.2 ?_
  rw [List.mem_append, List.mem_singleton]
  exact ⟨.inl, fun e => e.elim id fun e => e ▸ hm⟩
theorem SeenB.add {V : World} {b : Nat} {zs : List Int} {i x : Nat} (h : SeenB V b zs i) (hi : i < zs.length) (hx : atI zs i = (x : Int)) (hx10 : x < 10) : SeenB (V.setCell ⟨b, x, none⟩ (.bool true)) b zs (i + 1) := by
  obtain ⟨cs, h1, h2, h3⟩ := h
  refine ⟨_, set_row1 h1, by rw [Array.size_setIfInBounds]; exact h2, fun y hy => ?_⟩
  rw [Array.getElem?_setIfInBounds, take_step hi, hx]
  by_cases e : x = y
  · rw [if_pos e, if_pos (by rw [h2]; exact hx10), e]
    congr 2
    exact (decide_eq_true (by simp)).symm
  · rw [if_neg e, h3 y hy]
    congr 2
    refine decide_eq_decide.2 ?_
    rw [List.mem_append, List.mem_singleton]
    exact ⟨.inl, fun e2 => e2.elim id fun e2 => absurd (by omega) e⟩
set_option maxRecDepth 100000 in
set_option maxHeartbeats 12800000 in
theorem more_walk (A : Option Addr) (n0 c0 : Nat) (xs0 : List Int) (x : Int) (w : World) (hx : Sl w A n0 c0 xs0) :
    Calls Try.prog 10 #[.slice A n0 c0, .int .i64 x] w fun e w' => e = .returned (.bool true) ∧ Below w.heap.size w w' := by
  have HTA := Lib.hid (tame_any A n0 c0 60 10 xs0 w hx (by omega) (by omega) (by omega))
  rw [show ((60 : Nat) : Int) = 60 from rfl, show ((10 : Nat) : Int) = 10 from rfl] at HTA
  have HM7 := Lib.hid (fun V => mod_any x 7 V (by omega) (by omega))
  clear hx
  go_enter Try.func10, Try.ntmps10
  go_upto_region 2 with (go_at_call 39; go_must (refine HTA.out.mono ?_); rintro e w1 ⟨⟨v, zs, rfl, ho, hl, hz⟩, hb⟩; obtain ⟨A1, c1, rfl, hs⟩ := ho.sl_of rfl (by omega); have HB1 := Lib.hid hb; have HZL := Lib.hid hl; have HZ := Lib.hid hz; have HS1 := Lib.hid hs; clear ho hl hz hs hb)
  obtain ⟨n, hn⟩ : ∃ n, n = zs.length := ⟨_, rfl⟩
  have HN := Lib.hid hn
  rw [← hn] at HS1 ⊢
  have hn60 : n ≤ 60 := by rw [hn]; exact HZL.out
  clear hn
  have HSL := Lib.hid (fun V (hV : Below w1.heap.size w1 V) => HS1.out.below hV (Nat.le_refl _))
  have hcap := HS1.out.cap
  go_upto_region 3 with (go_at_call 40; (with_reducible refine (HM7.out _).mono ?_); rintro e v1 ⟨⟨r0, rfl, hr⟩, rfl⟩; have HR0 := Lib.hid hr; have v0 : IntKind.i64.wrap (1 + (r0 : Int)) = 1 + (r0 : Int) := IntWalk.i64_in _ (by omega); clear hr)
  have hr7 : (r0 : Int) < 7 := HR0.out
  have hz16 : ∀ j, j < zs.length → 0 ≤ atI zs j ∧ atI zs j < 16 := fun j hj => by obtain ⟨r, e, h⟩ := HZ.out j hj; omega
  have hq1 := req_of (by rw [← HN.out]; omega) hz16
  have hk1 : (1 : Int) ≤ 1 + (r0 : Int) := by omega
  have hpk : placesB (1 + (r0 : Int)) = true := by
    unfold placesB
    rw [decide_eq_true (by omega), decide_eq_true (by omega)]; rfl
  have hpk2 : placesB (1 + (r0 : Int) + 1) = true := by
    unfold placesB
    rw [decide_eq_true (by omega), decide_eq_true (by omega)]; rfl
  have v2 : IntKind.i64.wrap (1 + (r0 : Int) + 1) = 1 + (r0 : Int) + 1 := IntWalk.i64_in _ (by omega)
  have v3 : IntKind.i64.wrap (1 + (r0 : Int) - 1) = (r0 : Int) := by rw [IntWalk.i64_in _ (by omega)]; omega
  have HCU := Lib.hid (fun V (hV : Below w1.heap.size w1 V) => curve_sl zs A1 n c1 V (HSL.out V hV) hq1)
  have HT1 := Lib.hid (fun V (hV : Below w1.heap.size w1 V) => best_num (1 + (r0 : Int)) zs A1 n c1 V (HSL.out V hV) hq1 hpk)
  have HT2 := Lib.hid (fun V (hV : Below w1.heap.size w1 V) => best_num (1 + (r0 : Int) + 1) zs A1 n c1 V (HSL.out V hV) hq1 hpk2)
  have hb1 := best_more hk1 hz16
  have hb2 : rC (rkBest zs) (1 + (r0 : Int)) zs zs.length ≤ cvA zs r0 := by
    obtain ⟨_, e2, e3⟩ := plan_run rkLast (zs := zs) hk1 zs.length (Nat.le_refl _)
    have h1 := best_least hk1 hz16 e3
    rw [e2, (way_same (st := 0) (rk := rkLast) (.inl ⟨rfl, rfl⟩) hk1 hz16).1] at h1
    unfold cvA
    rw [show ((r0 + 1 : Nat) : Int) = 1 + (r0 : Int) by omega]
    exact h1
  have HCV : Hid (∀ i, i < 8 → (cvL zs 8)[i]?.getD 0 = cvA zs i) := fun i hi => cvL_at hz16 hi
  obtain ⟨m1, m2, m3⟩ := more_all hz16
  have HCB := Lib.hid (fun i => cvA_le (zs := zs) i)
  have HM := Lib.hid (show (∀ i, 0 < i → cvA zs i ≤ cvA zs (i - 1)) ∧ (∀ i, ((mtE zs zs.length).length : Int) ≤ cvA zs i) ∧ (∀ i, (mtE zs zs.length).length ≤ i + 1 → cvA zs i = ((mtE zs zs.length).length : Int)) from ⟨m1, m2, m3⟩)
  have hmn : (mtE zs zs.length).length ≤ 60 := by
    have := m2 0
    have h5 := (cvA_le (zs := zs) 0).2
    have := HN.out
    omega
  have HMN := Lib.hid hmn
  have HR1 : Hid (rC (rkBest zs) (1 + (r0 : Int)) zs n ≤ (n : Int) ∧ 0 ≤ rC (rkBest zs) (1 + (r0 : Int)) zs n) := by have := rC_le (rkBest zs) (1 + (r0 : Int)) zs n; exact ⟨this.2, this.1⟩
  have HPR : Hid (∀ m, m + 1 = n → reqB (zs.take m) 200 15 = true ∧ (rC (rkBest (zs.take m)) (1 + (r0 : Int)) (zs.take m) m ≤ rC (rkBest zs) (1 + (r0 : Int)) zs n ∧ rC (rkBest zs) (1 + (r0 : Int)) zs n ≤ rC (rkBest (zs.take m)) (1 + (r0 : Int)) (zs.take m) m + 1) ∧ (∀ i, i < 8 → (cvL (zs.take m) 8)[i]?.getD 0 = cvA (zs.take m) i) ∧ ∀ i, cvA (zs.take m) i ≤ cvA zs i ∧ cvA zs i ≤ cvA (zs.take m) i + 1) := fun m hm => by
    have hl : (zs.take m).length = m := by rw [List.length_take, ← HN.out]; omega
    have hz2 : ∀ i, i < (zs.take m).length → 0 ≤ atI (zs.take m) i ∧ atI (zs.take m) i < 16 := fun i hi => by
      rw [hl] at hi
      rw [atI_take hi]; exact hz16 i (by rw [← HN.out]; omega)
    have hbp := best_pre hk1 hz16 (m := m) (by rw [← HN.out]; exact hm)
    rw [← HN.out] at hbp
    exact ⟨req_of (by rw [hl]; omega) hz2, hbp, fun i hi => cvL_at hz2 hi, fun i => cvA_pre (by rw [← HN.out]; exact hm) i⟩
  have HR00 : Hid (n = 0 → rC (rkBest zs) (1 + (r0 : Int)) zs n = 0) := fun e => by rw [e]; rfl
  rw [← HN.out] at hb1 hb2
  clear v0 hz16 hq1 hk1 hpk2 HR0 m1 m2 m3 hmn HTA HM7 HZL
  have HPK := Lib.hid hpk
  clear hpk
  have hx1 : ∃ C2, C2 = rC (rkBest zs) (1 + (r0 : Int)) zs n := ⟨_, rfl⟩
  obtain ⟨C2, hC2⟩ := hx1
  obtain ⟨C3, hC3⟩ : ∃ C3, C3 = rC (rkBest zs) (1 + (r0 : Int) + 1) zs n := ⟨_, rfl⟩
  rw [← hC2] at hb1 hb2 HT1 HPR HR00 HR1
  rw [← hC3] at hb1 HT2
  clear hC2 hC3
  go_upto_region 6 with (first
    | (go_at_call 26; (with_reducible refine (HCU.out _ (Below.refl _ _)).mono ?_); rintro e w2 ⟨⟨A2, c2, rfl, hs⟩, hb⟩; have HB2 := Lib.hid hb; have SC := Lib.hid hs; clear hs hb)
    | (go_at_call 19; (with_reducible refine (HT1.out _ HB2.out).mono ?_); rintro e w3 ⟨⟨v3', rfl⟩, hb⟩; have HB3 := Lib.hid (HB2.out.trans (hb.mono HB2.out.size)); have SC := Lib.hid (SC.out.below hb (Nat.le_refl _)); clear hb)
    | (go_at_call 19; (with_reducible refine (HT2.out _ HB3.out).mono ?_); rintro e w4 ⟨⟨v4', rfl⟩, hb⟩; have HB4 := Lib.hid (HB3.out.trans (hb.mono HB3.out.size)); have SC := Lib.hid (SC.out.below hb (Nat.le_refl _)); clear hb))
  clear HCU HT1 HT2
  have HSC := Lib.hid (fun V (hV : Below w4.heap.size w4 V) => SC.out.below hV (Nat.le_refl _))
  obtain ⟨bc, oc, rfl, hc0⟩ := SC.out.at_ (k := r0) (by omega)
  rw [HCV.out r0 (by omega)] at hc0
  have i7 : (r0 : Int) < 8 := by omega
  have g1 : ¬ C3 > C2 := by omega
  have g2 : ¬ C2 > cvA zs r0 := by omega
  have HCX : Hid (∀ V i, Below w4.heap.size w4 V → i < 8 → V.cell? ⟨bc, oc + i, none⟩ = some (.int .i64 (cvA zs i))) := fun V i hV hi => by
    obtain ⟨b3, o3, e3, hc3⟩ := (HSC.out V hV).at_ (k := i) hi
    have e3 := Option.some.inj e3
    injection e3 with e3 e4 _
    rw [← e3, ← e4, HCV.out i hi] at hc3
    exact hc3
  have HBZ4 : Hid (w1.heap.size ≤ w4.heap.size) := HB4.out.size
  clear SC HSC
  go_upto_region 8 with (fail)
  clear hc0 hb1 hb2 g1 g2
  go_upto_region 9 with (fail)
  obtain ⟨W5, hW5⟩ : ∃ X, X = w4.alloc (.cells #[.bool false, .bool false, .bool false, .bool false, .bool false, .bool false, .bool false, .bool false, .bool false, .bool false] 58) := ⟨_, rfl⟩
  rw [← hW5]
  have hb5 : Below w4.heap.size w4 W5 := by rw [hW5]; exact (Below.refl _ w4).alloc (Nat.le_refl _) _
  have HS5 : Hid (SeenB W5 w4.heap.size zs 0) := by
    refine ⟨_, by rw [hW5]; exact heap_alloc_new _ _, rfl, fun x hx => ?_⟩
    rw [List.take_zero, decide_eq_false (by simp)]
    rcases (by omega : x = 0 ∨ x = 1 ∨ x = 2 ∨ x = 3 ∨ x = 4 ∨ x = 5 ∨ x = 6 ∨ x = 7 ∨ x = 8 ∨ x = 9) with rfl | rfl | rfl | rfl | rfl | rfl | rfl | rfl | rfl | rfl <;> rfl
  have HB5 := Lib.hid hb5
  clear hW5 hb5
  obtain ⟨bs, hbs⟩ : ∃ q, q = w4.heap.size := ⟨_, rfl⟩
  rw [← hbs] at HS5 ⊢
  have HBS := Lib.hid hbs.symm
  clear hbs
  go_wp2
  go_loopw [15, 16] (fun p r w' => ∃ i : Nat, i ≤ n ∧ r = .int .i64 (i : Int) ∧ p = .int .i64 ((mtE zs i).length : Int) ∧ Hid (SeenB w' bs zs i) ∧ Hid (Below w4.heap.size w4 w')) (fun _ r _ => n - (intOf r).toNat)
  case atStart => exact ⟨0, Nat.zero_le _, by go_num, rfl, HS5.out, HB5.out⟩
  case round =>
    obtain ⟨i, hi, rfl, rfl, HSE, HB⟩ := hrel
    obtain ⟨wo, rfl⟩ : ∃ wo : World, wo = wr := ⟨_, rfl⟩
    clear HS5 HB5
    have HBW := Lib.hid (HB4.out.trans (HB.out.mono HBZ4.out))
    by_cases hlt : i < n
    · have i1 : (i : Int) < (n : Int) := by omega
      obtain ⟨b1, o1, rfl, hc1⟩ := (HSL.out wo HBW.out).at_ hlt
      have hiz : i < zs.length := by rw [← HN.out]; exact hlt
      obtain ⟨r, hr, hr10⟩ := HZ.out i hiz
      rw [show zs[i]?.getD 0 = atI zs i from rfl, hr] at hc1
      have r1 : (r : Int) < 10 := by omega
      have hml := mtE_len (zs := zs) i
      have hmm := mtE_mem (zs := zs) (atI zs i) i (by omega)
      obtain ⟨cs, hcs1, hcs2, hcs3⟩ := HSE.out
      have d1 : wo.cell? ⟨bs, r, none⟩ = some (.bool (decide ((r : Int) ∈ zs.take i))) := cell_in hcs1 (hcs3 r hr10)
      have f1 := frz (i := r) hcs1
      have hlen : (mtE zs i).length ≤ i := by
        have h5 := pages_le (zs := zs) (k := 1) (by omega) i (by omega)
        have h6 := (svC_le 0 (1 : Nat) zs i).2
        omega
      rw [hr] at hml hmm
      by_cases hin : (r : Int) ∈ zs.take i
      · have HS6 := Lib.hid (HSE.out.same hiz hr hin)
        rw [decide_eq_true hin] at d1
        rw [if_pos (hmm.2 hin), Nat.add_zero] at hml
        have HML := Lib.hid hml
        clear hin hmm hml hr hcs1 hcs2 hcs3 hiz hlen f1
        go_wp2
        exact ⟨⟨i + 1, by omega, by go_num, by rw [HML.out]; rfl, HS6.out, HB.out⟩, by simp [intOf]; omega⟩
      · have HS6 := Lib.hid (HSE.out.add hiz hr hr10)
        rw [decide_eq_false hin] at d1
        rw [if_neg (fun e => hin (hmm.1 e))] at hml
        have HML := Lib.hid hml
        have v5 : IntKind.i64.wrap (((mtE zs i).length : Int) + 1) = ((mtE zs i).length : Int) + 1 := IntWalk.i64_in _ (by omega)
        have HB6 : Hid (Below w4.heap.size w4 (wo.setCell ⟨bs, r, none⟩ (.bool true))) := HB.out.setCell (p := ⟨bs, r, none⟩) (by rw [HBS.out]; exact Nat.le_refl _) _
        clear hin hmm hml hr hcs1 hcs2 hcs3 hiz hlen
        go_wp2
        exact ⟨⟨i + 1, by omega, by go_num, by rw [HML.out]; rfl, HS6.out, HB6.out⟩, by simp [intOf]; omega⟩
    · have hin : i = n := by omega
      subst hin
      have i1 : ¬ (i : Int) < (i : Int) := by omega
      rw [show (mtE zs i).length = (mtE zs zs.length).length by rw [← HN.out]]
      have hpm := HMN.out
      generalize (mtE zs zs.length).length = pg at *
      clear HSE HZ
      go_wp2
      go_loopw [17] (fun r w' => ∃ j : Nat, j ≤ 8 ∧ r = .int .i64 (j : Int) ∧ Hid (Below w4.heap.size w4 w')) (fun r _ => 8 - (intOf r).toNat)
      case atStart => exact ⟨0, Nat.zero_le _, by go_num, HB.out⟩
      case round =>
        clear HB HBW
        obtain ⟨j, hj, rfl, HB⟩ := hrel
        obtain ⟨wi, rfl⟩ : ∃ wi : World, wi = wr := ⟨_, rfl⟩
        have HBW := Lib.hid (HB4.out.trans (HB.out.mono HBZ4.out))
        by_cases hjl : j < 8
        · have j1 : (j : Int) < 8 := by omega
          have hcj := HCX.out wi j HB.out hjl
          have hcm := HCX.out wi (j - 1) HB.out (by omega)
          have g2 : decide (cvA zs j < (pg : Int)) = false := decide_eq_false (by have := HM.out.2.1 j; omega)
          have v6 : IntKind.i64.wrap ((j : Int) + 1) = (j : Int) + 1 := IntWalk.i64_in _ (by omega)
          have hge : (j : Int) + 1 ≥ (pg : Int) → cvA zs j = (pg : Int) := fun e => HM.out.2.2 j (by omega)
          have hmo : 0 < j → ¬ cvA zs j > cvA zs (j - 1) := fun e => by have := HM.out.1 j e; omega
          have HGE := Lib.hid hge
          have HMO := Lib.hid hmo
          clear hge hmo
          generalize cvA zs j = cj at *
          generalize cvA zs (j - 1) = cm at *
          by_cases hj0 : 0 < j
          · have i3 : decide (0 < (j : Int)) = true := decide_eq_true (by omega)
            have i3' : decide (0 < j) = true := decide_eq_true hj0
            have g1 : decide (cm < cj) = false := decide_eq_false (HMO.out hj0)
            have v7 : IntKind.i64.wrap ((j : Int) - 1) = ((j - 1 : Nat) : Int) := by rw [IntWalk.i64_in _ (by omega)]; omega
            have i4 : ((j - 1 : Nat) : Int) < 8 := by omega
            obtain ⟨jm, hjm⟩ : ∃ q, q = j - 1 := ⟨_, rfl⟩
            rw [← hjm] at v7 i4 hcm
            clear hjm hj0
            by_cases hpg : (j : Int) + 1 ≥ (pg : Int)
            · have e1 : (cj != (pg : Int)) = false := by simp; exact HGE.out hpg
              have i5 : decide ((pg : Int) ≤ (j : Int) + 1) = true := decide_eq_true hpg
              clear hpg
              go_wp2
              go_quiet (fail)
              go_wp2
              exact ⟨⟨j + 1, by omega, by go_num, below_drewN HB.out⟩, by simp [intOf]; omega⟩
            · have i5 : decide ((pg : Int) ≤ (j : Int) + 1) = false := decide_eq_false hpg
              clear hpg
              go_wp2
              go_quiet (fail)
              go_wp2
              exact ⟨⟨j + 1, by omega, by go_num, below_drewN HB.out⟩, by simp [intOf]; omega⟩
          · have i3 : decide (0 < (j : Int)) = false := decide_eq_false (by omega)
            have i3' : decide (0 < j) = false := decide_eq_false hj0
            clear hj0 hcm
            by_cases hpg : (j : Int) + 1 ≥ (pg : Int)
            · have e1 : (cj != (pg : Int)) = false := by simp; exact HGE.out hpg
              have i5 : decide ((pg : Int) ≤ (j : Int) + 1) = true := decide_eq_true hpg
              clear hpg
              go_wp2
              go_quiet (fail)
              go_wp2
              exact ⟨⟨j + 1, by omega, by go_num, below_drewN HB.out⟩, by simp [intOf]; omega⟩
            · have i5 : decide ((pg : Int) ≤ (j : Int) + 1) = false := decide_eq_false hpg
              clear hpg
              go_wp2
              go_quiet (fail)
              go_wp2
              exact ⟨⟨j + 1, by omega, by go_num, below_drewN HB.out⟩, by simp [intOf]; omega⟩
        · have hj8 : j = 8 := by omega
          subst hj8
          have j1 : ¬ ((8 : Nat) : Int) < 8 := by omega
          by_cases hn0 : i = 0
          · have hc0 := HR00.out hn0
            subst hc0
            have i9 : ((i : Int) == 0) = true := by simp; omega
            clear hn0
            go_wp2_with (go_at_call 21; (with_reducible refine (awake_here _).mono ?_); rintro e w9 ⟨rfl, hb9⟩)
            go_ret
            exact ⟨rfl, HB1.out.trans ((HBW.out.trans (hb9.mono HBW.out.size)).mono HB1.out.size)⟩
          · have i9 : ((i : Int) == 0) = false := by simp; omega
            obtain ⟨m, hm⟩ : ∃ m, m + 1 = i := ⟨i - 1, by omega⟩
            obtain ⟨q1, ⟨d1, d2⟩, q3, q4⟩ := HPR.out m hm
            have v8 : IntKind.i64.wrap ((i : Int) - 1) = (m : Int) := by rw [IntWalk.i64_in _ (by omega)]; omega
            have hsl := fun W => slice_hd A1 i c1 (k := m) (by omega) hcap W
            have HSM := Lib.hid (fun V (hV : Below w1.heap.size w1 V) => (HSL.out V hV).take (by omega : m ≤ i))
            have HCL := Lib.hid (fun V (hV : Below w1.heap.size w1 V) => curve_sl (zs.take m) A1 m c1 V (HSM.out V hV) q1)
            have HBM := Lib.hid (fun V (hV : Below w1.heap.size w1 V) => best_num (1 + (r0 : Int)) (zs.take m) A1 m c1 V (HSM.out V hV) q1 HPK.out)
            have hD0 := rC_le (rkBest (zs.take m)) (1 + (r0 : Int)) (zs.take m) m
            have HQ3 := Lib.hid q3
            have HQ4 := Lib.hid q4
            have hm60 : m ≤ 60 := by omega
            clear hn0 hm q3 q4 q1 HPR HR00 HM HSM
            generalize rC (rkBest (zs.take m)) (1 + (r0 : Int)) (zs.take m) m = D at *
            have g3 : ¬ D > C2 := by omega
            have g4 : ¬ C2 > D + 1 := by omega
            have v9 : IntKind.i64.wrap (D + 1) = D + 1 := IntWalk.i64_in _ (by omega)
            go_upto_region 27 with (first
              | (go_at_call 26; (with_reducible refine (HCL.out _ HBW.out).mono ?_); rintro e w6 ⟨⟨A6, c6, rfl, hs⟩, hb⟩; have HB6 := Lib.hid (HBW.out.trans (hb.mono HBW.out.size)); have HE6 := Lib.hid hb; have SX := Lib.hid hs; clear hs hb)
              | (go_at_call 19; (with_reducible refine (HBM.out _ HB6.out).mono ?_); rintro e w7 ⟨⟨v7', rfl⟩, hb⟩; have HB7 := Lib.hid (HB6.out.trans (hb.mono HB6.out.size)); have SX := Lib.hid (SX.out.below hb (Nat.le_refl _)); have HE7 := Lib.hid (HE6.out.trans (hb.mono HE6.out.size)); clear hb))
            have HSXX := Lib.hid (fun V (hV : Below w7.heap.size w7 V) => SX.out.below hV (Nat.le_refl _))
            have HW47 : Hid (Below w4.heap.size w4 w7) := HB.out.trans (HE7.out.mono HB.out.size)
            clear SX HCL HBM HE6 HE7 HB6 hsl
            go_wp2
            go_loopw [23] (fun r w' => ∃ j : Nat, j ≤ 8 ∧ r = .int .i64 (j : Int) ∧ Hid (Below w7.heap.size w7 w')) (fun r _ => 8 - (intOf r).toNat)
            case atStart => exact ⟨0, Nat.zero_le _, by go_num, Below.refl _ _⟩
            case round =>
              obtain ⟨j, hj', rfl, HBX⟩ := hrel
              obtain ⟨wj, rfl⟩ : ∃ wj : World, wj = wr := ⟨_, rfl⟩
              by_cases hjl2 : j < 8
              · have j2 : (j : Int) < 8 := by omega
                obtain ⟨b6, o6, rfl, hc6⟩ := (HSXX.out wj HBX.out).at_ hjl2
                rw [HQ3.out j hjl2] at hc6
                have hcc := HCX.out wj j (HW47.out.trans (HBX.out.mono HW47.out.size)) hjl2
                obtain ⟨g5, g6⟩ := HQ4.out j
                have hbd := cvA_le (zs := zs.take m) j
                have hbl : (zs.take m).length ≤ 60 := by rw [List.length_take]; omega
                generalize cvA (zs.take m) j = lx at *
                generalize cvA zs j = cx at *
                have g7 : decide (cx < lx) = false := decide_eq_false (by omega)
                have g8 : decide (lx + 1 < cx) = false := decide_eq_false (by omega)
                have v10 : IntKind.i64.wrap (lx + 1) = lx + 1 := IntWalk.i64_in _ (by omega)
                clear g5 g6 hbd hbl
                go_wp2
                go_quiet (fail)
                go_wp2
                exact ⟨⟨j + 1, by omega, by go_num, below_drewN HBX.out⟩, by simp [intOf]; omega⟩
              · have hj8 : j = 8 := by omega
                subst hj8
                have j2 : ¬ ((8 : Nat) : Int) < 8 := by omega
                go_wp2_with (go_at_call 21; (with_reducible refine (awake_here _).mono ?_); rintro e w9 ⟨rfl, hb9⟩)
                go_ret
                have k1 := HB7.out.trans (HBX.out.mono HB7.out.size)
                exact ⟨rfl, HB1.out.trans ((k1.trans (hb9.mono k1.size)).mono HB1.out.size)⟩
end Go.Proofs.Ytcnjkdkkflpgnaa
