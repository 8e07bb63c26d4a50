import Derived.Test.YtcnjkdkkflpgnaaT47
import Derived.Test.YtcnjkdkkflpgnaaT45
import Derived.Test.YtcnjkdkkflpgnaaT39
import Derived.Deep.RegionHeldLaw
/- Layer 8: the walk of ShelfFront. -/
namespace Go.Proofs.Ytcnjkdkkflpgnaa
open Go.RowKit Go.Maps
set_option linter.unusedVariables false

set_option maxRecDepth 100000 in
set_option maxHeartbeats 12800000 in
theorem front_walk (x : Int) (A1 A2 : Option Addr) (n1 n2 c1 c2 : Nat) (xs0 : List Int) (R : List (List Int)) (w : World) (wx : (Lit.int .i64 x).wf = true) (h1 : Sl w A1 n1 c1 xs0) (h2 : Sll w A2 n2 c2 R) :
    Calls Try.prog 12 #[.int .i64 x, .slice A1 n1 c1, .slice A2 n2 c2] w fun e w' => e = .returned (.bool true) ∧ Below w.heap.size w w' := by
  have HM5 := Lib.hid (fun V => mod_any x 5 V (by omega) (by omega))
  have HX := Lib.hid h1
  have HSR := Lib.hid (fun V (hV : Below w.heap.size w V) => h2.below hV (Nat.le_refl _))
  clear h1 h2
  go_enter Try.func12, Try.ntmps12
  go_upto_region 2 with (go_at_call 40; go_must (with_reducible refine (HM5.out _).mono ?_); rintro e v1 ⟨⟨r, rfl, hr⟩, rfl⟩; have HR := Lib.hid hr; have v0 : IntKind.i64.wrap (1 + (r : Int)) = 1 + (r : Int) := IntWalk.i64_in _ (by omega); clear hr)
  obtain ⟨m, hm⟩ : ∃ m : Nat, m = 1 + r := ⟨_, rfl⟩
  have hm1 : 1 ≤ m := by omega
  have hm5 : m ≤ 5 := by have := HR.out; omega
  have hm6 : m ≤ 6 := by omega
  rw [show 1 + (r : Int) = (m : Int) by omega]
  clear hm v0 HR HM5
  have HTA := Lib.hid (tame_any A1 n1 c1 20 m xs0 w HX.out (by omega) (by omega) (by omega))
  rw [show ((20 : Nat) : Int) = 20 from rfl] at HTA
  go_upto_region 3 with (go_at_call 39; go_must (refine HTA.out.mono ?_); rintro e w1 ⟨⟨v, zs, rfl, ho, hl, hz⟩, hb⟩; obtain ⟨A3, c3, rfl, hs⟩ := ho.sl_of rfl (by omega); have HB1 := Lib.hid hb; have HZL := Lib.hid hl; have HZ := Lib.hid hz; have HS1 := Lib.hid hs; clear ho hl hz hs hb)
  obtain ⟨n, hn⟩ : ∃ n, n = zs.length := ⟨_, rfl⟩
  have HN : Hid (zs.length = n) := hn.symm
  rw [← hn] at HS1 ⊢
  have hn20 : n ≤ 20 := by rw [hn]; exact HZL.out
  have HZZ : Hid (∀ i, i < n → ∃ r : Nat, atI zs i = (r : Int) ∧ r < m) := fun i hi => HZ.out i (by rw [HN.out]; exact hi)
  have HZB : Hid (∀ i, i < zs.length → ∃ r : Nat, atI zs i = (r : Int) ∧ r < m) := HZ.out
  clear hn HTA HX HZ HZL
  have HSL := Lib.hid (fun V (hV : Below w1.heap.size w1 V) => HS1.out.below hV (Nat.le_refl _))
  have HHI := Lib.hid (histories_any R A2 n2 c2 m n w1 (HSR.out _ HB1.out) hm1 hm6 (by omega))
  go_upto_region 4 with (go_at_call 42; go_must (refine HHI.out.mono ?_); rintro e w2 ⟨⟨v, rows, rfl, hh, hl, hp⟩, hb⟩; have HH2 := Lib.hid hh; have HPP := Lib.hid hp; have HLR := Lib.hid hl; have HB2 := Lib.hid hb; clear hh hl hp hb)
  obtain ⟨A5, c5, rfl, hs5⟩ := HH2.out.sll HLR.out (by omega) (fun k hk => by rw [(HPP.out k hk).length_eq, startL_len]; omega)
  have hhis : hisB m rows n = true := hisB_good HLR.out (fun k hk => perm_okO (HPP.out k hk))
  have HFN := Lib.hid (front_sl m n c3 zs A3 w2 (HSL.out _ HB2.out) hm1 hm6 (by omega) HZB.out)
  have HID := Lib.hid (fun V (hV : Below w1.heap.size w1 V) => ideal_hst m n c3 zs A3 V (HSL.out _ hV) hm1 hm6 (by omega) HZB.out)
  have HC1 := Lib.hid (fun V (hV : Below w2.heap.size w2 V) => cost_his m zs rows A3 A5 n c3 c5 V (HSL.out _ (HB2.out.trans (hV.mono HB2.out.size))) (hs5.below hV (Nat.le_refl _)) hm1 hm6 (by omega) HZZ.out hhis)
  have hI1 := ideal_le hm1 hm6 HN.out HZZ.out hhis
  have hhI := ideal_his hm1 hm6 HN.out HZZ.out
  have hI2 := ideal_is hm1 hm6 HN.out HZZ.out
  have hF2 := front_le hm6 HN.out HZZ.out hhI
  rw [hI2] at hF2
  have hmh := move_his hm6 HZB.out
  have hmc := move_cost hm6 HZB.out zs.length (Nat.le_refl _)
  rw [HN.out] at hmh hmc
  have hF1 := ideal_le hm1 hm6 HN.out HZZ.out hmh
  rw [hmc] at hF1
  have hG := cst_ge hm6 (hisB_parts hhI).2 HZZ.out n (Nat.le_refl _)
  rw [hI2] at hG
  have hIB := cstF_bd hm6 (hisB_parts hhI).2 HZZ.out n (Nat.le_refl _)
  rw [hI2] at hIB
  have HC2 : Hid (∀ V (A6 : Option Addr) c6, Below w1.heap.size w1 V → Sll V A6 n c6 (idL m zs n) → Calls Try.prog 35 #[.int .i64 (m : Int), .slice A3 n c3, .slice A6 n c6] V fun e w' => e = .returned (.tuple #[.int .i64 (idN m zs), .int .i64 0]) ∧ Below V.heap.size V w') := fun V A6 c6 hV h6 => by
    have := cost_his m zs (idL m zs n) A3 A6 n c3 c6 V (HSL.out _ hV) h6 hm1 hm6 (by omega) HZZ.out hhI
    rw [hI2] at this
    exact this
  have HIL : Hid ((idL m zs n).length = n ∧ ∀ k, k < n → (ordAt (idL m zs n) k).length ≤ 1099511627776) := ⟨by simp [idL], fun k hk => Nat.le_trans (idL_small m zs n k hm6) (by omega)⟩
  have HOK := Lib.hid (frM_ok hm6 HZB.out (k := n) (by rw [HN.out]; exact Nat.le_refl _))
  have HFI : Hid (∀ k, k + 1 = n → atI (frO zs (startL m) n) 0 = atI zs k) := fun k hk => front_first hm6 HN.out HZZ.out hk
  generalize cstF zs rows n = C at *
  generalize idN m zs = I at *
  generalize frC zs (startL m) n = F at *
  generalize idL m zs n = il at *
  generalize frO zs (startL m) n = fo at *
  have v3 : IntKind.i64.wrap (2 * I) = 2 * I := IntWalk.i64_in _ (by omega)
  have g1 : (I != I) = false := by simp
  have g2 : ¬ C < I := by omega
  have g3 : ¬ F < I := by omega
  have g4 : ¬ F > 2 * I := by omega
  have g5 : ¬ I < (n : Int) := by omega
  clear hs5 hhis hI1 hhI hI2 hF2 hmh hmc hF1 hG hIB HHI HH2 HPP HLR HSR
  go_upto_region 8 with (first
    | (go_at_call 29; (with_reducible refine HFN.out.mono ?_); rintro e w3 ⟨⟨v, rfl, hv⟩, hb⟩; obtain ⟨A8, c8, rfl, hs8⟩ := hv.sl_len (n := m) (okO_rolls HOK.out).1 (by omega); have HS8 := Lib.hid hs8; have HE3 := Lib.hid hb; have HW3 := Lib.hid (HB2.out.trans (hb.mono HB2.out.size)); clear hv hs8 hb)
    | (go_at_call 30; (with_reducible refine (HID.out _ HW3.out).mono ?_); rintro e w4 ⟨⟨v, rfl, hv⟩, hb⟩; obtain ⟨A6, c6, rfl, hs6⟩ := hv.sll HIL.out.1 (by omega) HIL.out.2; have HS6 := Lib.hid hs6; have HE4 := Lib.hid (HE3.out.trans (hb.mono HE3.out.size)); have HW4 := Lib.hid (HW3.out.trans (hb.mono HW3.out.size)); have HS8 := Lib.hid (HS8.out.below hb (Nat.le_refl _)); clear hv hs6 hb)
    | (go_at_call 35; (with_reducible refine (HC1.out _ HE4.out).mono ?_); rintro e w5 ⟨rfl, hb⟩; have HE5 := Lib.hid (HE4.out.trans (hb.mono HE4.out.size)); have HW5 := Lib.hid (HW4.out.trans (hb.mono HW4.out.size)); have HS8 := Lib.hid (HS8.out.below hb (Nat.le_refl _)); have HS6 := Lib.hid (HS6.out.below hb (Nat.le_refl _)); clear hb)
    | (go_at_call 35; (with_reducible refine (HC2.out _ _ _ HW5.out HS6.out).mono ?_); rintro e w6 ⟨rfl, hb⟩; have HW6 := Lib.hid (HW5.out.trans (hb.mono HW5.out.size)); have HS8 := Lib.hid (HS8.out.below hb (Nat.le_refl _)); clear hb))
  have HOR : Hid (Calls Try.prog 37 #[.slice A8 m c8, .int .i64 (m : Int)] w6 fun e w' => e = .returned (.bool true) ∧ Dr w6 w') := by
    have := orderR_any fo (m : Int) A8 m c8 w6 HS8.out
    rw [ordB_okO, HOK.out] at this
    exact this
  clear HFN HID HC1 HC2 HIL HS6 HE3 HE4 HE5
  go_upto_region 10 with (go_at_call 37; refine HOR.out.mono ?_; rintro e w7 ⟨rfl, hd⟩; have HW7 := Lib.hid (HW6.out.trans (hd.below _)); have HS8 := Lib.hid (HS8.out.below (hd.below w6.heap.size) (Nat.le_refl _)); clear hd)
  have HWD : Hid (Below w1.heap.size w1 w7.drew) := HW7.out.drew
  clear HOR g1 g2 g3 g4 g5 v3
  by_cases hn0 : n = 0
  · have i9 : ((n : Int) == 0) = true := by simp; omega
    have i9a : (n == 0) = true := by simp; omega
    have i9b : decide (n = 0) = true := decide_eq_true hn0
    have i9c : decide ((n : Int) = 0) = true := decide_eq_true (by omega)
    clear hn0
    refine wp_region_held_drew (S := fun V => w1.heap.size ≤ V.heap.size) (by kernel_rfl) HWD.out.size (fun hHeld => ?_)
    generalize w7.drew = V0 at *
    refine wpAnyH_takeX (i := 0) (v := ?_) (by simp only [↓List.getElem?_toArray, ↓List.getElem?_cons_zero]; rfl) (by kernel_rfl) (by kernel_rfl) (by kernel_rfl) (by assumption) ?_ ?_ ?_
    rotate_left
    · exact fun _ _ _ h => h
    · exact Or.inl ⟨by rfl, by (intro V hV; (try dsimp only at hV); go_simp; try with_reducible rfl)⟩
    simp only [Act.put, List.setIfInBounds_toArray, List.set_cons_zero, List.set_cons_succ]
    refine wpAnyH_takeX (i := 1) (v := ?_) (by simp only [↓List.getElem?_toArray, ↓List.getElem?_cons_succ, ↓List.getElem?_cons_zero]; rfl) (by kernel_rfl) (by kernel_rfl) (by kernel_rfl) (by assumption) ?_ ?_ ?_
    rotate_left
    · exact fun _ _ _ h => h
    · exact Or.inl ⟨by rfl, by (intro V hV; (try dsimp only at hV); go_simp; try with_reducible rfl)⟩
    simp only [Act.put, List.setIfInBounds_toArray, List.set_cons_zero, List.set_cons_succ]
    refine wpAnyH_takeX (i := 2) (v := ?_) (by simp only [↓List.getElem?_toArray, ↓List.getElem?_cons_succ, ↓List.getElem?_cons_zero]; rfl) (by kernel_rfl) (by kernel_rfl) (by kernel_rfl) (by assumption) ?_ ?_ ?_
    rotate_left
    · exact fun _ _ _ h => h
    · exact Or.inl ⟨by rfl, by (intro V hV; (try dsimp only at hV); go_simp; try with_reducible rfl)⟩
    simp only [Act.put, List.setIfInBounds_toArray, List.set_cons_zero, List.set_cons_succ]
    refine wpAnyH_takeX (i := 3) (v := ?_) (by simp only [↓List.getElem?_toArray, ↓List.getElem?_cons_succ, ↓List.getElem?_cons_zero]; rfl) (by kernel_rfl) (by kernel_rfl) (by kernel_rfl) (by assumption) ?_ ?_ ?_
    rotate_left
    · exact fun _ _ _ h => h
    · exact Or.inl ⟨by rfl, by (intro V hV; (try dsimp only at hV); go_simp; try with_reducible rfl)⟩
    simp only [Act.put, List.setIfInBounds_toArray, List.set_cons_zero, List.set_cons_succ]
    refine wpAnyH_takeX (i := 4) (v := undef) (by simp only [↓List.getElem?_toArray, ↓List.getElem?_cons_succ, ↓List.getElem?_cons_zero]; rfl) (by kernel_rfl) (by kernel_rfl) (by kernel_rfl) (by assumption) ?_ ?_ ?_
    · exact fun _ _ _ h => h
    · exact Or.inr ⟨by rfl, rfl⟩
    simp only [Act.put, List.setIfInBounds_toArray, List.set_cons_zero, List.set_cons_succ]
    refine wpAnyH_takeX (i := 5) (v := undef) (by simp only [↓List.getElem?_toArray, ↓List.getElem?_cons_succ, ↓List.getElem?_cons_zero]; rfl) (by kernel_rfl) (by kernel_rfl) (by kernel_rfl) (by assumption) ?_ ?_ ?_
    · exact fun _ _ _ h => h
    · exact Or.inr ⟨by rfl, rfl⟩
    simp only [Act.put, List.setIfInBounds_toArray, List.set_cons_zero, List.set_cons_succ]
    refine wpAnyH_takeX (i := 6) (v := undef) (by simp only [↓List.getElem?_toArray, ↓List.getElem?_cons_succ, ↓List.getElem?_cons_zero]; rfl) (by kernel_rfl) (by kernel_rfl) (by kernel_rfl) (by assumption) ?_ ?_ ?_
    · exact fun _ _ _ h => h
    · exact Or.inr ⟨by rfl, rfl⟩
    simp only [Act.put, List.setIfInBounds_toArray, List.set_cons_zero, List.set_cons_succ]
    refine wpAnyH_takeX (i := 7) (v := undef) (by simp only [↓List.getElem?_toArray, ↓List.getElem?_cons_succ, ↓List.getElem?_cons_zero]; rfl) (by kernel_rfl) (by kernel_rfl) (by kernel_rfl) (by assumption) ?_ ?_ ?_
    · exact fun _ _ _ h => h
    · exact Or.inr ⟨by rfl, rfl⟩
    simp only [Act.put, List.setIfInBounds_toArray, List.set_cons_zero, List.set_cons_succ]
    refine wpAnyH_takeX (i := 8) (v := undef) (by simp only [↓List.getElem?_toArray, ↓List.getElem?_cons_succ, ↓List.getElem?_cons_zero]; rfl) (by kernel_rfl) (by kernel_rfl) (by kernel_rfl) (by assumption) ?_ ?_ ?_
    · exact fun _ _ _ h => h
    · exact Or.inr ⟨by rfl, rfl⟩
    simp only [Act.put, List.setIfInBounds_toArray, List.set_cons_zero, List.set_cons_succ]
    refine wpAnyH_takeX (i := 9) (v := undef) (by simp only [↓List.getElem?_toArray, ↓List.getElem?_cons_succ, ↓List.getElem?_cons_zero]; rfl) (by kernel_rfl) (by kernel_rfl) (by kernel_rfl) (by assumption) ?_ ?_ ?_
    · exact fun _ _ _ h => h
    · exact Or.inr ⟨by rfl, rfl⟩
    simp only [Act.put, List.setIfInBounds_toArray, List.set_cons_zero, List.set_cons_succ]
    refine wpAnyH_takeX (i := 10) (v := undef) (by simp only [↓List.getElem?_toArray, ↓List.getElem?_cons_succ, ↓List.getElem?_cons_zero]; rfl) (by kernel_rfl) (by kernel_rfl) (by kernel_rfl) (by assumption) ?_ ?_ ?_
    · exact fun _ _ _ h => h
    · exact Or.inr ⟨by rfl, rfl⟩
    simp only [Act.put, List.setIfInBounds_toArray, List.set_cons_zero, List.set_cons_succ]
    refine wpAnyH_takeX (i := 11) (v := undef) (by simp only [↓List.getElem?_toArray, ↓List.getElem?_cons_succ, ↓List.getElem?_cons_zero]; rfl) (by kernel_rfl) (by kernel_rfl) (by kernel_rfl) (by assumption) ?_ ?_ ?_
    · exact fun _ _ _ h => h
    · exact Or.inr ⟨by rfl, rfl⟩
    simp only [Act.put, List.setIfInBounds_toArray, List.set_cons_zero, List.set_cons_succ]
    refine wpAnyH_takeX (i := 12) (v := undef) (by simp only [↓List.getElem?_toArray, ↓List.getElem?_cons_succ, ↓List.getElem?_cons_zero]; rfl) (by kernel_rfl) (by kernel_rfl) (by kernel_rfl) (by assumption) ?_ ?_ ?_
    · exact fun _ _ _ h => h
    · exact Or.inr ⟨by rfl, rfl⟩
    simp only [Act.put, List.setIfInBounds_toArray, List.set_cons_zero, List.set_cons_succ]
    refine wpAnyH_takeX (i := 13) (v := undef) (by simp only [↓List.getElem?_toArray, ↓List.getElem?_cons_succ, ↓List.getElem?_cons_zero]; rfl) (by kernel_rfl) (by kernel_rfl) (by kernel_rfl) (by assumption) ?_ ?_ ?_
    · exact fun _ _ _ h => h
    · exact Or.inr ⟨by rfl, rfl⟩
    simp only [Act.put, List.setIfInBounds_toArray, List.set_cons_zero, List.set_cons_succ]
    refine wpAnyH_takeX (i := 14) (v := ?_) (by simp only [↓List.getElem?_toArray, ↓List.getElem?_cons_succ, ↓List.getElem?_cons_zero]; rfl) (by kernel_rfl) (by kernel_rfl) (by kernel_rfl) (by assumption) ?_ ?_ ?_
    rotate_left
    · exact fun _ _ _ h => h
    · exact Or.inl ⟨by rfl, by (intro V hV; (try dsimp only at hV); go_simp; try with_reducible rfl)⟩
    simp only [Act.put, List.setIfInBounds_toArray, List.set_cons_zero, List.set_cons_succ]
    refine wpAnyH_takeX (i := 15) (v := ?_) (by simp only [↓List.getElem?_toArray, ↓List.getElem?_cons_succ, ↓List.getElem?_cons_zero]; rfl) (by kernel_rfl) (by kernel_rfl) (by kernel_rfl) (by assumption) ?_ ?_ ?_
    rotate_left
    · exact fun _ _ _ h => h
    · exact Or.inl ⟨by rfl, by (intro V hV; (try dsimp only at hV); go_simp; try with_reducible rfl)⟩
    simp only [Act.put, List.setIfInBounds_toArray, List.set_cons_zero, List.set_cons_succ]
    refine wpAnyH_ready (rs := [16]) (by kernel_rfl) (by simp) ?_
    refine AllReadyH.cons rfl (fun K hK => ?_) ?_
    rotate_left
    · exact AllReadyH.nil
    go_simp
    go_wp2_with (go_at_call 21; (with_reducible refine (awake_here _).mono ?_); rintro e w9 ⟨rfl, hb⟩; have HW9 := Lib.hid (HWD.out.trans (hb.mono HWD.out.size)); clear hb)
    refine hK.out _ _ HW9.out.size (fun hHeld => ?_)
    clear hK K
    try simp only [Act.put, List.setIfInBounds_toArray, List.set_cons_zero, List.set_cons_succ]
    refine wpAnyH_takeX (i := 17) (v := ?_) (by simp only [↓List.getElem?_toArray, ↓List.getElem?_cons_succ, ↓List.getElem?_cons_zero]; rfl) (by kernel_rfl) (by kernel_rfl) (by kernel_rfl) (by assumption) ?_ ?_ ?_
    rotate_left
    · exact fun _ _ _ h => h
    · exact Or.inl ⟨by rfl, by (intro V hV; (try dsimp only at hV); go_simp; try with_reducible rfl)⟩
    simp only [Act.put, List.setIfInBounds_toArray, List.set_cons_zero, List.set_cons_succ]
    refine wpAnyH_takeX (i := 18) (v := ?_) (by simp only [↓List.getElem?_toArray, ↓List.getElem?_cons_succ, ↓List.getElem?_cons_zero]; rfl) (by kernel_rfl) (by kernel_rfl) (by kernel_rfl) (by assumption) ?_ ?_ ?_
    rotate_left
    · exact fun _ _ _ h => h
    · exact Or.inl ⟨by rfl, by (intro V hV; (try dsimp only at hV); go_simp; try with_reducible rfl)⟩
    simp only [Act.put, List.setIfInBounds_toArray, List.set_cons_zero, List.set_cons_succ]
    refine wpAnyH_done (by kernel_rfl) ?_ _
    go_wp2
    go_ret
    exact ⟨rfl, HB1.out.trans (HW9.out.mono HB1.out.size)⟩
  · have i9 : ((n : Int) == 0) = false := by simp; omega
    have i9a : (n == 0) = false := by simp; omega
    have i9b : decide (n = 0) = false := decide_eq_false hn0
    have i9c : decide ((n : Int) = 0) = false := decide_eq_false (by omega)
    obtain ⟨k, hk⟩ : ∃ k, k + 1 = n := ⟨n - 1, by omega⟩
    have v5 : IntKind.i64.wrap ((n : Int) - 1) = (k : Int) := by rw [IntWalk.i64_in _ (by omega)]; omega
    have i5 : (k : Int) < (n : Int) := by omega
    have i6 : (0 : Int) < (m : Int) := by omega
    have hfi := HFI.out k hk
    obtain ⟨b8, o8, rfl, hc8⟩ := (HS8.out.below ((Below.refl w7.heap.size w7).drew) (Nat.le_refl _)).at_ (k := 0) (by omega)
    rw [Nat.add_zero, show fo[0]?.getD 0 = atI fo 0 from rfl, hfi] at hc8
    obtain ⟨b3, o3, rfl, hc3⟩ := (HSL.out _ HWD.out).at_ (k := k) (by omega)
    rw [show zs[k]?.getD 0 = atI zs k from rfl] at hc3
    generalize atI zs k = z at *
    have g6 : (z == z) = true := by simp
    have HSS : Hid (w7.drew.cell? ⟨b8, o8, none⟩ = some (.int .i64 z) ∧ w7.drew.cell? ⟨b3, o3 + k, none⟩ = some (.int .i64 z)) := ⟨hc8, hc3⟩
    clear hk hfi hc8 hc3 HFI
    go_region_held_law (fun V => V.cell? ⟨b8, o8, none⟩ = some (.int .i64 z) ∧ V.cell? ⟨b3, o3 + k, none⟩ = some (.int .i64 z)) (first | assumption | exact HSS.out | exact HS9.out) (first
      | (go_at_call 21; go_must (with_reducible refine (awake_here _).mono ?_); rintro e w9 ⟨rfl, hb⟩; have HW9 := Lib.hid (HWD.out.trans (hb.mono HWD.out.size)); have HS9 : Hid (w9.cell? ⟨b8, o8, none⟩ = some (.int .i64 z) ∧ w9.cell? ⟨b3, o3 + k, none⟩ = some (.int .i64 z)) := ⟨(hb.cell (p := ⟨b8, o8, none⟩) (cell_lt HSS.out.1)).trans HSS.out.1, (hb.cell (p := ⟨b3, o3 + k, none⟩) (cell_lt HSS.out.2)).trans HSS.out.2⟩; clear hb))
    all_goals (go_wp2; go_ret; exact ⟨rfl, HB1.out.trans (HW9.out.mono HB1.out.size)⟩)
end Go.Proofs.Ytcnjkdkkflpgnaa
