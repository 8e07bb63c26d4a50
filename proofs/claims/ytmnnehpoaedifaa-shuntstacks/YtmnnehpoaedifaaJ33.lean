import Derived.Test.YtmnnehpoaedifaaJ10
import Derived.Test.YtmnnehpoaedifaaJ31
import Derived.Test.YtmnnehpoaedifaaJ28
import Derived.Laws.StructEq
/- The law ShuntStacks, from what the program's functions promise. -/
namespace Go.Proofs.Ytmnnehpoaedifaa
open Go.RowKit
set_option linter.unusedVariables false

theorem run_size3 (w : World) : (sizeOf 3).run Try.prog w = .ok 1 w := by kernel_rfl
theorem run_part0 (w : World) (p q : Int) : (part 3 #[.int .i64 p, .int .i64 q] 0).run Try.prog w = .ok (.int .i64 p) w := by kernel_rfl
theorem run_part1 (w : World) (p q : Int) : (part 3 #[.int .i64 p, .int .i64 q] 1).run Try.prog w = .ok (.int .i64 q) w := by kernel_rfl
theorem run_equalIn_pair (w : World) (d : Nat) (p q : Int) : (Op.equalIn (d + 2) 50 (.agg #[.int .i64 p, .int .i64 q]) (.agg #[.int .i64 p, .int .i64 q])).run Try.prog w = .ok true w := by
  rw [Op.equalIn]
  simp only [Sem.run_bind, run_underlying Try.underlying50, Result.andThen_ok, run_size3]
  simp [Std.Legacy.Range.forIn_eq_forIn_range', show List.range' 0 2 = [0, 1] from rfl, List.forIn_cons, run_part0, run_part1, run_equalIn_int w d 3 .i64 .i64 _ _ Try.underlying3, Result.andThen]
theorem run_neq_pair (w : World) (p q : Int) : (binOp .neq 50 (.agg #[.int .i64 p, .int .i64 q]) (.agg #[.int .i64 p, .int .i64 q])).run Try.prog w = .ok (.bool false) w := by
  simp only [binOp]
  simp [Op.equal, Op.maxDepth, run_equalIn_pair w 9998 p q]
/-- A slice of pairs. -/
structure Sl2 (w : World) (A : Option Addr) (L : Nat) (ps : List (Nat × Nat)) : Prop where
  len : ps.length = L
  at_ : 0 < L → ∃ g, A = some ⟨g, 0, none⟩ ∧ g < w.heap.size ∧ ∀ k, k < L → w.cell? ⟨g, k * 2, none⟩ = some (.int .i64 ((ps[k]?.getD (0, 0)).1 : Nat)) ∧ w.cell? ⟨g, k * 2 + 1, none⟩ = some (.int .i64 ((ps[k]?.getD (0, 0)).2 : Nat))
theorem Sl2.below {w w' : World} {A : Option Addr} {L B : Nat} {ps : List (Nat × Nat)} (h : Sl2 w A L ps) (hb : Below B w w') (hB : w.heap.size ≤ B) : Sl2 w' A L ps :=
  ⟨h.len, fun h0 => by
    obtain ⟨g, e, hg, hc⟩ := h.at_ h0
    exact ⟨g, e, Nat.lt_of_lt_of_le hg hb.size, fun k hk => ⟨(hb.cell (p := ⟨g, k * 2, none⟩) (show g < B by omega)).trans (hc k hk).1, (hb.cell (p := ⟨g, k * 2 + 1, none⟩) (show g < B by omega)).trans (hc k hk).2⟩⟩⟩
theorem Ow2.sl2 {w : World} {B e : Nat} {v : Value} {ps : List (Nat × Nat)} {L : Nat} (h : Ow2 w B e v ps) (hL : ps.length = L) : ∃ A c, v = .slice A L c ∧ Sl2 w A L ps := by
  obtain ⟨A, c, rfl⟩ := h.sl hL
  refine ⟨A, c, rfl, hL, fun h0 => ?_⟩
  obtain ⟨g, cap, hv, hg, hc⟩ := h.form hL h0
  injection hv with h1 _ _
  exact ⟨g, h1, hg, hc⟩

set_option maxHeartbeats 1600000 in
theorem stacks_bad (hA : AwakeOk) (hS : StacksOk) (hF : ConflictsOk) (hC : CheckStacksOk) (A : Option Addr) (n c : Nat) (zs : List Int) (w : World) (hs : Sl w A n c zs) (m : Nat) (o : List Int) (hm : m = min n 61) (hoe : o = zs.take 61) (hlen : o.length = m) (hm61 : m ≤ 61)
    (hbe : false = ordB o 60) :
    Calls Try.prog 7 #[.slice A n c] w fun e w' => e = .returned (.bool true) ∧ Below w.heap.size w w' := by
  have HA := Lib.hid hA; clear hA
  have HQ := Lib.hid hS; clear hS
  have HF := Lib.hid hF; clear hF
  have HC := Lib.hid hC; clear hC
  have HL := Lib.hid (list_sl A n c zs w hs m o hm hoe); clear hs hm hoe
  have HBE := Lib.hid hbe; clear hbe
  go_enter Try.func7, Try.ntmps7
  go_wp2_with (go_at_call 18; refine HL.out.mono ?_; rintro e w1 ⟨B, d, rfl, hsl, hb1⟩)
  go_wp2_with (go_at_call 32; refine (HQ.out B m d o w1 hsl).mono ?_; rintro e w2 ⟨u, v, x, s, b, rfl, hou, hov, y1, y2, h1, z1, z2, hb2⟩; clear y1 y2 z1 z2; obtain ⟨rfl, rfl, rfl⟩ := h1 HBE.out.symm; clear h1; obtain ⟨U, u', rfl, hu2⟩ := hou.sl_len (n := 0) rfl (by omega); obtain ⟨V, v', rfl, hv2⟩ := hov.sl_len (n := 0) rfl (by omega))
  have hsl2 := hsl.below hb2 (Nat.le_refl _)
  go_wp2_with (go_at_call 33; refine (HF.out B m d o w2 hsl2).mono ?_; rintro e w3 ⟨t, y, l, rfl, how, h1, z1, hb3⟩; clear z1; obtain ⟨rfl, rfl⟩ := h1 HBE.out.symm; clear h1; obtain ⟨T, t', rfl⟩ := how.sl (L := 0) rfl; clear how)
  have hsl3 := hsl2.below hb3 (Nat.le_refl _)
  have hu3 := hu2.below hb3 (Nat.le_refl _)
  have hv3 := hv2.below hb3 (Nat.le_refl _)
  have HO := Lib.hid (order_sl B m d o w3 hsl3 (by omega) false HBE.out)
  go_wp2_with (go_at_call 20; refine HO.out.mono ?_; rintro e w4 ⟨rfl, hb4⟩)
  have hsl4 := hsl3.below hb4 (Nat.le_refl _)
  have hu4 := hu3.below hb4 (Nat.le_refl _)
  have hv4 := hv3.below hb4 (Nat.le_refl _)
  have HK : Hid (Calls Try.prog 34 #[.slice B m d, .slice U 0 u', .slice V 0 v'] w4 fun e w' => e = .returned (.int .i64 2) ∧ Below w4.heap.size w4 w') := by
    have h := HC.out B U V m d 0 u' 0 v' o [] [] w4 hsl4 hu4 hv4 (by omega) (by omega)
    rw [show checkStacksOf o [] [] = 2 from by unfold checkStacksOf; rw [if_pos HBE.out.symm]] at h
    exact h
  go_wp2_with (first | (go_at_call 34; refine HK.out.mono ?_; rintro e w5 ⟨rfl, hb5⟩) | (go_at_call 22; refine (HA.out _).mono ?_; rintro e w6 ⟨rfl, hb6⟩))
  go_ret
  exact ⟨rfl, ((((Kp.call hb1 hb2).call hb3).call hb4).call hb5).call hb6⟩
set_option maxHeartbeats 1600000 in
theorem stacks_yes (hA : AwakeOk) (hS : StacksOk) (hF : ConflictsOk) (hC : CheckStacksOk) (A : Option Addr) (n c : Nat) (zs : List Int) (w : World) (hs : Sl w A n c zs) (m : Nat) (o : List Int) (hm : m = min n 61) (hoe : o = zs.take 61) (hlen : o.length = m) (hm61 : m ≤ 61)
    (hbe : true = ordB o 60) (htw : true = twoB o) :
    Calls Try.prog 7 #[.slice A n c] w fun e w' => e = .returned (.bool true) ∧ Below w.heap.size w w' := by
  have HA := Lib.hid hA; clear hA
  have HQ := Lib.hid hS; clear hS
  have HF := Lib.hid hF; clear hF
  have HC := Lib.hid hC; clear hC
  have HL := Lib.hid (list_sl A n c zs w hs m o hm hoe); clear hs hm hoe
  have HN : Hid (m ≤ 60) := by
    obtain ⟨_, h⟩ := ordB_iff.1 hbe.symm
    rw [Hid]; omega
  have HBE := Lib.hid hbe; clear hbe
  have HTW := Lib.hid htw; clear htw
  obtain ⟨L, hL⟩ : ∃ L, (confAll o m).length = L := ⟨_, rfl⟩
  have HLL := Lib.hid hL; clear hL
  have hLb : L ≤ 3721 := by
    have h1 := confAll_len o m
    have h2 : m * o.length ≤ 61 * 61 := Nat.mul_le_mul hm61 (by omega)
    rw [HLL.out] at h1
    omega
  go_enter Try.func7, Try.ntmps7
  go_wp2_with (go_at_call 18; refine HL.out.mono ?_; rintro e w1 ⟨B, d, rfl, hsl, hb1⟩)
  go_wp2_with (go_at_call 32; refine (HQ.out B m d o w1 hsl).mono ?_; rintro e w2 ⟨u, v, x, s, b, rfl, hou, hov, y1, y2, z1, h1, z2, hb2⟩; clear y2 z1 z2; obtain ⟨hp, rfl, rfl⟩ := h1 HBE.out.symm HTW.out.symm; clear h1; have HP := Lib.hid hp; clear hp; obtain ⟨q, hq⟩ : ∃ q, s.length = q := ⟨_, rfl⟩; obtain ⟨U, u', rfl, hu2⟩ := hou.sl_len hq (by omega); obtain ⟨V, v', rfl, hv2⟩ := hov.sl_len (n := 0) rfl (by omega); rw [hq] at y1; clear hq)
  have hsl2 := hsl.below hb2 (Nat.le_refl _)
  go_wp2_with (go_at_call 33; refine (HF.out B m d o w2 hsl2).mono ?_; rintro e w3 ⟨t, y, l, rfl, how, z1, h1, hb3⟩; clear z1; obtain ⟨rfl, rfl⟩ := h1 HBE.out.symm; clear h1; obtain ⟨T, t', rfl, ht3⟩ := how.sl2 HLL.out; clear how)
  have hsl3 := hsl2.below hb3 (Nat.le_refl _)
  have hu3 := hu2.below hb3 (Nat.le_refl _)
  have hv3 := hv2.below hb3 (Nat.le_refl _)
  have HO := Lib.hid (order_sl B m d o w3 hsl3 (by omega) true HBE.out)
  go_wp2_with (go_at_call 20; refine HO.out.mono ?_; rintro e w4 ⟨rfl, hb4⟩)
  have hsl4 := hsl3.below hb4 (Nat.le_refl _)
  have hu4 := hu3.below hb4 (Nat.le_refl _)
  have hv4 := hv3.below hb4 (Nat.le_refl _)
  have ht4 := ht3.below hb4 (Nat.le_refl _)
  have HRC := Lib.hid (conflicts_any B m d o w4 hsl4 (by omega))
  go_wp2_with (go_at_call 35; refine HRC.out.mono ?_; rintro e w5 ⟨r, rfl, how, hb5⟩; obtain ⟨R, r', rfl, hr5⟩ := how.sl2 HLL.out; clear how)
  have hsl5 := hsl4.below hb5 (Nat.le_refl _)
  have hu5 := hu4.below hb5 (Nat.le_refl _)
  have hv5 := hv4.below hb5 (Nat.le_refl _)
  have ht5 := ht4.below hb5 (Nat.le_refl _)
  have HK : Hid (Calls Try.prog 34 #[.slice B m d, .slice U q u', .slice V 0 v'] w5 fun e w' => e = .returned (.int .i64 0) ∧ Below w5.heap.size w5 w') := by
    have h := HC.out B U V m d q u' 0 v' o s [] w5 hsl5 hu5 hv5 (by omega) (by omega)
    rw [show checkStacksOf o s [] = 0 from by unfold checkStacksOf; rw [if_neg (by rw [← HBE.out]; simp), if_pos (.inl ⟨HP.out, rfl⟩)]] at h
    exact h
  go_wp2_with (go_at_call 34; refine HK.out.mono ?_; rintro e w6 ⟨rfl, hb6⟩)
  have HSL := Lib.hid (hsl5.below hb6 (Nat.le_refl _))
  have HU6 := Lib.hid (hu5.below hb6 (Nat.le_refl _))
  have HV6 := Lib.hid (hv5.below hb6 (Nat.le_refl _))
  have HT6 := Lib.hid (ht5.below hb6 (Nat.le_refl _))
  have HR6 := Lib.hid (hr5.below hb6 (Nat.le_refl _))
  have hkp := ((((Kp.call hb1 hb2).call hb3).call hb4).call hb5).call hb6
  clear hsl hsl2 hsl3 hsl4 hsl5 hu2 hu3 hu4 hu5 hv2 hv3 hv4 hv5 ht3 ht4 ht5 hr5 hb1 hb2 hb3 hb4 hb5 hb6 hou hov HK HRC HO HL HQ HF HC
  go_loopw [10] (fun i w' => ∃ j : Nat, j ≤ L ∧ i = .int .i64 (j : Int) ∧ Dr w6 w') (fun i _ => L - (intOf i).toNat)
  case atStart => exact ⟨0, by omega, by go_num, Dr.refl _⟩
  case round =>
    obtain ⟨j, hj, rfl, hD⟩ := hrel
    by_cases hlt : j < L
    · obtain ⟨g1, rfl, _, hc1⟩ := HT6.out.at_ (by omega)
      obtain ⟨g2, rfl, _, hc2⟩ := HR6.out.at_ (by omega)
      obtain ⟨a1, a2⟩ := hc1 j hlt
      obtain ⟨b1, b2⟩ := hc2 j hlt
      have a1 := (hD.cell _).trans a1
      have a2 := (hD.cell _).trans a2
      have b1 := (hD.cell _).trans b1
      have b2 := (hD.cell _).trans b2
      clear hc1 hc2
      generalize (((confAll o m)[j]?.getD (0, 0)).1 : Nat) = p at *
      generalize (((confAll o m)[j]?.getD (0, 0)).2 : Nat) = r at *
      have hqq := fun W => run_neq_pair W (p : Int) (r : Int)
      go_wp2
      go_quiet (fail)
      clear hqq
      go_wp2
      go_roundw
      case rel => exact ⟨j + 1, by omega, by go_num, hD.more _⟩
      case measure => simp [intOf]; omega
    · obtain rfl : j = L := by omega
      have hkp2 := hkp.call (hD.below _)
      have HTS := Lib.hid (twoStacks_any B m d o wr (HSL.out.dr hD) (by omega))
      rw [← HTW.out] at HTS
      have HSS : Hid (∀ W, Below wr.heap.size wr W → Calls Try.prog 37 #[.slice B m d, .slice U q u'] W fun e w' => e = .returned (.bool true) ∧ Below W.heap.size W w') := fun W h => by
        have h2 := sidesSort_any B U m d q u' o s W ((HSL.out.dr hD).below h (Nat.le_refl _)) ((HU6.out.dr hD).below h (Nat.le_refl _)) (by omega)
        rw [HP.out] at h2
        exact h2
      go_wp2_with (first | (go_at_call 36; refine HTS.out.mono ?_; rintro e w7 ⟨rfl, hb7⟩) | (go_at_call 37; refine (HSS.out _ hb7).mono ?_; rintro e w8 ⟨rfl, hb8⟩) | (go_at_call 22; refine (HA.out _).mono ?_; rintro e w9 ⟨rfl, hb9⟩))
      go_ret
      exact ⟨rfl, ((hkp2.call hb7).call hb8).call hb9⟩
set_option maxHeartbeats 1600000 in
theorem stacks_no (hA : AwakeOk) (hS : StacksOk) (hF : ConflictsOk) (hC : CheckStacksOk) (A : Option Addr) (n c : Nat) (zs : List Int) (w : World) (hs : Sl w A n c zs) (m : Nat) (o : List Int) (hm : m = min n 61) (hoe : o = zs.take 61) (hlen : o.length = m) (hm61 : m ≤ 61)
    (hbe : true = ordB o 60) (htw : false = twoB o) :
    Calls Try.prog 7 #[.slice A n c] w fun e w' => e = .returned (.bool true) ∧ Below w.heap.size w w' := by
  have HA := Lib.hid hA; clear hA
  have HQ := Lib.hid hS; clear hS
  have HF := Lib.hid hF; clear hF
  have HC := Lib.hid hC; clear hC
  have HL := Lib.hid (list_sl A n c zs w hs m o hm hoe); clear hs hm hoe
  have HN : Hid (m ≤ 60) := by
    obtain ⟨_, h⟩ := ordB_iff.1 hbe.symm
    rw [Hid]; omega
  have HN0 : Hid (∀ b, tblockB o b = true → 0 < o.length) := fun b h => tblock_some h
  have HBE := Lib.hid hbe; clear hbe
  have HTW := Lib.hid htw; clear htw
  obtain ⟨L, hL⟩ : ∃ L, (confAll o m).length = L := ⟨_, rfl⟩
  have HLL := Lib.hid hL; clear hL
  have hLb : L ≤ 3721 := by
    have h1 := confAll_len o m
    have h2 : m * o.length ≤ 61 * 61 := Nat.mul_le_mul hm61 (by omega)
    rw [HLL.out] at h1
    omega
  go_enter Try.func7, Try.ntmps7
  go_wp2_with (go_at_call 18; refine HL.out.mono ?_; rintro e w1 ⟨B, d, rfl, hsl, hb1⟩)
  go_wp2_with (go_at_call 32; refine (HQ.out B m d o w1 hsl).mono ?_; rintro e w2 ⟨u, v, x, s, b, rfl, hou, hov, y1, y2, z1, z2, h1, hb2⟩; clear y1 z1 z2; obtain ⟨rfl, hp, rfl⟩ := h1 HBE.out.symm HTW.out.symm; clear h1; have HP := Lib.hid hp; clear hp; obtain ⟨q, hq⟩ : ∃ q, b.length = q := ⟨_, rfl⟩; obtain ⟨V, v', rfl, hv2⟩ := hov.sl_len hq (by omega); obtain ⟨U, u', rfl, hu2⟩ := hou.sl_len (n := 0) rfl (by omega); rw [hq] at y2; clear hq)
  have hsl2 := hsl.below hb2 (Nat.le_refl _)
  go_wp2_with (go_at_call 33; refine (HF.out B m d o w2 hsl2).mono ?_; rintro e w3 ⟨t, y, l, rfl, how, z1, h1, hb3⟩; clear z1; obtain ⟨rfl, rfl⟩ := h1 HBE.out.symm; clear h1; obtain ⟨T, t', rfl, ht3⟩ := how.sl2 HLL.out; clear how)
  have hsl3 := hsl2.below hb3 (Nat.le_refl _)
  have hu3 := hu2.below hb3 (Nat.le_refl _)
  have hv3 := hv2.below hb3 (Nat.le_refl _)
  have HO := Lib.hid (order_sl B m d o w3 hsl3 (by omega) true HBE.out)
  go_wp2_with (go_at_call 20; refine HO.out.mono ?_; rintro e w4 ⟨rfl, hb4⟩)
  have hsl4 := hsl3.below hb4 (Nat.le_refl _)
  have hu4 := hu3.below hb4 (Nat.le_refl _)
  have hv4 := hv3.below hb4 (Nat.le_refl _)
  have ht4 := ht3.below hb4 (Nat.le_refl _)
  have HRC := Lib.hid (conflicts_any B m d o w4 hsl4 (by omega))
  go_wp2_with (go_at_call 35; refine HRC.out.mono ?_; rintro e w5 ⟨r, rfl, how, hb5⟩; obtain ⟨R, r', rfl, hr5⟩ := how.sl2 HLL.out; clear how)
  have hsl5 := hsl4.below hb5 (Nat.le_refl _)
  have hu5 := hu4.below hb5 (Nat.le_refl _)
  have hv5 := hv4.below hb5 (Nat.le_refl _)
  have ht5 := ht4.below hb5 (Nat.le_refl _)
  have HK : Hid (Calls Try.prog 34 #[.slice B m d, .slice U 0 u', .slice V q v'] w5 fun e w' => e = .returned (.int .i64 0) ∧ Below w5.heap.size w5 w') := by
    have h := HC.out B U V m d 0 u' q v' o [] b w5 hsl5 hu5 hv5 (by omega) (by omega)
    rw [show checkStacksOf o [] b = 0 from by unfold checkStacksOf; rw [if_neg (by rw [← HBE.out]; simp), if_pos (.inr ⟨rfl, HN0.out _ HP.out, HP.out⟩)]] at h
    exact h
  go_wp2_with (go_at_call 34; refine HK.out.mono ?_; rintro e w6 ⟨rfl, hb6⟩)
  have HSL := Lib.hid (hsl5.below hb6 (Nat.le_refl _))
  have HU6 := Lib.hid (hu5.below hb6 (Nat.le_refl _))
  have HV6 := Lib.hid (hv5.below hb6 (Nat.le_refl _))
  have HT6 := Lib.hid (ht5.below hb6 (Nat.le_refl _))
  have HR6 := Lib.hid (hr5.below hb6 (Nat.le_refl _))
  have hkp := ((((Kp.call hb1 hb2).call hb3).call hb4).call hb5).call hb6
  clear hsl hsl2 hsl3 hsl4 hsl5 hu2 hu3 hu4 hu5 hv2 hv3 hv4 hv5 ht3 ht4 ht5 hr5 hb1 hb2 hb3 hb4 hb5 hb6 hou hov HK HRC HO HL HQ HF HC
  go_loopw [10] (fun i w' => ∃ j : Nat, j ≤ L ∧ i = .int .i64 (j : Int) ∧ Dr w6 w') (fun i _ => L - (intOf i).toNat)
  case atStart => exact ⟨0, by omega, by go_num, Dr.refl _⟩
  case round =>
    obtain ⟨j, hj, rfl, hD⟩ := hrel
    by_cases hlt : j < L
    · obtain ⟨g1, rfl, _, hc1⟩ := HT6.out.at_ (by omega)
      obtain ⟨g2, rfl, _, hc2⟩ := HR6.out.at_ (by omega)
      obtain ⟨a1, a2⟩ := hc1 j hlt
      obtain ⟨b1, b2⟩ := hc2 j hlt
      have a1 := (hD.cell _).trans a1
      have a2 := (hD.cell _).trans a2
      have b1 := (hD.cell _).trans b1
      have b2 := (hD.cell _).trans b2
      clear hc1 hc2
      generalize (((confAll o m)[j]?.getD (0, 0)).1 : Nat) = p at *
      generalize (((confAll o m)[j]?.getD (0, 0)).2 : Nat) = r at *
      have hqq := fun W => run_neq_pair W (p : Int) (r : Int)
      go_wp2
      go_quiet (fail)
      clear hqq
      go_wp2
      go_roundw
      case rel => exact ⟨j + 1, by omega, by go_num, hD.more _⟩
      case measure => simp [intOf]; omega
    · obtain rfl : j = L := by omega
      have hkp2 := hkp.call (hD.below _)
      have HTS := Lib.hid (twoStacks_any B m d o wr (HSL.out.dr hD) (by omega))
      rw [← HTW.out] at HTS
      have HSS : Hid (∀ W, Below wr.heap.size wr W → Calls Try.prog 38 #[.slice B m d, .slice V q v'] W fun e w' => e = .returned (.bool true) ∧ Dr W w') := fun W h => by
        have h2 := stacksBlock_any B V m d q v' o b W ((HSL.out.dr hD).below h (Nat.le_refl _)) ((HV6.out.dr hD).below h (Nat.le_refl _)) (by omega) (by omega)
        rw [HP.out] at h2
        exact h2
      go_wp2_with (first | (go_at_call 36; refine HTS.out.mono ?_; rintro e w7 ⟨rfl, hb7⟩) | (go_at_call 38; refine (HSS.out _ hb7).mono ?_; rintro e w8 ⟨rfl, hd8⟩) | (go_at_call 22; refine (HA.out _).mono ?_; rintro e w9 ⟨rfl, hb9⟩))
      go_ret
      exact ⟨rfl, ((hkp2.call hb7).call (hd8.below _)).call hb9⟩
theorem stacks_law (hA : AwakeOk) (hS : StacksOk) (hF : ConflictsOk) (hC : CheckStacksOk) (A : Option Addr) (n c : Nat) (zs : List Int) (w : World) (hs : Sl w A n c zs) :
    Calls Try.prog 7 #[.slice A n c] w fun e w' => e = .returned (.bool true) ∧ Below w.heap.size w w' := by
  obtain ⟨m, o, hm, hoe, hlen, h61⟩ := list_has hs
  cases hb : ordB o 60 with
  | false => exact stacks_bad hA hS hF hC A n c zs w hs m o hm hoe hlen h61 hb.symm
  | true =>
    cases ht : twoB o with
    | true => exact stacks_yes hA hS hF hC A n c zs w hs m o hm hoe hlen h61 hb.symm ht.symm
    | false => exact stacks_no hA hS hF hC A n c zs w hs m o hm hoe hlen h61 hb.symm ht.symm
end Go.Proofs.Ytmnnehpoaedifaa
