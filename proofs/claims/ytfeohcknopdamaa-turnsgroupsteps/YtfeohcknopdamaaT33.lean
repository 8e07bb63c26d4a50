import Derived.Test.YtfeohcknopdamaaT32
import Derived.Test.YtfeohcknopdamaaT19
/- Layer 10: TurnsGroupSteps (written by gen_groups3.py). -/
namespace Go.Proofs.Ytfeohcknopdamaa
open Go.RowKit
set_option linter.unusedVariables false

theorem lexL_at : ∀ (xs ys : List Int), lexL xs ys → ∃ j, j < xs.length ∧ j < ys.length ∧ (∀ i, i < j → atI xs i = atI ys i) ∧ atI xs j < atI ys j
  | [], _, h => h.elim
  | _ :: _, [], h => h.elim
  | x :: xs, y :: ys, h => by
    rcases h with h | ⟨rfl, h⟩
    · exact ⟨0, by simp, by simp, fun i hi => absurd hi (Nat.not_lt_zero _), h⟩
    · obtain ⟨j, h1, h2, h3, h4⟩ := lexL_at xs ys h
      refine ⟨j + 1, by simpa using h1, by simpa using h2, fun i hi => ?_, h4⟩
      match i, hi with
      | 0, _ => rfl
      | i + 1, hi => exact h3 i (by omega)
theorem sumF_mono (f : Nat → Nat) : ∀ d n, sumF f n ≤ sumF f (n + d)
  | 0, n => Nat.le_refl _
  | d + 1, n => Nat.le_trans (sumF_mono f d n) (by show _ ≤ sumF f (n + d) + f (n + d); omega)
def bellF (n k : Nat) : Nat := chs n k * wy k 0
set_option maxRecDepth 100000 in
set_option maxHeartbeats 6400000 in
theorem groupSteps_walk (n0 a0 : Int) (w : World) :
    Calls Try.prog 11 #[.int .i64 n0, .int .i64 a0] w fun e w' => e = .returned (.bool true) ∧ Below w.heap.size w w' := by
  go_enter Try.func11, Try.ntmps11
  go_upto_region 2 with (go_at_call 52; refine (mod_big n0 20 _ (by omega) (by omega)).mono ?_; rintro e w1 ⟨⟨r, rfl, hr⟩, rfl⟩)
  obtain ⟨N, hN⟩ : ∃ N : Nat, N = r + 1 := ⟨_, rfl⟩
  rw [show 1 + (r : Int) = (N : Int) by omega]
  have hN1 : 1 ≤ N := by omega
  have hN20 : N ≤ 20 := by omega
  clear hN hr
  obtain ⟨N1, hN1'⟩ : ∃ N1, N = N1 + 1 := ⟨N - 1, by omega⟩
  have hwp := wy_pos N 0
  have hwb := wy_le (l := N) (g := 0) (by omega)
  have HGS := Lib.hid (fun V => groupings_ok N V hN20)
  have HBELL : Hid (wy N 0 = sumF (bellF N1) N) := by rw [Hid, hN1']; exact wy_bell N1
  have HGR := Lib.hid (fun V (b : Nat) (hb : b < wy N 0) => grouping_ok N b V hN20 hb)
  have HGR2 : Hid (∀ V (b : Nat), b + 1 < wy N 0 → Calls Try.prog 38 #[.int .i64 (N : Int), .int .i64 ((b : Int) + 1)] V fun e w' => (∃ A' c', e = .returned (.tuple #[.slice A' N c', .int .i64 0]) ∧ Sl w' A' N c' (gF N 0 (b + 1))) ∧ Below V.heap.size V w') := fun V b hb => grouping_ok N (b + 1) V hN20 hb
  have HGB : Hid (∀ b : Nat, b < wy N 0 → grpB (gF N 0 b) = true) := fun b hb => by
    rw [grpB, gF_len, gF_gr N 0 b hb, decide_eq_true hN20]; rfl
  have HGA : Hid (∀ V A c (b : Nat), Sl V A N c (gF N 0 b) → b < wy N 0 → Calls Try.prog 39 #[.slice A N c] V fun e w' => e = .returned (.tuple #[.int .i64 (b : Int), .int .i64 0]) ∧ Below V.heap.size V w') := fun V A c b hs hb => by
    have := groupingAt_ok (gF N 0 b) A N c V hs (HGB.out b hb)
    rw [gP_gF N 0 b hb] at this
    exact this
  have HRB : Hid (∀ V A c (b : Nat), Sl V A N c (gF N 0 b) → b < wy N 0 → Calls Try.prog 43 #[.slice A N c] V fun e w' => e = .returned (.bool true) ∧ V = w') := fun V A c b hs hb => by
    have := groupingsR_any (gF N 0 b) A N c V hs
    rw [HGB.out b hb] at this
    exact this
  have HLX := Lib.hid (fun (b : Nat) (hb : b + 1 < wy N 0) => lexL_at _ _ (gF_lex N 0 b hb))
  have HFL := Lib.hid (fun b => gF_len N 0 b)
  have HLAST : Hid (atI (gF N 0 (wy N 0 - 1)) N1 = (N1 : Int)) := by
    rw [Hid, gF_last, atI_get (by simp; omega), List.getElem_map, List.getElem_range, Nat.zero_add]
  have HMA := Lib.hid (fun V => mod_big a0 (wy N 0) V hwp (by omega))
  have HMN := Lib.hid (fun V k (hk : k < N) => many_ok N1 k V (by omega) (by omega))
  have HGK := Lib.hid (fun V k (hk : k < N) => groupings_ok k V (by omega))
  have HMONO := Lib.hid (fun k (hk : k < N) => sumF_mono (bellF N1) (N - (k + 1)) (k + 1))
  have V0 : Hid (IntKind.i64.wrap ((N : Int) - 1) = (N1 : Int)) := by rw [Hid, show (N : Int) - 1 = (N1 : Int) by omega]; exact IntWalk.i64_in _ (by omega)
  have HN1 := Lib.hid hN1'
  clear hN1'
  generalize hq : wy N 0 = q at *
  have HQ := Lib.hid hq
  have d0 : decide ((q : Int) < 1) = false := decide_eq_false (by omega)
  have d0' : decide (q < 1) = false := decide_eq_false (by omega)
  have d0'' : decide (q = 0) = false := decide_eq_false (by omega)
  have d0n : ¬ q = 0 := by omega
  clear hq
  go_wp2_with (go_at_call 40; (with_reducible refine (HGS.out w).mono ?_); rintro e w2 ⟨rfl, hb⟩; have HBA := Lib.hid hb; clear hb)
  clear d0 d0' d0'' d0n
  go_loopw [7, 8] (fun s i w' => ∃ k : Nat, k ≤ N ∧ i = .int .i64 (k : Int) ∧ s = .int .i64 ((sumF (bellF N1) k : Nat) : Int) ∧ Hid (Below w.heap.size w w')) (fun _ i _ => N - (intOf i).toNat)
  case atStart => exact ⟨0, Nat.zero_le _, by go_num, rfl, HBA.out⟩
  case round =>
    obtain ⟨k, hk, rfl, rfl, HB⟩ := hrel
    obtain ⟨wo, rfl⟩ : ∃ wo : World, wo = wr := ⟨_, rfl⟩
    clear HBA
    by_cases hlt : k < N
    · have i1 : (k : Int) < (N : Int) := by omega
      have hmono := HMONO.out k hlt
      rw [show k + 1 + (N - (k + 1)) = N by omega, ← HBELL.out] at hmono
      have hst : sumF (bellF N1) (k + 1) = sumF (bellF N1) k + chs N1 k * wy k 0 := rfl
      rw [hst] at hmono
      have HST := Lib.hid hst
      have HM1 := Lib.hid (fun V => HMN.out V k hlt)
      have HM2 := Lib.hid (fun V => HGK.out V k hlt)
      clear hst
      generalize sumF (bellF N1) k = s at *
      generalize chs N1 k = x at *
      generalize wy k 0 = y at *
      have V1 : Hid (IntKind.i64.wrap ((x : Int) * (y : Int)) = ((x * y : Nat) : Int)) := by rw [Hid, ← Int.natCast_mul]; exact IntWalk.i64_in _ (by omega)
      have V2 : Hid (IntKind.i64.wrap ((s : Int) + ((x * y : Nat) : Int)) = ((s + x * y : Nat) : Int)) := by rw [Hid, ← Int.natCast_add]; exact IntWalk.i64_in _ (by omega)
      clear hmono
      generalize x * y = p at *
      have v0 := V0.out
      have v1 := V1.out
      have v2 := V2.out
      go_wp2_with (first | (go_at_call 26; (with_reducible refine (HM1.out _).mono ?_); rintro e w3 ⟨rfl, hb⟩; have HB3 := Lib.hid (HB.out.trans (hb.mono HB.out.size)); clear hb) | (go_at_call 40; (with_reducible refine (HM2.out _).mono ?_); rintro e w4 ⟨rfl, hb⟩; have HB4 := Lib.hid (HB3.out.trans (hb.mono HB3.out.size)); clear hb))
      clear v0 v1 v2
      exact ⟨⟨k + 1, by omega, by go_num, by rw [HST.out, Int.natCast_add], HB4.out⟩, by simp [intOf]; omega⟩
    · have hkN : k = N := by omega
      have i1 : ¬ (k : Int) < (N : Int) := by omega
      have HSQ : Hid (sumF (bellF N1) k = q) := by rw [Hid, hkN, HBELL.out]
      rw [HSQ.out]
      have HL0 : Hid (Sls wo []) := fun _ h => by cases h
      have HB0 := HB
      clear hkN HSQ HGS HBELL HMN HGK HMONO
      go_upto_region 15 with (go_at_call 52; (with_reducible refine (HMA.out _).mono ?_); rintro e w' ⟨⟨b, rfl, hb0⟩, rfl⟩)
      have v0 := V0.out
      by_cases hb1 : b + 1 < q
      · have d1 : ((b : Int) == (q : Int) - 1) = false := by rw [beq_eq_false_iff_ne]; omega
        have HLJ := Lib.hid (HLX.out b hb1)
        go_wp2_with (first
          | (go_at_call 38; (with_reducible refine (HGR.out _ b hb0).mono ?_); rintro e w1 ⟨⟨A1, c1, rfl, hs⟩, hb⟩; have HL1 := Lib.hid ((HL0.out.below hb).push hs); have HB1 := Lib.hid (HB0.out.trans (hb.mono HB0.out.size)); clear hs hb)
          | (go_at_call 39; (with_reducible refine (HGA.out _ _ _ b HL1.out.hd hb0).mono ?_); rintro e w2 ⟨rfl, hb⟩; have HL2 := Lib.hid ((HL1.out.below hb)); have HB2 := Lib.hid (HB1.out.trans (hb.mono HB1.out.size)); clear hb)
          | (go_at_call 43; (with_reducible refine (HRB.out _ _ _ b HL2.out.hd hb0).mono ?_); rintro e w' ⟨rfl, rfl⟩)
          | (go_at_call 38; (with_reducible refine (HGR2.out _ b hb1).mono ?_); rintro e w3 ⟨⟨A3, c3, rfl, hs⟩, hb⟩; have HL3 := Lib.hid ((HL2.out.below hb).push hs); have HB3 := Lib.hid (HB2.out.trans (hb.mono HB2.out.size)); clear hs hb))
        clear d1 v0
        obtain ⟨j, hj1, hj2, hj3, hj4⟩ := HLJ.out
        rw [HFL.out] at hj1
        have HX := Lib.hid (fun V (hV : Dr w3 V) => HL3.out.tl.hd.dr hV)
        have HY := Lib.hid (fun V (hV : Dr w3 V) => HL3.out.hd.dr hV)
        have HJ3 := Lib.hid hj3
        have HJ4 := Lib.hid hj4
        clear hj2 hj3 hj4 HLJ HLX HGR HGR2 HGB HGA HRB HL0 HL1 HL2 HL3 HMA HLAST HFL
        generalize gF N 0 (b + 1) = ys at *
        generalize gF N 0 b = xs at *
        go_loopw [19] (fun i w' => ∃ i' : Nat, i' ≤ j ∧ i = .int .i64 (i' : Int) ∧ Hid (Dr w3 w')) (fun i _ => j - (intOf i).toNat)
        case atStart => exact ⟨0, Nat.zero_le _, by go_num, Dr.refl _⟩
        case round =>
          obtain ⟨i, hi, rfl, HDR⟩ := hrel
          obtain ⟨wi, rfl⟩ : ∃ wi : World, wi = wr := ⟨_, rfl⟩
          have i2 : (i : Int) < (N : Int) := by omega
          have hx1 := (HX.out wi HDR.out).at_ (k := i) (by omega)
          have hy1 := (HY.out wi HDR.out).at_ (k := i) (by omega)
          rw [show xs[i]?.getD 0 = atI xs i from rfl] at hx1
          rw [show ys[i]?.getD 0 = atI ys i from rfl] at hy1
          by_cases hij : i < j
          · have he := HJ3.out i hij
            rw [← he] at hy1
            clear he
            generalize atI xs i = x at *
            obtain ⟨b1, o1, rfl, e1⟩ := hx1
            obtain ⟨b2, o2, rfl, e2⟩ := hy1
            have n1 : (x != x) = false := by simp
            go_wp2
            go_quiet (fail)
            go_wp2
            exact ⟨⟨i + 1, by omega, by go_num, HDR.out.more _⟩, by simp [intOf]; omega⟩
          · obtain rfl : i = j := by omega
            have hlt := HJ4.out
            generalize atI xs i = x at *
            generalize atI ys i = y at *
            have n1 : (x != y) = true := by rw [bne_iff_ne]; omega
            have n2 : decide (x < y) = true := decide_eq_true hlt
            obtain ⟨b1, o1, rfl, e1⟩ := hx1
            obtain ⟨b2, o2, rfl, e2⟩ := hy1
            go_wp2
            go_quiet (fail)
            go_upto_region 28 with (fail)
            have HBQ : Hid (Below w.heap.size w (wi.drewN nq)) := HB3.out.trans (((HDR.out.more nq).below w3.heap.size).mono HB3.out.size)
            have q1 : (wi.drewN nq).cell? ⟨b1, o1 + i, none⟩ = some (.int .i64 x) := e1
            have q2 : (wi.drewN nq).cell? ⟨b2, o2 + i, none⟩ = some (.int .i64 y) := e2
            clear e1 e2
            generalize wi.drewN nq = wq at *
            go_region_with (go_at_call 19; (with_reducible refine (awake_here _).mono ?_); rintro e w9 ⟨rfl, hb⟩; have HB9 := Lib.hid (HBQ.out.drew.trans (hb.mono HBQ.out.size)); clear hb)
            all_goals
              go_wp2
              go_ret
              exact ⟨rfl, HB9.out⟩
      · have d1 : ((b : Int) == (q : Int) - 1) = true := by rw [beq_iff_eq]; omega
        have hb2 : b = q - 1 := by omega
        rw [← hb2] at HLAST
        clear hb2
        go_upto_region 20 with (first
          | (go_at_call 38; (with_reducible refine (HGR.out _ b hb0).mono ?_); rintro e w1 ⟨⟨A1, c1, rfl, hs⟩, hb⟩; have HL1 := Lib.hid ((HL0.out.below hb).push hs); have HB1 := Lib.hid (HB0.out.trans (hb.mono HB0.out.size)); clear hs hb)
          | (go_at_call 39; (with_reducible refine (HGA.out _ _ _ b HL1.out.hd hb0).mono ?_); rintro e w2 ⟨rfl, hb⟩; have HL2 := Lib.hid ((HL1.out.below hb)); have HB2 := Lib.hid (HB1.out.trans (hb.mono HB1.out.size)); clear hb)
          | (go_at_call 43; (with_reducible refine (HRB.out _ _ _ b HL2.out.hd hb0).mono ?_); rintro e w' ⟨rfl, rfl⟩))
        have hx1 := HL2.out.hd.at_ (k := N1) (by have := HN1.out; omega)
        rw [show (gF N 0 b)[N1]?.getD 0 = atI (gF N 0 b) N1 from rfl, HLAST.out] at hx1
        obtain ⟨b1, o1, rfl, e1⟩ := hx1
        have f1 : (N1 : Int) < (N : Int) := by have := HN1.out; omega
        go_wp2_with (go_at_call 19; (with_reducible refine (awake_here _).mono ?_); rintro e w9 ⟨rfl, hb⟩; have HB9 := Lib.hid (HB2.out.trans (hb.mono HB2.out.size)); clear hb)
        go_ret
        exact ⟨rfl, HB9.out⟩
end Go.Proofs.Ytfeohcknopdamaa
