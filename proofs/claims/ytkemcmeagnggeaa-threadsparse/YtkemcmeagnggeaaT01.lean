import Derived.Test.YtkemcmeagnggeaaT00
import Derived.Laws.IdiomStrings
/- Layer 3: the number of different subsequences; contract: Counts. -/
namespace Go.Proofs.Ytkemcmeagnggeaa
open Go.RowKit
set_option linter.unusedVariables false

/-- The number of different subsequences of what follows position i; t: steps at most. -/
def cntT (w : List Int) : Nat → Nat → Int
  | 0, _ => 0
  | t + 1, i => 1 + (if nextF w i 97 < 0 then 0 else cntT w t (nextF w i 97).toNat) + (if nextF w i 98 < 0 then 0 else cntT w t (nextF w i 98).toNat)
      + (if nextF w i 99 < 0 then 0 else cntT w t (nextF w i 99).toNat) + (if nextF w i 100 < 0 then 0 else cntT w t (nextF w i 100).toNat)
def cntF (w : List Int) (i : Nat) : Int := cntT w (w.length + 1 - i) i
theorem cntT_same (w : List Int) (t : Nat) : ∀ (s i : Nat), i ≤ w.length → w.length + 1 ≤ t + i → w.length + 1 ≤ s + i → cntT w t i = cntT w s i := by
  induction t with
  | zero => intro s i h1 h2; omega
  | succ t ih =>
    intro s i h1 h2 h3
    obtain ⟨s, rfl⟩ : ∃ r, s = r + 1 := ⟨s - 1, by omega⟩
    have key : ∀ c, (if nextF w i c < 0 then 0 else cntT w t (nextF w i c).toNat) = (if nextF w i c < 0 then 0 else cntT w s (nextF w i c).toNat) := fun c => by
      by_cases e : nextF w i c < 0
      · rw [if_pos e, if_pos e]
      · rw [if_neg e, if_neg e]
        rcases nextF_rng w i c with h | h
        · omega
        · exact ih s _ (by omega) (by omega) (by omega)
    rw [cntT, cntT, key 97, key 98, key 99, key 100]
/-- The part of the sum of the first m letters. -/
def sumC (w : List Int) (i : Nat) : Nat → Int
  | 0 => 1
  | m + 1 => sumC w i m + if nextF w i (97 + (m : Int)) < 0 then 0 else cntF w (nextF w i (97 + (m : Int))).toNat
theorem cntF_sum (w : List Int) (i : Nat) (hi : i ≤ w.length) : cntF w i = sumC w i 4 := by
  unfold cntF
  rw [show w.length + 1 - i = (w.length - i) + 1 from by omega, cntT]
  have key : ∀ c, (if nextF w i c < 0 then 0 else cntT w (w.length - i) (nextF w i c).toNat) = (if nextF w i c < 0 then 0 else cntF w (nextF w i c).toNat) := fun c => by
    by_cases e : nextF w i c < 0
    · rw [if_pos e, if_pos e]
    · rw [if_neg e, if_neg e]
      rcases nextF_rng w i c with h | h
      · omega
      · exact cntT_same w _ _ _ (by omega) (by omega) (by omega)
  rw [key 97, key 98, key 99, key 100]
  rfl
theorem cntT_nonneg (w : List Int) (t : Nat) : ∀ i, 0 ≤ cntT w t i := by
  induction t with
  | zero => intro i; exact Int.le_refl _
  | succ t ih =>
    intro i
    have key : ∀ c, 0 ≤ (if nextF w i c < 0 then 0 else cntT w t (nextF w i c).toNat) := fun c => by
      split
      · exact Int.le_refl _
      · exact ih _
    rw [cntT]
    have h1 := key 97; have h2 := key 98; have h3 := key 99; have h4 := key 100
    omega
theorem cntF_nonneg (w : List Int) (i : Nat) : 0 ≤ cntF w i := cntT_nonneg w _ i
theorem sumC_mono (w : List Int) (i m : Nat) : sumC w i m ≤ sumC w i (m + 1) := by
  rw [sumC]
  split
  · omega
  · have := cntF_nonneg w (nextF w i (97 + (m : Int))).toNat; omega
theorem sumC_pos (w : List Int) (i m : Nat) : 1 ≤ sumC w i m := by
  induction m with
  | zero => exact Int.le_refl _
  | succ m ih => exact Int.le_trans ih (sumC_mono w i m)
theorem sumC_le4 (w : List Int) (i m : Nat) (hm : m ≤ 4) (hi : i ≤ w.length) : sumC w i m ≤ cntF w i := by
  rw [cntF_sum w i hi]
  have h1 : sumC w i 0 ≤ sumC w i 1 := sumC_mono w i 0
  have h2 : sumC w i 1 ≤ sumC w i 2 := sumC_mono w i 1
  have h3 : sumC w i 2 ≤ sumC w i 3 := sumC_mono w i 2
  have h4 : sumC w i 3 ≤ sumC w i 4 := sumC_mono w i 3
  rcases (by omega : m = 0 ∨ m = 1 ∨ m = 2 ∨ m = 3 ∨ m = 4) with rfl | rfl | rfl | rfl | rfl <;> omega
theorem cntF_pos (w : List Int) (i : Nat) (hi : i ≤ w.length) : 1 ≤ cntF w i := by rw [cntF_sum w i hi]; exact sumC_pos w i 4
theorem nextF_step (w : List Int) (i : Nat) (hi : i < w.length) (c : Int) : nextF w i c = if w[i]?.getD 0 = c then (i : Int) + 1 else nextF w (i + 1) c := by
  unfold nextF
  rw [show w.length - i = (w.length - (i + 1)) + 1 from by omega, nextT]
theorem nextF_end (w : List Int) (i : Nat) (hi : w.length ≤ i) (c : Int) : nextF w i c = -1 := nextF_miss fun j h1 h2 => by omega
/-- One more letter in front at most doubles. -/
theorem sumC_step (w : List Int) (i : Nat) (hi : i < w.length) (m : Nat) : sumC w i m ≤ sumC w (i + 1) m + (if 97 ≤ w[i]?.getD 0 ∧ w[i]?.getD 0 < 97 + (m : Int) then cntF w (i + 1) else 0) := by
  induction m with
  | zero => rw [if_neg (by omega)]; exact Int.le_refl _
  | succ m ih =>
    rw [sumC, sumC, nextF_step w i hi]
    have hp := cntF_nonneg w (i + 1)
    have hn : 0 ≤ (if nextF w (i + 1) (97 + (m : Int)) < 0 then 0 else cntF w (nextF w (i + 1) (97 + (m : Int))).toNat) := by
      split
      · exact Int.le_refl _
      · exact cntF_nonneg w _
    by_cases e : w[i]?.getD 0 = 97 + (m : Int)
    · have a0 : (if 97 ≤ w[i]?.getD 0 ∧ w[i]?.getD 0 < 97 + (m : Int) then cntF w (i + 1) else 0) = 0 := if_neg (by omega)
      have a1 : (if ((i : Int) + 1) < 0 then (0 : Int) else cntF w ((i : Int) + 1).toNat) = cntF w (i + 1) := by
        rw [if_neg (by omega), show ((i : Int) + 1).toNat = i + 1 from by omega]
      have a2 : (if 97 ≤ w[i]?.getD 0 ∧ w[i]?.getD 0 < 97 + ((m + 1 : Nat) : Int) then cntF w (i + 1) else 0) = cntF w (i + 1) := if_pos (by omega)
      rw [if_pos e, a1, a2]
      rw [a0] at ih
      omega
    · rw [if_neg e]
      by_cases e2 : 97 ≤ w[i]?.getD 0 ∧ w[i]?.getD 0 < 97 + (m : Int)
      · have a2 : (if 97 ≤ w[i]?.getD 0 ∧ w[i]?.getD 0 < 97 + ((m + 1 : Nat) : Int) then cntF w (i + 1) else 0) = cntF w (i + 1) := if_pos (by omega)
        rw [if_pos e2] at ih
        rw [a2]; omega
      · have a2 : (if 97 ≤ w[i]?.getD 0 ∧ w[i]?.getD 0 < 97 + ((m + 1 : Nat) : Int) then cntF w (i + 1) else 0) = 0 := if_neg (by omega)
        rw [if_neg e2] at ih
        rw [a2]; omega
theorem cntF_step (w : List Int) (i : Nat) (hi : i < w.length) : cntF w i ≤ 2 * cntF w (i + 1) := by
  have h := sumC_step w i hi 4
  rw [← cntF_sum w i (by omega), ← cntF_sum w (i + 1) (by omega)] at h
  have hp := cntF_nonneg w (i + 1)
  split at h <;> omega
theorem cntF_end (w : List Int) : cntF w w.length = 1 := by
  rw [cntF_sum w _ (Nat.le_refl _)]
  have h : ∀ c, nextF w w.length c = -1 := fun c => nextF_end w _ (Nat.le_refl _) c
  simp [sumC, h]
theorem cntF_pow (w : List Int) (t : Nat) : ∀ i, i + t = w.length → cntF w i ≤ 2 ^ t := by
  induction t with
  | zero => intro i h; rw [show i = w.length from by omega, cntF_end]; decide
  | succ t ih =>
    intro i h
    have h1 := ih (i + 1) (by omega)
    have h2 := cntF_step w i (by omega)
    rw [Int.pow_succ]
    omega
theorem cntF_bound (w : List Int) (i : Nat) (hi : i ≤ w.length) (hw : w.length ≤ 60) : cntF w i ≤ 1152921504606846976 := by
  have h := cntF_pow w (w.length - i) i (by omega)
  have h2 : (2 : Int) ^ (w.length - i) ≤ 2 ^ 60 := by
    have : (2 : Nat) ^ (w.length - i) ≤ 2 ^ 60 := Nat.pow_le_pow_right (by decide) (by omega)
    exact_mod_cast this
  have h3 : (2 : Int) ^ 60 = 1152921504606846976 := by decide
  omega
/-- The table after t rounds. -/
def cntTab (w : List Int) (t : Nat) : List Int := (List.range (w.length + 1)).map fun i => if w.length + 1 ≤ i + t then cntF w i else 0
theorem cntTab_len (w : List Int) (t : Nat) : (cntTab w t).length = w.length + 1 := by simp [cntTab]
theorem cntTab_zero (w : List Int) : cntTab w 0 = List.replicate (w.length + 1) 0 := by
  refine List.ext_getElem (by simp [cntTab]) fun i h1 h2 => ?_
  simp only [cntTab, List.getElem_map, List.getElem_range, List.getElem_replicate]
  rw [if_neg (by simp [cntTab] at h1; omega)]
theorem cntTab_at (w : List Int) (t i : Nat) (hi : i ≤ w.length) (ht : w.length + 1 ≤ i + t) : (cntTab w t)[i]?.getD 0 = cntF w i := by
  unfold cntTab
  rw [List.getElem?_map, List.getElem?_range (by omega)]
  simp [ht]
theorem cntTab_step (w : List Int) (t : Nat) (ht : t ≤ w.length) : (cntTab w t).set (w.length - t) (cntF w (w.length - t)) = cntTab w (t + 1) := by
  refine List.ext_getElem (by simp [cntTab]) fun i h1 h2 => ?_
  rw [List.getElem_set]
  simp only [cntTab, List.getElem_map, List.getElem_range]
  simp [cntTab] at h2
  by_cases e : w.length - t = i
  · rw [if_pos e, if_pos (by omega), ← e]
  · rw [if_neg e]
    by_cases h : w.length + 1 ≤ i + t
    · rw [if_pos h, if_pos (by omega)]
    · rw [if_neg h, if_neg (by omega)]
end Go.Proofs.Ytkemcmeagnggeaa
/- Layer 3: contract: Counts. -/
namespace Go.Proofs.Ytkemcmeagnggeaa
open Go.RowKit
set_option linter.unusedVariables false

theorem set_at {l : List Int} {i : Nat} (h : i < l.length) (x : Int) : (l.set i x)[i]?.getD 0 = x := by rw [List.getElem?_set_self h]; rfl
theorem set_other {l : List Int} {i j : Nat} (h : i ≠ j) (x : Int) : (l.set i x)[j]?.getD 0 = l[j]?.getD 0 := by rw [List.getElem?_set_ne h]

set_option maxHeartbeats 1600000 in
theorem counts_any (s : ByteArray) (w : World) (hs : s.size ≤ 60) :
    Calls Try.prog 27 #[.string s] w fun e w' => ∃ v, e = .returned v ∧ Ow w' w.heap.size 3 v (cntTab (bs s) (s.size + 1)) ∧ Below w.heap.size w w' := by
  obtain ⟨i0, hi, hz0, hz1, hz2⟩ := info_parts Try.infoInt
  have HI : Hid (Try.prog.info? 3 = some i0 ∧ i0.zero = some (.int .i64 0) ∧ i0.size = 1 ∧ i0.bytes = 8) := ⟨hi, hz0, hz1, hz2⟩
  clear hi hz0 hz1 hz2
  have HSL := Lib.hid (bs_len s)
  go_enter Try.func27, Try.ntmps27
  go_wp2_with (at_make; go_must (refine make_law _ rfl (.tmp 9) (.tmp 9) 23 rfl w.heap.size 3 i0 Try.underlying23 HI.out _ _ (s.size + 1) rfl rfl (by omega) (by omega) (by omega) (Nat.le_refl _) ?_); intro w1 hv1 hg1; have HV1 := Lib.hid hv1; clear hv1; have HG1 := Lib.hid hg1; clear hg1)
  have hW1 := (Below.refl w.heap.size w).grown HG1.out (Nat.le_refl _) (by simp)
  obtain ⟨n, hn⟩ : ∃ n, n = s.size := ⟨_, rfl⟩
  rw [← hn] at HV1 HSL hs
  obtain ⟨W, hW⟩ : ∃ W, W = bs s := ⟨_, rfl⟩
  rw [← hW] at HSL
  have HNX : Hid (∀ (f : Nat) (c : Int) V, f ≤ 60 → Calls Try.prog 54 #[.string s, .int .i64 f, .int .u8 c] V fun e w' => e = .returned (.int .i64 (nextF W f c)) ∧ V = w') := fun f c V hf => by rw [hW]; exact next_any s f c V (by omega) (by omega)
  have HRES : Hid (cntTab (bs s) (s.size + 1) = cntTab W (n + 1)) := by rw [Hid, hW, hn]
  rw [← hn]
  have HN := Lib.hid hn; clear hn
  have HW := Lib.hid hW; clear hW
  go_loopw [4, 5, 6] (fun i _ _ w' => ∃ t : Nat, t ≤ n + 1 ∧ i = .int .i64 ((n : Int) - t) ∧ Hid (Ow w' w.heap.size 3 (.slice (some ⟨w.heap.size, 0, none⟩) (n + 1) (n + 1)) (cntTab W t)) ∧ Below w.heap.size w w') (fun i _ _ _ => (intOf i + 1).toNat)
  case atStart => exact ⟨0, by omega, by go_num, (by rw [cntTab_zero, HSL.out]; exact HV1), hW1⟩
  case round =>
    obtain ⟨t, ht, rfl, HO, hWt⟩ := hrel
    by_cases hlt : t ≤ n
    · obtain ⟨A, hA⟩ : ∃ A, n = A + t := ⟨n - t, by omega⟩
      have hAe : (n : Int) - t = (A : Int) := by omega
      have hAn : A ≤ n := by omega
      have HAT : Hid (∀ K, A < K → W.length + 1 ≤ K + t) := fun K h => by rw [HSL.out]; omega
      have HA := Lib.hid hA; clear hA
      rw [hAe]
      have HTL : Hid ((cntTab W t).length = n + 1) := by rw [Hid, cntTab_len, HSL.out]
      have HS0 : Hid (sumC W A 0 = 1) := rfl
      have HOP := Lib.hid (HO.out.put HTL.out A 1)
      have hct := HO.out.cellAt HTL.out (k := A) (by omega)
      have hft := HO.out.free HTL.out A
      have HAE := Lib.hid hAe; clear hAe
      obtain ⟨wo, rfl⟩ : ∃ wo : World, wo = wr := ⟨_, rfl⟩
      go_wp2
      go_loopw [5, 6] (fun c _ w' => ∃ m : Nat, m ≤ 4 ∧ c = .int .u8 (97 + (m : Int)) ∧ Hid (Ow w' w.heap.size 3 (.slice (some ⟨w.heap.size, 0, none⟩) (n + 1) (n + 1)) ((cntTab W t).set A (sumC W A m))) ∧ Below w.heap.size w w') (fun c _ _ => 101 - (intOf c).toNat)
      case atStart => exact ⟨0, by omega, by go_num, HOP, hWt.setCell (p := ⟨w.heap.size, A, none⟩) (Nat.le_refl _) _⟩
      case round =>
        obtain ⟨m, hm, rfl, HOM, hWm⟩ := hrel
        by_cases hm4 : m < 4
        · have HC := Lib.hid (HNX.out A (97 + (m : Int)) wr (by omega))
          have hr := nextF_rng W A (97 + (m : Int))
          rw [HSL.out] at hr
          have HST : Hid (sumC W A (m + 1) = sumC W A m + if nextF W A (97 + (m : Int)) < 0 then 0 else cntF W (nextF W A (97 + (m : Int))).toNat) := rfl
          obtain ⟨r, hre⟩ : ∃ r, r = nextF W A (97 + (m : Int)) := ⟨_, rfl⟩
          rw [← hre] at HC hr HST
          clear hre
          by_cases hneg : r < 0
          · have HN2 : Hid (sumC W A (m + 1) = sumC W A m) := by rw [Hid, HST.out, if_pos hneg, Int.add_zero]
            go_wp2_with (go_at_call 54; refine HC.out.mono ?_; clear HC; rintro e w2 ⟨rfl, rfl⟩)
            go_roundw
            case rel => exact ⟨m + 1, by omega, by go_num, (by rw [HN2.out]; exact HOM), hWm⟩
            case measure => simp [intOf]; omega
          · obtain ⟨K, rfl⟩ : ∃ K : Nat, r = (K : Int) := ⟨r.toNat, by omega⟩
            have hAK : A < K := by omega
            have hKn : K ≤ n := by omega
            have HTS : Hid (((cntTab W t).set A (sumC W A m)).length = n + 1) := by rw [Hid, List.length_set, HTL.out]
            have hc1 := HOM.out.cellAt HTS.out (k := A) (by omega)
            have hc2 := HOM.out.cellAt HTS.out (k := K) (by omega)
            have hf1 := HOM.out.free HTS.out A
            rw [set_at (by rw [HTL.out]; omega)] at hc1
            rw [set_other (by omega), cntTab_at W t K (by rw [HSL.out]; omega) (HAT.out K hAK)] at hc2
            have HN2 : Hid (sumC W A (m + 1) = sumC W A m + cntF W K) := by rw [Hid, HST.out, if_neg hneg]; rfl
            have hb1 := sumC_pos W A m
            have hb2 := cntF_nonneg W K
            have hb3 := sumC_le4 W A (m + 1) (by omega) (by rw [HSL.out]; omega)
            have hb4 := cntF_bound W A (by rw [HSL.out]; omega) (by rw [HSL.out]; omega)
            rw [HN2.out] at hb3
            have HP := Lib.hid (HOM.out.put HTS.out A (sumC W A m + cntF W K))
            rw [List.set_set] at HP
            generalize hx : sumC W A m = x at *
            generalize hy : cntF W K = y at *
            have HX := Lib.hid hx; clear hx
            have HY := Lib.hid hy; clear hy
            have hw1 : IntKind.i64.wrap (x + y) = x + y := IntWalk.i64_in _ (by omega)
            have q1 : (A : Int) < (n : Int) + 1 := by omega
            have q2 : (K : Int) < (n : Int) + 1 := by omega
            go_wp2_with (go_at_call 54; refine HC.out.mono ?_; clear HC; rintro e w2 ⟨rfl, rfl⟩)
            go_region
            go_wp2
            go_roundw
            case rel => exact ⟨m + 1, by omega, by go_num, (by rw [Hid, HN2.out]; exact HP.out), Below.drew (hWm.setCell (p := ⟨w.heap.size, A, none⟩) (Nat.le_refl _) _)⟩
            case measure => simp [intOf]; omega
        · obtain rfl : m = 4 := by omega
          have HFIN : Hid (cntTab W (t + 1) = (cntTab W t).set A (sumC W A 4)) := by
            have h := cntTab_step W t (by rw [HSL.out]; exact hlt)
            rw [HSL.out, show n - t = A from by have := HA.out; omega, cntF_sum W A (by rw [HSL.out]; omega)] at h
            exact h.symm
          go_wp2
          go_roundw
          case rel => exact ⟨t + 1, by omega, (by have := HAE.out; go_num), (by rw [HFIN.out]; exact HOM), hWm⟩
          case measure => simp [intOf]
    · obtain rfl : t = n + 1 := by omega
      have hneg : (n : Int) - ((n + 1 : Nat) : Int) = -1 := by omega
      rw [hneg]
      go_wp2
      go_ret
      exact ⟨_, rfl, by rw [HRES.out]; exact HO.out, hWt⟩
end Go.Proofs.Ytkemcmeagnggeaa
/- Layer 3, plain mathematics: all subsequences in their order. -/
namespace Go.Proofs.Ytkemcmeagnggeaa
open Go.RowKit
set_option linter.unusedVariables false

/-- All different subsequences of what follows position i, in their order; t: steps at most. -/
def subsT (w : List Int) : Nat → Nat → List (List Int)
  | 0, _ => []
  | t + 1, i => [[]] ++ (if nextF w i 97 < 0 then [] else (subsT w t (nextF w i 97).toNat).map (97 :: ·)) ++ (if nextF w i 98 < 0 then [] else (subsT w t (nextF w i 98).toNat).map (98 :: ·))
      ++ (if nextF w i 99 < 0 then [] else (subsT w t (nextF w i 99).toNat).map (99 :: ·)) ++ (if nextF w i 100 < 0 then [] else (subsT w t (nextF w i 100).toNat).map (100 :: ·))
def subsF (w : List Int) (i : Nat) : List (List Int) := subsT w (w.length + 1 - i) i
theorem subsT_same (w : List Int) (t : Nat) : ∀ (s i : Nat), i ≤ w.length → w.length + 1 ≤ t + i → w.length + 1 ≤ s + i → subsT w t i = subsT w s i := by
  induction t with
  | zero => intro s i h1 h2; omega
  | succ t ih =>
    intro s i h1 h2 h3
    obtain ⟨s, rfl⟩ : ∃ r, s = r + 1 := ⟨s - 1, by omega⟩
    have key : ∀ c, (if nextF w i c < 0 then [] else (subsT w t (nextF w i c).toNat).map (c :: ·)) = (if nextF w i c < 0 then [] else (subsT w s (nextF w i c).toNat).map (c :: ·)) := fun c => by
      by_cases e : nextF w i c < 0
      · rw [if_pos e, if_pos e]
      · rw [if_neg e, if_neg e]
        rcases nextF_rng w i c with h | h
        · omega
        · rw [ih s _ (by omega) (by omega) (by omega)]
    rw [subsT, subsT, key 97, key 98, key 99, key 100]
/-- Those of the first m letters. -/
def subC (w : List Int) (i : Nat) : Nat → List (List Int)
  | 0 => [[]]
  | m + 1 => subC w i m ++ if nextF w i (97 + (m : Int)) < 0 then [] else (subsF w (nextF w i (97 + (m : Int))).toNat).map ((97 + (m : Int)) :: ·)
theorem subsF_parts (w : List Int) (i : Nat) (hi : i ≤ w.length) : subsF w i = subC w i 4 := by
  unfold subsF
  rw [show w.length + 1 - i = (w.length - i) + 1 from by omega, subsT]
  have key : ∀ c, (if nextF w i c < 0 then [] else (subsT w (w.length - i) (nextF w i c).toNat).map (c :: ·)) = (if nextF w i c < 0 then [] else (subsF w (nextF w i c).toNat).map (c :: ·)) := fun c => by
    by_cases e : nextF w i c < 0
    · rw [if_pos e, if_pos e]
    · rw [if_neg e, if_neg e]
      rcases nextF_rng w i c with h | h
      · omega
      · unfold subsF
        rw [subsT_same w (w.length - i) (w.length + 1 - (nextF w i c).toNat) _ (by omega) (by omega) (by omega)]
  rw [key 97, key 98, key 99, key 100]
  rfl
theorem subsT_len (w : List Int) (t : Nat) : ∀ i, ((subsT w t i).length : Int) = cntT w t i := by
  induction t with
  | zero => intro i; rfl
  | succ t ih =>
    intro i
    have key : ∀ c, (((if nextF w i c < 0 then [] else (subsT w t (nextF w i c).toNat).map (c :: ·) : List (List Int)).length : Nat) : Int) = (if nextF w i c < 0 then 0 else cntT w t (nextF w i c).toNat) := fun c => by
      by_cases e : nextF w i c < 0
      · rw [if_pos e, if_pos e]; rfl
      · rw [if_neg e, if_neg e, List.length_map]; exact ih _
    rw [subsT, cntT, ← key 97, ← key 98, ← key 99, ← key 100]
    simp only [List.length_append, List.length_singleton]
    omega
theorem subsF_len (w : List Int) (i : Nat) : ((subsF w i).length : Int) = cntF w i := subsT_len w _ i
theorem subC_len (w : List Int) (i m : Nat) : ((subC w i m).length : Int) = sumC w i m := by
  induction m with
  | zero => rfl
  | succ m ih =>
    rw [subC, sumC, List.length_append]
    by_cases e : nextF w i (97 + (m : Int)) < 0
    · rw [if_pos e, if_pos e]; simp; omega
    · rw [if_neg e, if_neg e, List.length_map]
      have := subsF_len w (nextF w i (97 + (m : Int))).toNat
      omega
theorem subC_pre (w : List Int) (i m k : Nat) (h : m ≤ k) : ∃ r, subC w i k = subC w i m ++ r := by
  induction k with
  | zero => rw [show m = 0 from by omega]; exact ⟨[], by simp⟩
  | succ k ih =>
    by_cases e : m = k + 1
    · subst e; exact ⟨[], by simp⟩
    · obtain ⟨r, hr⟩ := ih (by omega)
      rw [subC, hr, List.append_assoc]
      exact ⟨_, rfl⟩
/-- The subsequences with the letter 97 + m in front stand behind those of the smaller letters. -/
theorem subsF_at (w : List Int) (i m : Nat) (hi : i ≤ w.length) (hm : m < 4) (K : Nat) (hn : nextF w i (97 + (m : Int)) = (K : Int)) (q : Nat) (k : Nat) (hk : (k : Int) = sumC w i m + q) (hq : (q : Int) < cntF w K) :
    (subsF w i)[k]? = ((subsF w K)[q]?).map ((97 + (m : Int)) :: ·) := by
  rw [subsF_parts w i hi]
  obtain ⟨r, hr⟩ := subC_pre w i (m + 1) 4 (by omega)
  have h1 := subC_len w i m
  have h2 := subsF_len w K
  rw [hr, subC, hn, if_neg (by omega), Int.toNat_natCast, List.append_assoc, List.getElem?_append_right (by omega), List.getElem?_append_left (by rw [List.length_map]; omega), List.getElem?_map, show k - (subC w i m).length = q from by omega]
theorem subsF_nil (w : List Int) (i : Nat) (hi : i ≤ w.length) : (subsF w i)[0]? = some [] := by
  rw [subsF_parts w i hi]
  obtain ⟨r, hr⟩ := subC_pre w i 0 4 (by omega)
  rw [hr]; rfl
theorem subsF_lt (w : List Int) (i q : Nat) (hq : (q : Int) < cntF w i) : ∃ v, (subsF w i)[q]? = some v := by
  have := subsF_len w i
  exact ⟨_, List.getElem?_eq_getElem (by omega)⟩
/-- No subsequence stands there twice. -/
theorem subsT_nodup (w : List Int) (t : Nat) : ∀ i, (subsT w t i).Nodup := by
  induction t with
  | zero => intro i; exact List.nodup_nil
  | succ t ih =>
    intro i
    have hmap : ∀ (c : Int) (j : Nat), ((subsT w t j).map (c :: ·)).Nodup := fun c j => by
      have := ih j
      refine List.pairwise_map.2 (this.imp fun h e => h ?_)
      injection e
    have hhead : ∀ (c : Int) (v : List Int), v ∈ (if nextF w i c < 0 then [] else (subsT w t (nextF w i c).toNat).map (c :: ·)) → v.head? = some c := fun c v hv => by
      by_cases e : nextF w i c < 0
      · rw [if_pos e] at hv; cases hv
      · rw [if_neg e] at hv
        obtain ⟨x, _, rfl⟩ := List.mem_map.1 hv
        rfl
    have hnd : ∀ c : Int, (if nextF w i c < 0 then [] else (subsT w t (nextF w i c).toNat).map (c :: ·) : List (List Int)).Nodup := fun c => by
      by_cases e : nextF w i c < 0
      · rw [if_pos e]; exact List.nodup_nil
      · rw [if_neg e]; exact hmap c _
    rw [subsT]
    generalize hA : (if nextF w i 97 < 0 then [] else (subsT w t (nextF w i 97).toNat).map (97 :: ·)) = A
    generalize hB : (if nextF w i 98 < 0 then [] else (subsT w t (nextF w i 98).toNat).map (98 :: ·)) = B
    generalize hC : (if nextF w i 99 < 0 then [] else (subsT w t (nextF w i 99).toNat).map (99 :: ·)) = C
    generalize hD : (if nextF w i 100 < 0 then [] else (subsT w t (nextF w i 100).toNat).map (100 :: ·)) = D
    have a1 : A.Nodup := hA ▸ hnd 97
    have b1 : B.Nodup := hB ▸ hnd 98
    have c1 : C.Nodup := hC ▸ hnd 99
    have d1 : D.Nodup := hD ▸ hnd 100
    have a2 : ∀ v ∈ A, v.head? = some 97 := fun v hv => hhead 97 v (hA ▸ hv)
    have b2 : ∀ v ∈ B, v.head? = some 98 := fun v hv => hhead 98 v (hB ▸ hv)
    have c2 : ∀ v ∈ C, v.head? = some 99 := fun v hv => hhead 99 v (hC ▸ hv)
    have d2 : ∀ v ∈ D, v.head? = some 100 := fun v hv => hhead 100 v (hD ▸ hv)
    refine List.nodup_append.2 ⟨List.nodup_append.2 ⟨List.nodup_append.2 ⟨List.nodup_append.2 ⟨by simp, a1, ?_⟩, b1, ?_⟩, c1, ?_⟩, d1, ?_⟩
    · intro x hx y hy e
      rw [List.mem_singleton.1 hx] at e
      have := a2 y hy
      rw [← e] at this; cases this
    · intro x hx y hy e
      subst e
      have h1 := b2 x hy
      rcases List.mem_append.1 hx with h | h
      · rw [List.mem_singleton.1 h] at h1; cases h1
      · rw [a2 x h] at h1; cases h1
    · intro x hx y hy e
      subst e
      have h1 := c2 x hy
      rcases List.mem_append.1 hx with h | h
      · rcases List.mem_append.1 h with h | h
        · rw [List.mem_singleton.1 h] at h1; cases h1
        · rw [a2 x h] at h1; cases h1
      · rw [b2 x h] at h1; cases h1
    · intro x hx y hy e
      subst e
      have h1 := d2 x hy
      rcases List.mem_append.1 hx with h | h
      · rcases List.mem_append.1 h with h | h
        · rcases List.mem_append.1 h with h | h
          · rw [List.mem_singleton.1 h] at h1; cases h1
          · rw [a2 x h] at h1; cases h1
        · rw [b2 x h] at h1; cases h1
      · rw [c2 x h] at h1; cases h1
theorem subsF_nodup (w : List Int) (i : Nat) : (subsF w i).Nodup := subsT_nodup w _ i
theorem nodup_at {α : Type} {l : List α} (h : l.Nodup) {i j : Nat} {x : α} (hi : l[i]? = some x) (hj : l[j]? = some x) : i = j := by
  obtain ⟨hi1, hi2⟩ := List.getElem?_eq_some_iff.1 hi
  obtain ⟨hj1, hj2⟩ := List.getElem?_eq_some_iff.1 hj
  have hp := List.pairwise_iff_getElem.1 h
  rcases Nat.lt_trichotomy i j with h1 | h1 | h1
  · exact absurd (hi2.trans hj2.symm) (hp i j hi1 hj1 h1)
  · exact h1
  · exact absurd (hj2.trans hi2.symm) (hp j i hj1 hi1 h1)
end Go.Proofs.Ytkemcmeagnggeaa
/- Layer 3: contracts: Index, Item. -/
namespace Go.Proofs.Ytkemcmeagnggeaa
open Go.RowKit
set_option linter.unusedVariables false

/-- The table of Counts, ready to be read. -/
theorem counts_tab (s : ByteArray) (w : World) (hs : s.size ≤ 60) :
    Calls Try.prog 27 #[.string s] w fun e w' => ∃ g cap, e = .returned (.slice (some ⟨g, 0, none⟩) (s.size + 1) cap) ∧ g < w'.heap.size ∧ (∀ k, k ≤ s.size → w'.cell? ⟨g, k, none⟩ = some (.int .i64 (cntF (bs s) k))) ∧ Below w.heap.size w w' := by
  refine (counts_any s w hs).mono ?_
  rintro e w' ⟨v, rfl, hv, hb⟩
  have hl : (cntTab (bs s) (s.size + 1)).length = s.size + 1 := by rw [cntTab_len, bs_len]
  obtain ⟨g, cap, rfl, _, _, hg, hc⟩ := hv.form (by omega)
  rw [hl]
  refine ⟨g, cap, rfl, hg, fun k hk => ?_, hb⟩
  rw [hc k (by omega), cntTab_at _ _ _ (by rw [bs_len]; omega) (by rw [bs_len]; omega)]

set_option maxHeartbeats 1600000 in
theorem index_any (s u : ByteArray) (w : World) (hs : wordB (bs s) = true) (hu : wordB (bs u) = true) (hin : (withinF (bs u) (bs s)).isSome = true) :
    Calls Try.prog 30 #[.string s, .string u] w fun e w' => ∃ k : Nat, e = .returned (.int .i64 k) ∧ (subsF (bs s) 0)[k]? = some (bs u) ∧ Below w.heap.size w w' := by
  have hs60 : s.size ≤ 60 := by unfold wordB at hs; simp at hs; rw [bs_len] at hs; exact hs.1
  have hu60 : u.size ≤ 60 := by unfold wordB at hu; simp at hu; rw [bs_len] at hu; exact hu.1
  have HLT : Hid (∀ j, j < u.size → ∃ m : Nat, m < 4 ∧ (bs u)[j]?.getD 0 = 97 + (m : Int)) := fun j hj => by
    unfold wordB at hu
    rw [Bool.and_eq_true] at hu
    have h := (lettersB_iff.1 hu.2) j (by rw [bs_len]; exact hj)
    exact ⟨((bs u)[j]?.getD 0 - 97).toNat, by omega, by omega⟩
  have HCT := Lib.hid (counts_tab s w hs60)
  have HNX : Hid (∀ (f : Nat) (c : Int) V, f ≤ 60 → Calls Try.prog 54 #[.string s, .int .i64 f, .int .u8 c] V fun e w' => e = .returned (.int .i64 (nextF (bs s) f c)) ∧ V = w') := fun f c V hf => next_any s f c V (by omega) (by omega)
  have HIN : Hid (∀ j, j ≤ u.size → ∃ p, withinTo (bs u) (bs s) j = some p) := fun j hj => by
    cases h : withinTo (bs u) (bs s) j with
    | some p => exact ⟨p, rfl⟩
    | none =>
      unfold withinF at hin
      rw [withinTo_none (k := j) (by rw [bs_len]; exact hj) h] at hin
      cases hin
  have HSL := Lib.hid (bs_len s)
  have HUL := Lib.hid (bs_len u)
  have HB0 : Hid (∀ i, i ≤ s.size → cntF (bs s) i ≤ 1152921504606846976) := fun i hi => cntF_bound _ i (by rw [bs_len]; exact hi) (by rw [bs_len]; exact hs60)
  clear hs hu hin
  go_enter Try.func30, Try.ntmps30
  go_wp2_with (go_at_call 27; refine HCT.out.mono ?_; clear HCT; rintro e w1 ⟨g, cap, rfl, hg, hc, hb1⟩; have HC := Lib.hid hc; clear hc)
  go_loopw [6, 7, 8, 9, 10] (fun sm a i _ _ w' => ∃ (j S : Nat) (p : List Int × Nat), j ≤ u.size ∧ i = .int .i64 (j : Int) ∧ a = .int .i64 (p.2 : Int) ∧ sm = .int .i64 (S : Int) ∧ Hid (withinTo (bs u) (bs s) j = some p) ∧ Hid (∀ (q : Nat) v, (subsF (bs s) p.2)[q]? = some v → (subsF (bs s) 0)[S + q]? = some ((bs u).take j ++ v)) ∧ Dr w1 w') (fun _ _ i _ _ _ => u.size - (intOf i).toNat)
  case atStart => exact ⟨0, 0, ([], 0), by omega, by go_num, rfl, by go_num, rfl, fun q v h => by simpa using h, Dr.refl _⟩
  case round =>
    obtain ⟨j, S, ⟨l, a⟩, hj, rfl, rfl, rfl, HW, HI, hD⟩ := hrel
    have hlen := withinTo_len HW.out
    dsimp only at hlen HI
    have ha : a ≤ s.size := by have := hlen.2; rw [HSL.out] at this; exact this
    have hSb : S ≤ 1152921504606846976 := by
      have h1 := HI.out 0 [] (subsF_nil _ _ hlen.2)
      have h2 := (List.getElem?_eq_some_iff.1 h1).1
      have h3 := subsF_len (bs s) 0
      have h4 := HB0.out 0 (by omega)
      omega
    by_cases hlt : j < u.size
    · obtain ⟨m, hm, hmu⟩ := HLT.out j hlt
      have hmu2 := hmu
      rw [bs_at u j hlt] at hmu2
      obtain ⟨⟨l2, a2⟩, hp2⟩ := HIN.out (j + 1) (by omega)
      have hp3 := hp2
      rw [withinTo, HW.out, hmu] at hp3
      dsimp only at hp3
      have hr := nextF_rng (bs s) a (97 + (m : Int))
      rw [HSL.out] at hr
      have hnn : ¬ nextF (bs s) a (97 + (m : Int)) < 0 := fun e => by rw [if_pos e] at hp3; cases hp3
      obtain ⟨K, hK⟩ : ∃ K : Nat, nextF (bs s) a (97 + (m : Int)) = (K : Int) := ⟨(nextF (bs s) a (97 + (m : Int))).toNat, by omega⟩
      have hKs : K ≤ s.size := by omega
      have haK : a2 = K := by
        rw [if_neg hnn, hK] at hp3
        injection hp3 with hp3
        injection hp3 with _ h
        simpa using h.symm
      subst haK
      have HNXT := Lib.hid (fun V => HNX.out a (97 + (m : Int)) V (by omega))
      rw [hK] at HNXT
      have hS2 : 1 ≤ sumC (bs s) a m := sumC_pos _ _ _
      have hS3 := sumC_le4 (bs s) a m (by omega) hlen.2
      have hS4 := HB0.out a ha
      obtain ⟨T, hT⟩ : ∃ T : Nat, sumC (bs s) a m = (T : Int) := ⟨(sumC (bs s) a m).toNat, by omega⟩
      have HI2 : Hid (∀ (q : Nat) v, (subsF (bs s) a2)[q]? = some v → (subsF (bs s) 0)[S + T + q]? = some ((bs u).take (j + 1) ++ v)) := fun q v h => by
        have h0 := subsF_len (bs s) a2
        have h1 := (List.getElem?_eq_some_iff.1 h).1
        have h2 := subsF_at (bs s) a m hlen.2 hm a2 hK q (T + q) (by omega) (by omega)
        rw [h] at h2
        have h3 := HI.out (T + q) _ h2
        rw [Nat.add_assoc, h3, List.take_add_one, List.getElem?_eq_getElem (by rw [HUL.out]; exact hlt)]
        have h4 : (bs u)[j]'(by rw [HUL.out]; exact hlt) = 97 + (m : Int) := by
          rw [← hmu, List.getElem?_eq_getElem (by rw [HUL.out]; exact hlt)]; rfl
        rw [h4]; simp
      have HW2 := Lib.hid hp2
      have HKK := Lib.hid hK
      have HTT := Lib.hid hT
      clear hp2 hp3 hK hr hnn hmu hT
      obtain ⟨wo, rfl⟩ : ∃ wo : World, wo = wr := ⟨_, rfl⟩
      go_wp2
      go_loopw [6, 9, 10] (fun sm c _ w' => ∃ (i R : Nat), i ≤ m ∧ c = .int .u8 (97 + (i : Int)) ∧ sm = .int .i64 ((S : Int) + (R : Int)) ∧ Hid (sumC (bs s) a i = (R : Int)) ∧ Dr w1 w') (fun _ c _ _ => 101 - (intOf c).toNat)
      case atStart => exact ⟨0, 1, by omega, by go_num, by go_num, rfl, hD⟩
      case round =>
        obtain ⟨i, R, hi, rfl, rfl, HR, hDi⟩ := hrel
        have hRb := sumC_le4 (bs s) a i (by omega) hlen.2
        rw [HR.out] at hRb
        by_cases hlt2 : i < m
        · have HC2 := Lib.hid (HNX.out a (97 + (i : Int)) wr (by omega))
          have hr := nextF_rng (bs s) a (97 + (i : Int))
          rw [HSL.out] at hr
          have HST : Hid (sumC (bs s) a (i + 1) = sumC (bs s) a i + if nextF (bs s) a (97 + (i : Int)) < 0 then 0 else cntF (bs s) (nextF (bs s) a (97 + (i : Int))).toNat) := rfl
          have hRb2 := sumC_le4 (bs s) a (i + 1) (by omega) hlen.2
          obtain ⟨r, hre⟩ : ∃ r, r = nextF (bs s) a (97 + (i : Int)) := ⟨_, rfl⟩
          rw [← hre] at HC2 hr HST
          clear hre
          by_cases hneg : r < 0
          · have HN2 : Hid (sumC (bs s) a (i + 1) = (R : Int)) := by rw [Hid, HST.out, if_pos hneg, Int.add_zero, HR.out]
            go_wp2_with (go_at_call 54; refine HC2.out.mono ?_; clear HC2; rintro e w2 ⟨rfl, rfl⟩)
            go_roundw
            case rel => exact ⟨i + 1, R, by omega, by go_num, rfl, HN2, hDi⟩
            case measure => simp [intOf]; omega
          · obtain ⟨Q, rfl⟩ : ∃ Q : Nat, r = (Q : Int) := ⟨r.toNat, by omega⟩
            have hQs : Q ≤ s.size := by omega
            have hcell := (hDi.cell _).trans (HC.out Q hQs)
            have hy0 := cntF_nonneg (bs s) Q
            obtain ⟨y, hy⟩ : ∃ y : Nat, cntF (bs s) Q = (y : Int) := ⟨(cntF (bs s) Q).toNat, by omega⟩
            have HN2 : Hid (sumC (bs s) a (i + 1) = ((R + y : Nat) : Int)) := by rw [Hid, HST.out, if_neg hneg, HR.out, Int.toNat_natCast, hy]; omega
            rw [HN2.out] at hRb2
            rw [hy] at hcell
            clear hy hy0
            have q2 : (Q : Int) < (s.size : Int) + 1 := by omega
            go_wp2_with (go_at_call 54; refine HC2.out.mono ?_; clear HC2; rintro e w2 ⟨rfl, rfl⟩)
            go_roundw
            case rel => exact ⟨i + 1, R + y, by omega, by go_num, by go_num, HN2, hDi⟩
            case measure => simp [intOf]; omega
        · obtain rfl : i = m := by omega
          have hRT : R = T := by
            have h1 := HR.out
            have h2 := HTT.out
            omega
          subst hRT
          go_wp2_with (go_at_call 54; refine (HNXT.out _).mono ?_; rintro e w2 ⟨rfl, rfl⟩)
          go_roundw
          case rel => exact ⟨j + 1, S + R, (l2, a2), by omega, by go_num, rfl, by go_num, HW2, HI2, hDi⟩
          case measure => simp [intOf]; omega
    · obtain rfl : j = u.size := by omega
      have HRES : Hid ((subsF (bs s) 0)[S]? = some (bs u)) := by
        have h := HI.out 0 [] (subsF_nil _ _ hlen.2)
        rw [List.append_nil, List.take_of_length_le (by rw [HUL.out]; exact Nat.le_refl _)] at h
        exact h
      go_wp2
      go_ret
      exact ⟨S, rfl, HRES.out, hb1.trans ((hD.below _).mono hb1.size)⟩
end Go.Proofs.Ytkemcmeagnggeaa
/- Layer 3: contract: Item. -/
namespace Go.Proofs.Ytkemcmeagnggeaa
open Go.RowKit
set_option linter.unusedVariables false

/-- A string of one letter. -/
def chr (c : Nat) : ByteArray := ⟨#[UInt8.ofNat c]⟩
theorem bs_chr (c : Nat) (h : c < 256) : bs (chr c) = [(c : Int)] := by
  simp [bs, chr, UInt8.toNat_ofNat', Nat.mod_eq_of_lt h]
theorem bs_append (a b : ByteArray) : bs (a ++ b) = bs a ++ bs b := by simp [bs]
theorem bs_empty : bs ⟨#[]⟩ = [] := rfl
theorem one_letter (w : World) (c : Nat) (hc : c < 256) (x : Int) (hx : x = (c : Int)) (p : Nat) (hp : p = w.heap.size) : (convert 64 9 (.slice (some ⟨p, 0, none⟩) 1 1)).run Try.prog (w.alloc (.cells #[.int .u8 x] 5)) = .ok (.string (chr c)) (w.alloc (.cells #[.int .u8 x] 5)) := by
  subst hp; subst hx
  have h := run_convert_bytes_back (P := Try.prog) (w.alloc (.cells #[.int .u8 (c : Int)] 5)) 64 9 5 ⟨w.heap.size, 0, none⟩ 1 [UInt8.ofNat c] Try.underlying64 Try.underlying5 Try.underlying9 (fun j hj => by
    have : j = 0 := by simpa using hj
    subst this
    simp [Addr.add, UInt8.toNat_ofNat', Nat.mod_eq_of_lt hc])
  exact h

theorem out_step (S R Q : Option (List Int)) (out : ByteArray) (n : Nat) (hn : n < 256) (h1 : S = R.map (bs out ++ ·)) (h2 : R = Q.map (((n : Nat) : Int) :: ·)) : S = Q.map (bs (out ++ chr n) ++ ·) := by
  subst h2; subst h1
  rw [Option.map_map, bs_append, bs_chr n hn]
  cases Q <;> simp
set_option maxRecDepth 100000 in
set_option maxHeartbeats 1600000 in
theorem item_any (s : ByteArray) (k0 : Nat) (w : World) (hs : s.size ≤ 60) (hk : (k0 : Int) < cntF (bs s) 0) :
    Calls Try.prog 28 #[.string s, .int .i64 k0] w fun e w' => ∃ o : ByteArray, e = .returned (.string o) ∧ (subsF (bs s) 0)[k0]? = some (bs o) ∧ Below w.heap.size w w' := by
  have HCT := Lib.hid (counts_tab s w hs)
  have HNX : Hid (∀ (f : Nat) (c : Int) V, f ≤ 60 → Calls Try.prog 54 #[.string s, .int .i64 f, .int .u8 c] V fun e w' => e = .returned (.int .i64 (nextF (bs s) f c)) ∧ V = w') := fun f c V hf => next_any s f c V (by omega) (by omega)
  have HSL := Lib.hid (bs_len s)
  have HB0 : Hid (∀ i, i ≤ s.size → cntF (bs s) i ≤ 1152921504606846976) := fun i hi => cntF_bound _ i (by rw [bs_len]; exact hi) (by rw [bs_len]; exact hs)
  have hk60 : k0 ≤ 1152921504606846976 := by have := HB0.out 0 (by omega); omega
  have HK := Lib.hid hk; clear hk
  go_enter Try.func28, Try.ntmps28
  go_wp2_with (go_at_call 27; refine HCT.out.mono ?_; clear HCT; rintro e w1 ⟨g, cap, rfl, hg, hc, hb1⟩; have HC := Lib.hid hc; clear hc)
  go_loopw [1, 6, 7, 8, 9] (fun kk o a _ _ w' => ∃ (k A : Nat) (out : ByteArray), k ≤ k0 ∧ A ≤ s.size ∧ out.size ≤ A ∧ kk = .int .i64 (k : Int) ∧ a = .int .i64 (A : Int) ∧ o = .string out ∧ Hid ((k : Int) < cntF (bs s) A) ∧ Hid ((subsF (bs s) 0)[k0]? = ((subsF (bs s) A)[k]?).map (bs out ++ ·)) ∧ Below w1.heap.size w1 w') (fun kk _ _ _ _ _ => (intOf kk).toNat)
  case atStart => exact ⟨k0, 0, ⟨#[]⟩, Nat.le_refl _, by omega, by decide, rfl, by go_num, rfl, HK, (by rw [Hid]; cases (subsF (bs s) 0)[k0]? <;> simp [bs]), Below.refl _ _⟩
  case round =>
    obtain ⟨k, A, out, hk, hA, ho, rfl, rfl, rfl, HKA, HSU, hD⟩ := hrel
    have hKl := HKA.out
    by_cases hpos : 0 < k
    · obtain ⟨wo, rfl⟩ : ∃ wo : World, wo = wr := ⟨_, rfl⟩
      go_wp2
      go_loopw [1, 6, 7, 8, 9] (fun kk o a c _ w' => ∃ (i x : Nat), i ≤ 4 ∧ x ≤ k0 ∧ o = .string out ∧ a = .int .i64 (A : Int) ∧ c = .int .u8 (97 + (i : Int)) ∧ kk = .int .i64 (x : Int) ∧ Hid ((k : Int) = sumC (bs s) A i + x) ∧ Below w1.heap.size w1 w') (fun _ _ _ c _ _ => 101 - (intOf c).toNat)
      case atStart => exact ⟨0, k - 1, by omega, by omega, rfl, rfl, by go_num, by go_num, (by rw [Hid]; show (k : Int) = 1 + ((k - 1 : Nat) : Int); omega), hD⟩
      case round =>
        obtain ⟨i, x, hi, hx, rfl, rfl, rfl, rfl, HX, hDi⟩ := hrel
        have hsm := HX.out
        by_cases hi4 : i < 4
        · have HC2 := Lib.hid (HNX.out A (97 + (i : Int)) wr (by omega))
          have hr := nextF_rng (bs s) A (97 + (i : Int))
          rw [HSL.out] at hr
          have HST : Hid (sumC (bs s) A (i + 1) = sumC (bs s) A i + if nextF (bs s) A (97 + (i : Int)) < 0 then 0 else cntF (bs s) (nextF (bs s) A (97 + (i : Int))).toNat) := rfl
          obtain ⟨r, hre⟩ : ∃ r, r = nextF (bs s) A (97 + (i : Int)) := ⟨_, rfl⟩
          rw [← hre] at HC2 hr HST
          have HRE := Lib.hid hre; clear hre
          by_cases hneg : r < 0
          · have HN2 : Hid ((k : Int) = sumC (bs s) A (i + 1) + x) := by rw [Hid, HST.out, if_pos hneg, Int.add_zero]; exact hsm
            clear hsm
            go_wp2_with (go_at_call 54; refine HC2.out.mono ?_; clear HC2; rintro e w2 ⟨rfl, rfl⟩)
            go_roundw
            case rel => exact ⟨i + 1, x, by omega, hx, rfl, rfl, by go_num, rfl, HN2, hDi⟩
            case measure => simp [intOf]; omega
          · obtain ⟨Q, rfl⟩ : ∃ Q : Nat, r = (Q : Int) := ⟨r.toNat, by omega⟩
            have hQs : Q ≤ s.size := by omega
            have hcell := (hDi.cell (p := ⟨g, Q, none⟩) hg).trans (HC.out Q hQs)
            have hy0 := cntF_nonneg (bs s) Q
            have hy1 := HB0.out Q hQs
            obtain ⟨y, hy⟩ : ∃ y : Nat, cntF (bs s) Q = (y : Int) := ⟨(cntF (bs s) Q).toNat, by omega⟩
            rw [hy] at hcell hy1
            have q2 : (Q : Int) < (s.size : Int) + 1 := by omega
            by_cases hxy : x < y
            · have HP : Hid ((subsF (bs s) A)[k]? = ((subsF (bs s) Q)[x]?).map ((97 + (i : Int)) :: ·)) := subsF_at (bs s) A i (by rw [HSL.out]; exact hA) hi4 Q HRE.out.symm x k hsm (by rw [hy]; omega)
              have HKX : Hid ((x : Int) < cntF (bs s) Q) := by rw [Hid, hy]; omega
              have hxk : x < k := by have := sumC_pos (bs s) A i; omega
              clear hy hy0 hsm
              have hrA : A < Q := by rcases hr with h | h <;> omega
              have hz1 : (chr (97 + i)).size = 1 := rfl
              have HZ : Hid ((out ++ chr (97 + i)).size = out.size + 1) := by rw [Hid, ByteArray.size_append, hz1]
              have hz2 : out.size + (chr (97 + i)).size ≤ 9223372036854775807 := by omega
              have hcv := one_letter wr (97 + i) (by omega) (97 + (i : Int)) (by omega) _ rfl
              have HOUT : Hid ((subsF (bs s) 0)[k0]? = ((subsF (bs s) Q)[x]?).map (bs (out ++ chr (97 + i)) ++ ·)) := out_step _ _ _ out (97 + i) (by omega) HSU.out HP.out
              have hDn := hDi.alloc hDi.size (.cells #[.int .u8 (97 + (i : Int))] 5)
              go_wp2_with (go_at_call 54; refine HC2.out.mono ?_; clear HC2; rintro e w2 ⟨rfl, rfl⟩)
              clear hcv
              go_roundw
              case rel => exact ⟨x, Q, out ++ chr (97 + i), by omega, hQs, by rw [HZ.out]; omega, rfl, rfl, rfl, HKX, HOUT, hDn⟩
              case measure => simp [intOf]; omega
            · have HN2 : Hid ((k : Int) = sumC (bs s) A (i + 1) + ((x - y : Nat) : Int)) := by
                rw [Hid, HST.out, if_neg hneg, Int.toNat_natCast, hy]; omega
              clear hy hy0 hsm
              go_wp2_with (go_at_call 54; refine HC2.out.mono ?_; clear HC2; rintro e w2 ⟨rfl, rfl⟩)
              go_roundw
              case rel => exact ⟨i + 1, x - y, by omega, by omega, rfl, rfl, by go_num, by go_num, HN2, hDi⟩
              case measure => simp [intOf]; omega
        · obtain rfl : i = 4 := by omega
          have := cntF_sum (bs s) A (by rw [HSL.out]; exact hA)
          omega
    · obtain rfl : k = 0 := by omega
      have HRES : Hid ((subsF (bs s) 0)[k0]? = some (bs out)) := by
        rw [Hid, HSU.out, subsF_nil _ _ (by rw [HSL.out]; exact hA)]; simp
      go_wp2
      go_ret
      exact ⟨out, rfl, HRES.out, hb1.trans (hD.mono hb1.size)⟩
end Go.Proofs.Ytkemcmeagnggeaa
