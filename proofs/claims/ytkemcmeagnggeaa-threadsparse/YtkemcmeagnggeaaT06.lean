import Derived.Test.YtkemcmeagnggeaaT05
import Derived.Test.YtkemcmeagnggeaaT01
import Derived.Test.YtkemcmeagnggeaaT02
/- Layer 3: the program's Count, Index. -/
namespace Go.Proofs.Ytkemcmeagnggeaa
open Go.RowKit
set_option linter.unusedVariables false

/-- The rows of stepsOf and countsOf as a function keeps them. -/
structure BothIn (w w' : World) (b d : Nat) (ws : List Int) : Prop where
  srow : Rw w' b 72 248 (stepG ws)
  crow : Rw w' d 86 62 (cntG ws)
  below : Below w.heap.size w w'
theorem BothIn.of {w w1 w3 w5 : World} {ws : List Int} (h1 : Dr w w1) (h3 : Below w1.heap.size w1 w3) (h5 : Below (w3.alloc (.cells (rowV 248 (stepG ws)) 72)).heap.size (w3.alloc (.cells (rowV 248 (stepG ws)) 72)) w5) :
    BothIn w (w5.alloc (.cells (rowV 62 (cntG ws)) 86)) w3.heap.size w5.heap.size ws := by
  have h := StepsIn.of (f := stepG ws) h1 h3
  have hs := h.below.size
  refine ⟨(h.row.below h5 h.row.lt).alloc _, Rw.new _ _ _ _, ?_⟩
  exact (h.below.trans (h5.mono hs)).alloc (Nat.le_trans hs h5.size) _
theorem cntG_at {w : List Int} {i : Nat} (h : i ≤ w.length) : cntG w i = cntF w i := if_pos h

theorem countP_bad (s : ByteArray) (w : World) (hs : s.size ≤ 1000000) (h : wordB (bs s) = false) :
    Calls Try.prog 25 #[.string s] w fun e w' => e = .returned (.tuple #[.int .i64 0, .int .i64 2]) ∧ Dr w w' := by
  have HS := Lib.hid (fun W => isWord_is s false W (by omega) h)
  clear h
  go_enter Try.func25, Try.ntmps25
  go_wp2_with (go_at_call 48; refine (HS.out _).mono ?_; rintro e w1 ⟨rfl, hd1⟩)
  go_ret2
  exact ⟨rfl, hd1⟩
set_option maxRecDepth 100000 in
set_option maxHeartbeats 800000 in
theorem countP_any (s : ByteArray) (w : World) (hs : wordB (bs s) = true) :
    Calls Try.prog 25 #[.string s] w fun e w' => e = .returned (.tuple #[.int .i64 (cntF (bs s) 0), .int .i64 0]) ∧ Below w.heap.size w w' := by
  have hs60 := word_size hs
  have HS := Lib.hid (fun W => isWord_is s true W (by omega) hs)
  have HST := Lib.hid (fun W => stepsOf_any s W hs)
  have HCO := Lib.hid (fun b t W hr => countsOf_any s b t W hs60 hr)
  have HONE := Lib.hid (rowV_one 248 (stepG (bs s)))
  have HON2 := Lib.hid (rowV_one 62 (cntG (bs s)))
  have HC0 : Hid (cntG (bs s) 0 = cntF (bs s) 0) := cntG_at (Nat.zero_le _)
  clear hs
  go_enter Try.func25, Try.ntmps25
  go_wp2_with (first | (go_at_call 48; refine (HS.out _).mono ?_; rintro e w1 ⟨rfl, hd1⟩) | (go_at_call 49; refine (HST.out _).mono ?_; rintro e w3 ⟨rfl, hb3⟩) | (refine wpList_alloc_row (by rfl) 72 (by rfl) _ Try.zeroSteps ?_) | (refine wpList_store_new (by rfl) 72 (.tmp 4) (.tmp 10) (by rfl) w3 _ _ (by rfl) (by rfl) (Try.infSteps _) (rowV_same _ _ _) HONE.out ?_))
  refine (HCO.out w3.heap.size 72 (w3.alloc (.cells (rowV 248 (stepG (bs s))) 72)) (Rw.new w3 72 248 (stepG (bs s)))).mono ?_
  rintro e w5 ⟨rfl, hb5⟩
  go_wp2_with (first | (refine wpList_alloc_row (by rfl) 86 (by rfl) _ Try.zeroCounts ?_) | (refine wpList_store_new (by rfl) 86 (.tmp 5) (.tmp 12) (by rfl) w5 _ _ (by rfl) (by rfl) (Try.infCounts _) (rowV_same _ _ _) HON2.out ?_; have hbi := BothIn.of hd1 hb3 hb5; have hc0 := hbi.crow.cell (i := 0) (by omega); rw [HC0.out] at hc0))
  go_ret2
  exact ⟨rfl, hbi.below⟩
end Go.Proofs.Ytkemcmeagnggeaa
/- Layer 3: the program's Index. -/
namespace Go.Proofs.Ytkemcmeagnggeaa
open Go.RowKit
set_option linter.unusedVariables false

theorem run_slice_arr (W : World) (b o m : Nat) (hm : m ≤ 4) :
    (Instr.sliceAt 70 (.pointer (some ⟨b, o, none⟩)) none (some (.int .i64 (m : Int))) none).run Try.prog W = .ok (.slice (some ⟨b, o, none⟩) m 4) W := by
  have hu := Try.underlying70
  have hl : Try.prog.arrayLen 70 = 4 := by simp [Program.arrayLen, hu]
  have he : Try.prog.elem 70 = 3 := by simp [Program.elem, hu]
  have hs : (sizeOf 3).run Try.prog W = .ok 1 W := by
    obtain ⟨i0, hi, hz0, hz1, hz2⟩ := info_parts Try.infoInt
    simp [sizeOf, typeInfo, hi, hz1]
  rw [run_sliceAt_array_h W 70 ⟨b, o, none⟩ (by rw [hl, he]; exact hu) .i64 (m : Int) (by omega) (by rw [hl]; omega), he, hs, hl]
  simp [slicedAt, Addr.add]

set_option maxHeartbeats 800000 in
theorem indexP_bad (s u : ByteArray) (w : World) (hu : u.size ≤ 1000000) (hs : s.size ≤ 1000000) (h : wordB (bs s) = false ∨ wordB (bs u) = false) :
    Calls Try.prog 29 #[.string s, .string u] w fun e w' => e = .returned (.tuple #[.int .i64 0, .int .i64 2]) ∧ Dr w w' := by
  by_cases h1 : wordB (bs s) = true
  · have h2 : wordB (bs u) = false := by rcases h with h | h <;> simp_all
    have HS := Lib.hid (fun W => isWord_is s true W (by omega) h1)
    have HU := Lib.hid (fun W => isWord_is u false W (by omega) h2)
    clear h h1 h2
    go_enter Try.func29, Try.ntmps29
    go_wp2_with (first | (go_at_call 48; (with_reducible refine (HS.out _).mono ?_); rintro e w1 ⟨rfl, hd1⟩) | (go_at_call 48; (with_reducible refine (HU.out _).mono ?_); rintro e w2 ⟨rfl, hd2⟩))
    go_ret2
    exact ⟨rfl, hd1.trans hd2⟩
  · have HS := Lib.hid (fun W => isWord_is s false W (by omega) (by simpa using h1))
    clear h h1
    go_enter Try.func29, Try.ntmps29
    go_wp2_with (first | (go_at_call 48; (with_reducible refine (HS.out _).mono ?_); rintro e w1 ⟨rfl, hd1⟩))
    go_ret2
    exact ⟨rfl, hd1⟩

theorem sumC_nextG {w : List Int} {q m : Nat} (hq : q ≤ w.length) (hw : w.length ≤ 60) : ∃ k : Nat, stepF w q m = (k : Int) ∧ k < 62 ∧ sumC w q (m + 1) = sumC w q m + cntG w k ∧ 0 ≤ cntG w k := by
  have hs : sumC w q (m + 1) = sumC w q m + if nextF w q (97 + (m : Int)) < 0 then 0 else cntF w (nextF w q (97 + (m : Int))).toNat := rfl
  rcases stepF_next (w := w) (p := q) (c := m) with ⟨h1, h2⟩ | ⟨k, h1, h2, h3, h4⟩
  · refine ⟨61, h2, by omega, ?_, ?_⟩
    · rw [hs, if_pos h1]; unfold cntG; rw [if_neg (by omega)]
    · unfold cntG; rw [if_neg (by omega)]; exact Int.le_refl _
  · refine ⟨k, h2, by omega, ?_, ?_⟩
    · rw [hs, h1, if_neg (by omega), Int.toNat_natCast, cntG_at h4]
    · rw [cntG_at h4]; exact cntF_nonneg _ _
/-- What Index gives. -/
def IxPost (ws us : List Int) (e : Ending) : Prop :=
  (withinF us ws = none ∧ e = .returned (.tuple #[.int .i64 0, .int .i64 6])) ∨ ∃ k : Nat, (withinF us ws).isSome = true ∧ e = .returned (.tuple #[.int .i64 k, .int .i64 0]) ∧ (subsF ws 0)[k]? = some us
theorem IxPost.none {ws us : List Int} {e : Ending} (h : withinF us ws = none) (he : e = .returned (.tuple #[.int .i64 0, .int .i64 6])) : IxPost ws us e := .inl ⟨h, he⟩

set_option maxRecDepth 100000 in
set_option maxHeartbeats 1600000 in
theorem indexP_any (s u : ByteArray) (w : World) (hs : wordB (bs s) = true) (hu : wordB (bs u) = true) :
    Calls Try.prog 29 #[.string s, .string u] w fun e w' => IxPost (bs s) (bs u) e ∧ Below w.heap.size w w' := by
  have hs60 := word_size hs
  have hu60 := word_size hu
  have HS := Lib.hid (fun W => isWord_is s true W (by omega) hs)
  have HU := Lib.hid (fun W => isWord_is u true W (by omega) hu)
  have HST := Lib.hid (fun W => stepsOf_any s W hs)
  have HCO := Lib.hid (fun b t W hr => countsOf_any s b t W hs60 hr)
  have HONE := Lib.hid (rowV_one 248 (stepG (bs s)))
  have HON2 := Lib.hid (rowV_one 62 (cntG (bs s)))
  have HUW := Lib.hid hu
  have HSL := Lib.hid (bs_len s)
  have HUL := Lib.hid (bs_len u)
  have HB0 : Hid (∀ i, i ≤ s.size → cntF (bs s) i ≤ 1152921504606846976) := fun i hi => cntF_bound _ i (by rw [bs_len]; exact hi) (by rw [bs_len]; exact hs60)
  clear hs hu
  go_enter Try.func29, Try.ntmps29
  go_wp2_with (first | (go_at_call 48; (with_reducible refine (HS.out _).mono ?_); rintro e w1 ⟨rfl, hd1⟩) | (go_at_call 48; (with_reducible refine (HU.out _).mono ?_); rintro e w2 ⟨rfl, hd2⟩) | (go_at_call 49; refine (HST.out _).mono ?_; rintro e w3 ⟨rfl, hb3⟩) | (refine wpList_alloc_row (by rfl) 72 (by rfl) _ Try.zeroSteps ?_) | (refine wpList_store_new (by rfl) 72 (.tmp 6) (.tmp 23) (by rfl) w3 _ _ (by rfl) (by rfl) (Try.infSteps _) (rowV_same _ _ _) HONE.out ?_))
  refine (HCO.out w3.heap.size 72 (w3.alloc (.cells (rowV 248 (stepG (bs s))) 72)) (Rw.new w3 72 248 (stepG (bs s)))).mono ?_
  rintro e w5 ⟨rfl, hb5⟩
  go_wp2_with (first | (refine wpList_alloc_row (by rfl) 86 (by rfl) _ Try.zeroCounts ?_) | (refine wpList_store_new (by rfl) 86 (.tmp 7) (.tmp 25) (by rfl) w5 _ _ (by rfl) (by rfl) (Try.infCounts _) (rowV_same _ _ _) HON2.out ?_))
  have hbi := BothIn.of (ws := bs s) (hd1.trans hd2) hb3 hb5
  generalize w3.heap.size = b at hbi ⊢
  generalize w5.heap.size = d at hbi ⊢
  generalize w5.alloc (.cells (rowV 62 (cntG (bs s))) 86) = w6 at hbi ⊢
  have HBI := Lib.hid hbi
  clear hbi hd1 hd2 hb3 hb5 HONE HON2 HS HU HST HCO
  go_loopw [8, 9, 28] (fun sm p i w' => ∃ (j S : Nat) (q : List Int × Nat), j ≤ u.size ∧ i = .int .i64 (j : Int) ∧ p = .int .i64 (q.2 : Int) ∧ sm = .int .i64 (S : Int) ∧ Hid (withinTo (bs u) (bs s) j = some q) ∧ Hid (∀ (m : Nat) v, (subsF (bs s) q.2)[m]? = some v → (subsF (bs s) 0)[S + m]? = some ((bs u).take j ++ v)) ∧ Dr w6 w') (fun _ _ i _ => u.size - (intOf i).toNat)
  case atStart => exact ⟨0, 0, ([], 0), by omega, by go_num, rfl, by go_num, rfl, fun q v h => by simpa using h, Dr.refl _⟩
  case round =>
    obtain ⟨j, S, ⟨l, a⟩, hj, rfl, rfl, rfl, HW, HI, hD⟩ := hrel
    have hlen := withinTo_len HW.out
    dsimp only at hlen HI
    have ha : a ≤ s.size := by have := hlen.2; rw [HSL.out] at this; exact this
    have hSb : S ≤ 1152921504606846976 := by
      have h1 := HI.out 0 [] (subsF_nil _ _ hlen.2)
      have h2 := (List.getElem?_eq_some_iff.1 h1).1
      have h3 := subsF_len (bs s) 0
      have h4 := HB0.out 0 (by omega)
      omega
    by_cases hlt : j < u.size
    · obtain ⟨m, hm, hmu, hbv⟩ := letter_of HUW.out hlt
      have HLO := Lib.hid (fun W => letterOf_any m W (by omega))
      have hS3 := sumC_le4 (bs s) a m (by omega) hlen.2
      have hS4 := HB0.out a ha
      have hS5 := sumC_pos (bs s) a m
      have HMU := Lib.hid hmu; clear hmu
      have HLEN := Lib.hid hlen.2; clear hlen
      obtain ⟨wo, rfl⟩ : ∃ wo : World, wo = wr := ⟨_, rfl⟩
      have hSW : IntKind.i64.wrap ((S : Int) + 1) = (S : Int) + 1 := IntWalk.i64_in _ (by omega)
      have hsl := fun W => run_slice_arr W b (a * 4) m (by omega)
      go_wp2_with (go_at_call 50; refine (HLO.out _).mono ?_; rintro e w7 ⟨rfl, rfl⟩)
      clear hSW hsl
      go_loopw [8, 42] (fun sm c w' => ∃ (i R : Nat), i ≤ m ∧ c = .int .i64 (i : Int) ∧ sm = .int .i64 ((S : Int) + (R : Int)) ∧ Hid (sumC (bs s) a i = (R : Int)) ∧ Dr w6 w') (fun _ c _ => m - (intOf c).toNat)
      case atStart => exact ⟨0, 1, by omega, by go_num, by go_num, rfl, hD⟩
      case round =>
        obtain ⟨i, R, hi, rfl, rfl, HR, hDi⟩ := hrel
        by_cases hlt2 : i < m
        · obtain ⟨k, hk, hk62, hsum, hk0⟩ := sumC_nextG (w := bs s) (q := a) (m := i) HLEN.out (by rw [HSL.out]; omega)
          have hb1 := sumC_le4 (bs s) a (i + 1) (by omega) HLEN.out
          have hb2 := sumC_pos (bs s) a i
          rw [hsum, HR.out] at hb1
          rw [HR.out] at hb2
          have hc1 := (HBI.out.srow.below (below_of_dr hDi) HBI.out.srow.lt).cell (i := a * 4 + i) (by omega)
          rw [stepG_at _ (by omega), hk] at hc1
          have hc2 := (HBI.out.crow.below (below_of_dr hDi) HBI.out.crow.lt).cell (i := k) hk62
          obtain ⟨y, hy⟩ : ∃ y : Nat, cntG (bs s) k = (y : Int) := ⟨(cntG (bs s) k).toNat, by omega⟩
          rw [hy] at hc2 hb1
          have HN : Hid (sumC (bs s) a (i + 1) = ((R + y : Nat) : Int)) := by rw [Hid, hsum, HR.out, hy]; omega
          clear hsum hy hk0 hk
          have hk1 : (k : Int) < 62 := by omega
          have hi1 : (i : Int) < (m : Int) := by omega
          go_wp2
          go_roundw
          case rel => exact ⟨i + 1, R + y, by omega, by go_num, by go_num, HN, hDi⟩
          case measure => (simp [intOf]; try omega)
        · obtain rfl : i = m := by omega
          have hc1 := (HBI.out.srow.below (below_of_dr hDi) HBI.out.srow.lt).cell (i := a * 4 + i) (by omega)
          rw [stepG_at _ (by omega)] at hc1
          have HST : Hid (withinTo (bs u) (bs s) (j + 1) = if nextF (bs s) a (97 + (i : Int)) < 0 then none else some (l ++ [nextF (bs s) a (97 + (i : Int)) - 1], (nextF (bs s) a (97 + (i : Int))).toNat)) := by
            rw [Hid, withinTo, HW.out, HMU.out]
          have hi4 : (i : Int) < 4 := by omega
          rcases stepF_next (w := bs s) (p := a) (c := i) with ⟨hneg, he⟩ | ⟨q, hq, he, haq, hqs⟩
          · have HF : Hid (withinF (bs u) (bs s) = none) := by
              unfold withinF
              rw [Hid, withinTo_none (k := j + 1) (by rw [HUL.out]; omega) (by rw [HST.out, if_pos hneg])]; rfl
            rw [he] at hc1
            clear he hneg
            go_wp2
            go_ret2
            exact ⟨IxPost.none HF.out rfl, HBI.out.below.trans (below_of_dr hDi)⟩
          · have HS2 : Hid (withinTo (bs u) (bs s) (j + 1) = some (l ++ [(q : Int) - 1], q)) := by rw [Hid, HST.out, hq, if_neg (by omega), Int.toNat_natCast]
            have HI2 : Hid (∀ (t : Nat) v, (subsF (bs s) q)[t]? = some v → (subsF (bs s) 0)[S + R + t]? = some ((bs u).take (j + 1) ++ v)) := fun t v h => by
              have h0 := subsF_len (bs s) q
              have h1 := (List.getElem?_eq_some_iff.1 h).1
              have h2 := subsF_at (bs s) a i HLEN.out (by omega) q hq t (R + t) (by rw [HR.out]; omega) (by omega)
              rw [h] at h2
              have h3 := HI.out (R + t) _ h2
              rw [Nat.add_assoc, h3, List.take_add_one, List.getElem?_eq_getElem (by rw [HUL.out]; exact hlt)]
              have h4 : (bs u)[j]'(by rw [HUL.out]; exact hlt) = 97 + (i : Int) := by
                rw [← HMU.out, List.getElem?_eq_getElem (by rw [HUL.out]; exact hlt)]; rfl
              rw [h4]; simp
            rw [he] at hc1
            rw [HSL.out] at hqs
            clear he hq
            have gq : ((q : Int) == 61) = false := by simp; omega
            go_wp2
            go_roundw
            case rel => exact ⟨j + 1, S + R, (l ++ [(q : Int) - 1], q), by omega, by go_num, rfl, by go_num, HS2, HI2, hDi⟩
            case measure => (simp [intOf]; try omega)
    · obtain rfl : j = u.size := by omega
      have HF : Hid ((withinF (bs u) (bs s)).isSome = true) := by
        unfold withinF
        rw [Hid, HUL.out, HW.out]; rfl
      have HR : Hid ((subsF (bs s) 0)[S]? = some (bs u)) := by
        have h := HI.out 0 [] (subsF_nil _ _ hlen.2)
        rw [Hid]
        simpa [← HUL.out] using h
      go_wp2
      go_ret2
      exact ⟨.inr ⟨S, HF.out, rfl, HR.out⟩, HBI.out.below.trans (below_of_dr hD)⟩
end Go.Proofs.Ytkemcmeagnggeaa
/- Layer 3: the program's Item. -/
namespace Go.Proofs.Ytkemcmeagnggeaa
open Go.RowKit
set_option linter.unusedVariables false

theorem itemP_bad (s : ByteArray) (k : Int) (w : World) (hs : s.size ≤ 1000000) (h : wordB (bs s) = false) :
    Calls Try.prog 26 #[.string s, .int .i64 k] w fun e w' => e = .returned (.tuple #[.string ByteArray.empty, .int .i64 2]) ∧ Dr w w' := by
  have HS := Lib.hid (fun W => isWord_is s false W (by omega) h)
  clear h
  go_enter Try.func26, Try.ntmps26
  go_wp2_with (go_at_call 48; refine (HS.out _).mono ?_; rintro e w1 ⟨rfl, hd1⟩)
  go_ret2
  exact ⟨rfl, hd1⟩
theorem conv_owb {w : World} {B : Nat} {v : Value} {p : List UInt8} (h : Owb w B 5 v p) : (convert 64 9 v).run Try.prog w = .ok (.string ⟨p.toArray⟩) w := by
  rcases h.2 with ⟨he, h0⟩ | ⟨g, cap, cur, he, _⟩
  · have hp0 : p = [] := List.eq_nil_of_length_eq_zero h0
    subst hp0
    rw [he]
    exact run_convert_bytes_nil w _ _ Try.underlying64 Try.underlying5 0 0 _ Try.underlying9
  · subst he
    exact string_of _ _ Try.underlying64 Try.underlying5 Try.underlying9 h rfl
/-- The bytes of a list, as ints. -/
def bl (p : List UInt8) : List Int := p.map fun b => (b.toNat : Int)
theorem bs_of (p : List UInt8) : bs ⟨p.toArray⟩ = bl p := rfl
theorem bl_push (p : List UInt8) (c : Nat) (h : c < 256) : bl (p ++ [UInt8.ofNat c]) = bl p ++ [(c : Int)] := by
  simp [bl, UInt8.toNat_ofNat', Nat.mod_eq_of_lt h]
theorem out_stepL (S R Q : Option (List Int)) (p : List UInt8) (n : Nat) (hn : n < 256) (h1 : S = R.map (bl p ++ ·)) (h2 : R = Q.map (((n : Nat) : Int) :: ·)) : S = Q.map (bl (p ++ [UInt8.ofNat n]) ++ ·) := by
  subst h2; subst h1
  rw [Option.map_map, bl_push p n hn]
  cases Q <;> simp

set_option maxRecDepth 100000 in
set_option maxHeartbeats 1600000 in
theorem itemP_none (s : ByteArray) (k : Int) (w : World) (hs : wordB (bs s) = true) (hk : k < 0 ∨ cntF (bs s) 0 ≤ k) :
    Calls Try.prog 26 #[.string s, .int .i64 k] w fun e w' => e = .returned (.tuple #[.string ByteArray.empty, .int .i64 2]) ∧ Below w.heap.size w w' := by
  have hs60 := word_size hs
  have HS := Lib.hid (fun W => isWord_is s true W (by omega) hs)
  have HST := Lib.hid (fun W => stepsOf_any s W hs)
  have HCO := Lib.hid (fun b t W hr => countsOf_any s b t W hs60 hr)
  have HONE := Lib.hid (rowV_one 248 (stepG (bs s)))
  have HON2 := Lib.hid (rowV_one 62 (cntG (bs s)))
  have HC0 : Hid (cntG (bs s) 0 = cntF (bs s) 0) := cntG_at (Nat.zero_le _)
  clear hs
  by_cases hk0 : k < 0
  · clear hk
    go_enter Try.func26, Try.ntmps26
    go_wp2_with (first | (go_at_call 48; refine (HS.out _).mono ?_; rintro e w1 ⟨rfl, hd1⟩) | (go_at_call 49; refine (HST.out _).mono ?_; rintro e w3 ⟨rfl, hb3⟩) | (refine wpList_alloc_row (by rfl) 72 (by rfl) _ Try.zeroSteps ?_) | (refine wpList_store_new (by rfl) 72 (.tmp 6) (.tmp 15) (by rfl) w3 _ _ (by rfl) (by rfl) (Try.infSteps _) (rowV_same _ _ _) HONE.out ?_))
    refine (HCO.out w3.heap.size 72 (w3.alloc (.cells (rowV 248 (stepG (bs s))) 72)) (Rw.new w3 72 248 (stepG (bs s)))).mono ?_
    rintro e w5 ⟨rfl, hb5⟩
    go_wp2_with (first | (refine wpList_alloc_row (by rfl) 86 (by rfl) _ Try.zeroCounts ?_) | (refine wpList_store_new (by rfl) 86 (.tmp 7) (.tmp 17) (by rfl) w5 _ _ (by rfl) (by rfl) (Try.infCounts _) (rowV_same _ _ _) HON2.out ?_; have hbi := BothIn.of hd1 hb3 hb5; have hc0 := hbi.crow.cell (i := 0) (by omega); rw [HC0.out] at hc0))
    go_ret2
    exact ⟨rfl, hbi.below⟩
  · have hk1 : cntF (bs s) 0 ≤ k := by omega
    clear hk
    go_enter Try.func26, Try.ntmps26
    go_wp2_with (first | (go_at_call 48; refine (HS.out _).mono ?_; rintro e w1 ⟨rfl, hd1⟩) | (go_at_call 49; refine (HST.out _).mono ?_; rintro e w3 ⟨rfl, hb3⟩) | (refine wpList_alloc_row (by rfl) 72 (by rfl) _ Try.zeroSteps ?_) | (refine wpList_store_new (by rfl) 72 (.tmp 6) (.tmp 15) (by rfl) w3 _ _ (by rfl) (by rfl) (Try.infSteps _) (rowV_same _ _ _) HONE.out ?_))
    refine (HCO.out w3.heap.size 72 (w3.alloc (.cells (rowV 248 (stepG (bs s))) 72)) (Rw.new w3 72 248 (stepG (bs s)))).mono ?_
    rintro e w5 ⟨rfl, hb5⟩
    go_wp2_with (first | (refine wpList_alloc_row (by rfl) 86 (by rfl) _ Try.zeroCounts ?_) | (refine wpList_store_new (by rfl) 86 (.tmp 7) (.tmp 17) (by rfl) w5 _ _ (by rfl) (by rfl) (Try.infCounts _) (rowV_same _ _ _) HON2.out ?_; have hbi := BothIn.of hd1 hb3 hb5; have hc0 := hbi.crow.cell (i := 0) (by omega); rw [HC0.out] at hc0))
    go_ret2
    exact ⟨rfl, hbi.below⟩

set_option maxRecDepth 100000 in
set_option maxHeartbeats 1600000 in
theorem itemP_any (s : ByteArray) (k0 : Nat) (w : World) (hs : wordB (bs s) = true) (hk : (k0 : Int) < cntF (bs s) 0) :
    Calls Try.prog 26 #[.string s, .int .i64 (k0 : Int)] w fun e w' => ∃ o : ByteArray, e = .returned (.tuple #[.string o, .int .i64 0]) ∧ (subsF (bs s) 0)[k0]? = some (bs o) ∧ Below w.heap.size w w' := by
  obtain ⟨i0, hi0, hz, hsz, hby⟩ := info_parts Try.infoByte
  have HIB := Lib.hid (And.intro hi0 (And.intro hz (And.intro hsz hby))); clear hi0 hz hsz hby
  have hs60 := word_size hs
  have HS := Lib.hid (fun W => isWord_is s true W (by omega) hs)
  have HST := Lib.hid (fun W => stepsOf_any s W hs)
  have HCO := Lib.hid (fun b t W hr => countsOf_any s b t W hs60 hr)
  have HONE := Lib.hid (rowV_one 248 (stepG (bs s)))
  have HON2 := Lib.hid (rowV_one 62 (cntG (bs s)))
  have HC0 : Hid (cntG (bs s) 0 = cntF (bs s) 0) := cntG_at (Nat.zero_le _)
  have HSL := Lib.hid (bs_len s)
  have HB0 : Hid (∀ i, i ≤ s.size → cntF (bs s) i ≤ 1152921504606846976) := fun i hi => cntF_bound _ i (by rw [bs_len]; exact hi) (by rw [bs_len]; exact hs60)
  have hk60 : k0 ≤ 1152921504606846976 := by have := HB0.out 0 (by omega); omega
  have hgc : decide (cntF (bs s) 0 ≤ (k0 : Int)) = false := decide_eq_false (by omega)
  have hg0 : decide ((k0 : Int) < 0) = false := decide_eq_false (by omega)
  have HK := Lib.hid hk
  clear hs hk
  go_enter Try.func26, Try.ntmps26
  go_wp2_with (first | (go_at_call 48; refine (HS.out _).mono ?_; rintro e w1 ⟨rfl, hd1⟩) | (go_at_call 49; refine (HST.out _).mono ?_; rintro e w3 ⟨rfl, hb3⟩) | (refine wpList_alloc_row (by rfl) 72 (by rfl) _ Try.zeroSteps ?_) | (refine wpList_store_new (by rfl) 72 (.tmp 6) (.tmp 15) (by rfl) w3 _ _ (by rfl) (by rfl) (Try.infSteps _) (rowV_same _ _ _) HONE.out ?_))
  refine (HCO.out w3.heap.size 72 (w3.alloc (.cells (rowV 248 (stepG (bs s))) 72)) (Rw.new w3 72 248 (stepG (bs s)))).mono ?_
  rintro e w5 ⟨rfl, hb5⟩
  go_wp2_with (first | (refine wpList_alloc_row (by rfl) 86 (by rfl) _ Try.zeroCounts ?_) | (refine wpList_store_new (by rfl) 86 (.tmp 7) (.tmp 17) (by rfl) w5 _ _ (by rfl) (by rfl) (Try.infCounts _) (rowV_same _ _ _) HON2.out ?_; have hbi := BothIn.of hd1 hb3 hb5; have hc0 := hbi.crow.cell (i := 0) (by omega); rw [HC0.out] at hc0))
  clear hc0 hgc hg0
  generalize w3.heap.size = b at hbi ⊢
  generalize w5.heap.size = d at hbi ⊢
  generalize w5.alloc (.cells (rowV 62 (cntG (bs s))) 86) = w6 at hbi ⊢
  have HBI := Lib.hid hbi
  clear hbi hd1 hb3 hb5 HONE HON2 HS HST HCO
  go_loopw [1, 8, 9] (fun kk v a w' => ∃ (k A : Nat) (out : List UInt8), k ≤ k0 ∧ A ≤ s.size ∧ out.length ≤ A ∧ kk = .int .i64 (k : Int) ∧ a = .int .i64 (A : Int) ∧ Hid (Owb w' w6.heap.size 5 v out) ∧ Hid ((k : Int) < cntF (bs s) A) ∧ Hid ((subsF (bs s) 0)[k0]? = ((subsF (bs s) A)[k]?).map (bl out ++ ·)) ∧ Below w6.heap.size w6 w') (fun kk _ _ _ => (intOf kk).toNat)
  case atStart => exact ⟨k0, 0, [], Nat.le_refl _, by omega, by simp, rfl, by go_num, Owb.nil _ _ _, HK, (by rw [Hid]; cases (subsF (bs s) 0)[k0]? <;> simp [bl]), Below.refl _ _⟩
  case round =>
    obtain ⟨k, A, out, hk, hA, ho, rfl, rfl, HO, HKA, HSU, hD⟩ := hrel
    have hKl := HKA.out
    by_cases hpos : 0 < k
    · obtain ⟨wo, rfl⟩ : ∃ wo : World, wo = wr := ⟨_, rfl⟩
      go_wp2
      go_loopw [1, 10] (fun kk c w' => ∃ (i x : Nat), i ≤ 4 ∧ x ≤ k0 ∧ c = .int .i64 (i : Int) ∧ kk = .int .i64 (x : Int) ∧ Hid ((k : Int) = sumC (bs s) A i + x) ∧ w' = wo) (fun _ c _ => 4 - (intOf c).toNat)
      case atStart => exact ⟨0, k - 1, by omega, by omega, by go_num, by go_num, (by rw [Hid]; show (k : Int) = 1 + ((k - 1 : Nat) : Int); omega), rfl⟩
      case round =>
        obtain ⟨i, x, hi, hx, rfl, rfl, HX, rfl⟩ := hrel
        have hsm := HX.out
        by_cases hi4 : i < 4
        · obtain ⟨Q, hQ, hQ62, hsum, hQ0⟩ := sumC_nextG (w := bs s) (q := A) (m := i) (by rw [HSL.out]; exact hA) (by rw [HSL.out]; omega)
          have hc1 := (HBI.out.srow.below hD HBI.out.srow.lt).cell (i := A * 4 + i) (by omega)
          rw [stepG_at _ (by omega), hQ] at hc1
          have hc2 := (HBI.out.crow.below hD HBI.out.crow.lt).cell (i := Q) hQ62
          obtain ⟨y, hy⟩ : ∃ y : Nat, cntG (bs s) Q = (y : Int) := ⟨(cntG (bs s) Q).toNat, by omega⟩
          rw [hy] at hc2 hsum
          have hb1 := sumC_le4 (bs s) A (i + 1) (by omega) (by rw [HSL.out]; exact hA)
          have hb2 := HB0.out A hA
          have hb3 := sumC_pos (bs s) A i
          have hy1 : y ≤ 1152921504606846976 := by omega
          have hQ1 : (Q : Int) < 62 := by omega
          have hi5 : (i : Int) < 4 := by omega
          have hA1 : (A : Int) < 62 := by omega
          by_cases hxy : x < y
          · obtain ⟨hQn, hQs⟩ : nextF (bs s) A (97 + (i : Int)) = (Q : Int) ∧ A < Q ∧ Q ≤ s.size := by
              rcases stepF_next (w := bs s) (p := A) (c := i) with ⟨h1, h2⟩ | ⟨q, h1, h2, h3, h4⟩
              · exfalso
                have hq : Q = 61 := by omega
                subst hq
                unfold cntG at hy
                rw [if_neg (by rw [HSL.out]; omega)] at hy
                omega
              · have hq : Q = q := by omega
                subst hq
                exact ⟨h1, h3, by rw [HSL.out] at h4; exact h4⟩
            have hyc : cntF (bs s) Q = (y : Int) := by rw [← hy, cntG_at (by rw [HSL.out]; exact hQs.2)]
            have HP : Hid ((subsF (bs s) A)[k]? = ((subsF (bs s) Q)[x]?).map (((97 + i : Nat) : Int) :: ·)) := subsF_at (bs s) A i (by rw [HSL.out]; exact hA) hi4 Q hQn x k hsm (by rw [hyc]; omega)
            have HKX : Hid ((x : Int) < cntF (bs s) Q) := by rw [Hid, hyc]; omega
            have hxk : x < k := by omega
            obtain ⟨z, hz⟩ : ∃ z : UInt8, z = UInt8.ofNat (97 + i) := ⟨_, rfl⟩
            have hzn : (z.toNat : Int) = 97 + (i : Int) := by rw [hz, UInt8.toNat_ofNat']; omega
            have HOUT : Hid ((subsF (bs s) 0)[k0]? = ((subsF (bs s) Q)[x]?).map (bl (out ++ [z]) ++ ·)) := by
              rw [hz]
              exact out_stepL _ _ _ out (97 + i) (by omega) HSU.out HP.out
            have HBY : Hid (∀ W, Calls Try.prog 53 #[.int .i64 (i : Int)] W fun e w' => e = .returned (.int .u8 (z.toNat : Int)) ∧ W = w') := fun W => by rw [hzn]; exact byteOf_any i W (by omega)
            have HLL : Hid (out.length ≤ 1099511627776) := by rw [Hid]; omega
            have hws := hD.size
            have hgx : decide ((y : Int) ≤ (x : Int)) = false := decide_eq_false (by omega)
            have hAQ := hQs.1
            have hQsz := hQs.2
            have HQ' := Lib.hid hQ
            clear hsum hy hQ0 hsm hb1 hb2 hb3 hQ hz hzn hyc hQn hQs
            obtain ⟨wo, rfl⟩ : ∃ wo : World, wo = wr := ⟨_, rfl⟩
            go_wp2_with (first | (go_at_call 53; refine (HBY.out _).mono ?_; rintro e w7 ⟨rfl, rfl⟩) | (at_builtin; go_must (refine pushb_law _ rfl (.tmp 50) (.tmp 53) 64 rfl w6.heap.size 5 i0 Try.underlying64 HIB.out _ out z rfl rfl HO.out HLL.out hws ?_); intro v4 w4 hv4 hg4 hat4; have HO4 := Lib.hid hv4; have HD4 := Lib.hid (hD.grown hg4 hws (fun b hb => (HO.out.lt hb).1)); clear hv4 hg4 hat4; have hc3 := (HBI.out.srow.below HD4.out HBI.out.srow.lt).cell (i := A * 4 + i) (by omega); rw [stepG_at _ (by omega), HQ'.out] at hc3))
            clear hc1 hc2 hc3
            go_roundw
            case rel => exact ⟨x, Q, out ++ [z], by omega, hQsz, by simp; omega, by go_num, by go_num, HO4, HKX, HOUT, HD4.out⟩
            case measure => (simp [intOf]; try omega)
          · have HN2 : Hid ((k : Int) = sumC (bs s) A (i + 1) + ((x - y : Nat) : Int)) := by
              rw [Hid, hsum]; omega
            clear hsum hy hQ0 hsm hb1 hb2 hb3 hQ
            go_wp2
            go_roundw
            case rel => exact ⟨i + 1, x - y, by omega, by omega, by go_num, by go_num, HN2, by first | trivial | rfl⟩
            case measure => (simp [intOf]; try omega)
        · obtain rfl : i = 4 := by omega
          have := cntF_sum (bs s) A (by rw [HSL.out]; exact hA)
          omega
    · obtain rfl : k = 0 := by omega
      have HRES : Hid ((subsF (bs s) 0)[k0]? = some (bs ⟨out.toArray⟩)) := by
        rw [Hid, HSU.out, subsF_nil _ _ (by rw [HSL.out]; exact hA), bs_of]; simp
      have hcv := conv_owb HO.out
      go_wp2
      go_ret2
      exact ⟨_, rfl, HRES.out, HBI.out.below.trans (hD.mono HBI.out.below.size)⟩
end Go.Proofs.Ytkemcmeagnggeaa
