import Derived.Test.YtcnjkdkkflpgnaaT28
/- Layer 8: Phases of the reference, Curve of the program. -/
namespace Go.Proofs.Ytcnjkdkkflpgnaa
open Go.RowKit Go.Maps
set_option linter.unusedVariables false

set_option maxRecDepth 100000 in
set_option maxHeartbeats 12800000 in
theorem phasesR_any (k : Int) (zs : List Int) (A : Option Addr) (n c : Nat) (w : World) (h : Sl w A n c zs) (hn : n ≤ 1000) :
    Calls Try.prog 28 #[.slice A n c, .int .i64 k] w fun e w' => (∃ v, e = .returned v ∧ Ow w' w.heap.size 3 v (phS k zs n)) ∧ Below w.heap.size w w' := by
  obtain ⟨i0, hi, hz0, hz1, hz2⟩ := info_parts Try.infoInt
  have HI : Hid (Try.prog.info? 3 = some i0 ∧ i0.zero = some (.int .i64 0) ∧ i0.size = 1 ∧ i0.bytes = 8) := ⟨hi, hz0, hz1, hz2⟩
  clear hi hz0 hz1 hz2
  have HSL := Lib.hid (fun V (hV : Below w.heap.size w V) => h.below hV (Nat.le_refl _))
  have hbig := h.big
  clear h
  go_enter Try.func28, Try.ntmps28
  go_wp2
  go_loopw [5, 6, 7] (fun u v r w' => ∃ i : Nat, i ≤ n ∧ r = .int .i64 (i : Int) ∧ Hid (Ow w' w.heap.size 3 u (phS k zs i)) ∧ Hid (Ow w' w.heap.size 3 v (phT k zs i)) ∧ Hid (Apart u v) ∧ Hid (Below w.heap.size w w')) (fun _ _ r _ => n - (intOf r).toNat)
  case atStart => exact ⟨0, Nat.zero_le _, by go_num, Ow.nil _ _ _, Ow.nil _ _ _, Or.inl rfl, Below.refl _ _⟩
  case round =>
    obtain ⟨i, hi, rfl, HO, HT, HD, HB⟩ := hrel
    obtain ⟨wo, rfl⟩ : ∃ wo : World, wo = wr := ⟨_, rfl⟩
    by_cases hlt : i < n
    · have i1 : (i : Int) < (n : Int) := by omega
      obtain ⟨b1, o1, rfl, hc1⟩ := (HSL.out wo HB.out).at_ hlt
      rw [show zs[i]?.getD 0 = atI zs i from rfl] at hc1
      have HC : Hid (∀ V, Below w.heap.size w V → V.cell? ⟨b1, o1 + i, none⟩ = some (.int .i64 (atI zs i))) := fun V hV => by
        obtain ⟨b3, o3, e3, hc3⟩ := (HSL.out V hV).at_ hlt
        have e3 := Option.some.inj e3
        injection e3 with e3 e4 _
        rw [← e3, ← e4] at hc3
        exact hc3
      have hsl := phS_len k zs i
      have htl := phT_len k zs i
      have HLS : Hid ((phS k zs i).length ≤ 1099511627776) := by rw [Hid]; omega
      have HLT : Hid ((phT k zs i).length ≤ 1099511627776) := by rw [Hid]; omega
      have HBZ : Hid (w.heap.size ≤ wo.heap.size) := HB.out.size
      have HTN : Hid (phT k zs (i + 1) = phN k i (atI zs i) (phT k zs i)) := rfl
      have HSN : Hid (phS k zs (i + 1) = if atI zs i ∉ phT k zs i ∧ (i = 0 ∨ ((phT k zs i).length : Int) = k) then phS k zs i ++ [(i : Int)] else phS k zs i) := rfl
      obtain ⟨A3, c3, rfl, hs3⟩ := HT.out.sl_len rfl (by omega)
      have HI1 := Lib.hid (fun V (hV : Below wo.heap.size wo V) => index_any (phT k zs i) (atI zs i) A3 _ c3 V (hs3.below hV (Nat.le_refl _)))
      unfold phN at HTN
      clear HSL hs3
      generalize atI zs i = page at *
      generalize phT k zs i = T at *
      generalize phS k zs i = S at *
      obtain ⟨nT, hnT⟩ : ∃ q, q = T.length := ⟨_, rfl⟩
      have HNT := Lib.hid hnT
      rw [← hnT] at HTN HSN HI1 HT HD htl ⊢
      clear hnT
      by_cases hin : page ∈ T
      · rw [if_pos hin] at HTN
        rw [if_neg (fun e => e.1 hin)] at HSN
        have i5 : ¬ ixI T page < 0 := fun e => ixI_mem.1 e hin
        have i6 : ixI T page ≥ 0 := by omega
        clear hin
        generalize ixI T page = p1 at *
        go_wp2_with (go_at_call 50; (with_reducible refine (HI1.out _ (Below.refl _ _)).mono ?_); rintro e v1 ⟨rfl, rfl⟩)
        exact ⟨⟨i + 1, by omega, by go_num, by rw [HSN.out]; exact HO.out, by rw [HTN.out]; exact HT.out, HD.out, HB.out⟩, by simp [intOf]; omega⟩
      · rw [if_neg hin] at HTN
        have i5 : ixI T page < 0 := ixI_mem.2 hin
        have i6 : ¬ ixI T page ≥ 0 := by omega
        by_cases h0 : i = 0
        · rw [if_pos ⟨hin, .inl h0⟩] at HSN
          rw [if_pos (.inl h0)] at HTN
          have i7 : ((i : Int) == 0) = true := by simp; omega
          clear hin h0
          generalize ixI T page = p1 at *
          go_wp2_with (first
            | (go_at_call 50; (with_reducible refine (HI1.out _ (Below.refl _ _)).mono ?_); rintro e v1 ⟨rfl, rfl⟩)
            | (at_builtin; refine push_law _ rfl (.tmp 29) (.tmp 31) 22 rfl w.heap.size 3 i0 Try.underlying22 HI.out _ S _ rfl rfl HO.out HLS.out HBZ.out ?_; intro v3 w3 hv3 hg3 hat3; have HO3 := Lib.hid hv3; have HB3 := Lib.hid (HB.out.grown hg3 HBZ.out (fun j e => (HO.out.lt e).1)); have hc3 := (HC.out w3 HB3.out); have HZ3 : Hid (w.heap.size ≤ w3.heap.size) := HB3.out.size; clear hv3 hg3 hat3 hc1)
            | (at_builtin; refine push_law _ rfl (.tmp 33) (.tmp 38) 22 rfl w.heap.size 3 i0 Try.underlying22 HI.out (.slice none 0 0) [] page rfl rfl (Ow.nil _ _ _) (by simp) HZ3.out ?_; intro v4 w4 hv4 hg4 hat4; have HT4 := Lib.hid hv4; have HB4 := Lib.hid (HB3.out.grown hg4 HZ3.out (fun j e => by cases e)); have HO4 := Lib.hid (HO3.out.kept hg4 (Apart.symm (Or.inl rfl))); have HD4 := Lib.hid ((Apart.pushed (Or.inl rfl : Apart (.slice none 0 0) v3) HO3.out hat4).symm); clear hv4 hg4 hat4))
          exact ⟨⟨i + 1, by omega, by go_num, by rw [HSN.out]; exact HO4.out, by rw [HTN.out]; exact HT4.out, HD4.out, HB4.out⟩, by simp [intOf]; omega⟩
        · have i7 : ((i : Int) == 0) = false := by simp; omega
          by_cases hk : (nT : Int) = k
          · rw [if_pos ⟨hin, .inr hk⟩] at HSN
            rw [if_pos (.inr hk)] at HTN
            have i8 : ((nT : Int) == k) = true := by simp; exact hk
            clear hin h0 hk
            generalize ixI T page = p1 at *
            go_wp2_with (first
              | (go_at_call 50; (with_reducible refine (HI1.out _ (Below.refl _ _)).mono ?_); rintro e v1 ⟨rfl, rfl⟩)
              | (at_builtin; refine push_law _ rfl (.tmp 29) (.tmp 31) 22 rfl w.heap.size 3 i0 Try.underlying22 HI.out _ S _ rfl rfl HO.out HLS.out HBZ.out ?_; intro v3 w3 hv3 hg3 hat3; have HO3 := Lib.hid hv3; have HB3 := Lib.hid (HB.out.grown hg3 HBZ.out (fun j e => (HO.out.lt e).1)); have hc3 := (HC.out w3 HB3.out); have HZ3 : Hid (w.heap.size ≤ w3.heap.size) := HB3.out.size; clear hv3 hg3 hat3 hc1)
              | (at_builtin; refine push_law _ rfl (.tmp 33) (.tmp 38) 22 rfl w.heap.size 3 i0 Try.underlying22 HI.out (.slice none 0 0) [] page rfl rfl (Ow.nil _ _ _) (by simp) HZ3.out ?_; intro v4 w4 hv4 hg4 hat4; have HT4 := Lib.hid hv4; have HB4 := Lib.hid (HB3.out.grown hg4 HZ3.out (fun j e => by cases e)); have HO4 := Lib.hid (HO3.out.kept hg4 (Apart.symm (Or.inl rfl))); have HD4 := Lib.hid ((Apart.pushed (Or.inl rfl : Apart (.slice none 0 0) v3) HO3.out hat4).symm); clear hv4 hg4 hat4))
            exact ⟨⟨i + 1, by omega, by go_num, by rw [HSN.out]; exact HO4.out, by rw [HTN.out]; exact HT4.out, HD4.out, HB4.out⟩, by simp [intOf]; omega⟩
          · rw [if_neg (fun e => e.2.elim h0 hk)] at HSN
            rw [if_neg (fun e => e.elim h0 hk)] at HTN
            have i8 : ((nT : Int) == k) = false := by simp; exact hk
            clear hin h0 hk
            generalize ixI T page = p1 at *
            go_wp2_with (first
              | (go_at_call 50; (with_reducible refine (HI1.out _ (Below.refl _ _)).mono ?_); rintro e v1 ⟨rfl, rfl⟩)
              | (at_builtin; refine push_law _ rfl (.tmp 33) (.tmp 38) 22 rfl w.heap.size 3 i0 Try.underlying22 HI.out _ T page rfl rfl HT.out HLT.out HBZ.out ?_; intro v4 w4 hv4 hg4 hat4; have HT4 := Lib.hid hv4; have HB4 := Lib.hid (HB.out.grown hg4 HBZ.out (fun j e => (HT.out.lt e).1)); have HO4 := Lib.hid (HO.out.kept hg4 HD.out); have HD4 := Lib.hid ((HD.out.symm.pushed HO.out hat4).symm); clear hv4 hg4 hat4))
            exact ⟨⟨i + 1, by omega, by go_num, by rw [HSN.out]; exact HO4.out, by rw [HTN.out]; exact HT4.out, HD4.out, HB4.out⟩, by simp [intOf]; omega⟩
    · have hin : i = n := by omega
      subst hin
      have i1 : ¬ (i : Int) < (i : Int) := by omega
      go_wp2
      go_ret
      exact ⟨⟨_, rfl, HO.out⟩, HB.out⟩
/-- The faults of Recent for 1 to 8 places. -/
def cvL (zs : List Int) (i : Nat) : List Int := (List.range i).map fun j : Nat => rC rkLast ((j : Int) + 1) zs zs.length
set_option maxRecDepth 100000 in
set_option maxHeartbeats 12800000 in
theorem curve_any (zs : List Int) (A : Option Addr) (n c : Nat) (w : World) (h : Sl w A n c zs) :
    Calls Try.prog 26 #[.slice A n c] w fun e w' => ((reqB zs 200 15 = true ∧ ∃ v, e = .returned (.tuple #[v, .int .i64 0]) ∧ Ow w' w.heap.size 3 v (cvL zs 8)) ∨ (reqB zs 200 15 = false ∧ e = .returned (.tuple #[.slice none 0 0, .int .i64 2]))) ∧ Below w.heap.size w w' := by
  have HA := Lib.hid (areRequests_any zs A n c w h)
  have HSL := Lib.hid (fun V (hV : Below w.heap.size w V) => h.below hV (Nat.le_refl _))
  have HL : Hid (zs.length = n) := h.len
  have hbig := h.big
  clear h
  cases h1 : reqB zs 200 15
  · rw [h1] at HA
    go_enter Try.func26, Try.ntmps26
    go_wp2_with (go_at_call 43; refine HA.out.mono ?_; rintro e w1 ⟨rfl, hb1⟩; have HB1 := Lib.hid hb1; clear hb1)
    go_ret2
    exact ⟨.inr ⟨by simp, rfl⟩, HB1.out⟩
  · rw [h1] at HA
    obtain ⟨hn, hz⟩ := reqB_parts h1
    rw [HL.out] at hn hz
    have HRU := Lib.hid (fun (i : Nat) (hi : i < 8) V (hV : Below w.heap.size w V) => run_any rkLast ((i : Int) + 1) zs A n c 46 #[] V (HSL.out V hV) hn (by omega) hz (fun i _ => rankLast V _))
    obtain ⟨i0, hi, hz0, hz1, hz2⟩ := info_parts Try.infoInt
    have HI : Hid (Try.prog.info? 3 = some i0 ∧ i0.zero = some (.int .i64 0) ∧ i0.size = 1 ∧ i0.bytes = 8) := ⟨hi, hz0, hz1, hz2⟩
    have HF : Hid (∀ i : Nat, rC rkLast ((i : Int) + 1) zs n = (fun j : Nat => rC rkLast ((j : Int) + 1) zs n) i) := fun i => rfl
    obtain ⟨f, hf⟩ : ∃ f : Nat → Int, f = fun j : Nat => rC rkLast ((j : Int) + 1) zs n := ⟨_, rfl⟩
    have HFR : Hid (∀ i : Nat, rC rkLast ((i : Int) + 1) zs n = f i) := fun i => by rw [hf]
    have HCV : Hid (cvL zs 8 = mixL f 8 8) := by rw [Hid, hf]; unfold cvL mixL; rw [HL.out]; simp
    clear hi hz0 hz1 hz2 hz h1 HF hf
    go_enter Try.func26, Try.ntmps26
    go_wp2_with (first
      | (go_at_call 43; refine HA.out.mono ?_; rintro e w1 ⟨rfl, hb1⟩; have HB1 := Lib.hid hb1; clear hb1)
      | (at_make; go_must (refine make_law _ rfl (.const (.int .i64 8)) (.const (.int .i64 8)) 22 rfl w.heap.size 3 i0 Try.underlying22 HI.out _ _ 8 rfl rfl (by omega) (by omega) (by omega) HB1.out.size ?_); intro w2 ho2 hg2; have HO2 := Lib.hid ho2; have HB2 := Lib.hid (HB1.out.grown hg2 HB1.out.size (fun j e => by cases e)); clear ho2 hg2))
    have HGB : Hid (w.heap.size ≤ w1.heap.size) := HB1.out.size
    clear HA HB1
    generalize w1.heap.size = g at *
    go_loopw [12] (fun r w' => ∃ i : Nat, i ≤ 8 ∧ r = .int .i64 (i : Int) ∧ Hid (Ow w' w.heap.size 3 (.slice (some ⟨g, 0, none⟩) 8 8) (mixL f 8 i)) ∧ Hid (Below w.heap.size w w')) (fun r _ => 8 - (intOf r).toNat)
    case atStart =>
      refine ⟨0, by omega, by go_num, ?_, HB2.out⟩
      have := HO2.out
      rwa [show mixL f 8 0 = List.replicate 8 0 by simp [mixL]]
    case round =>
      obtain ⟨i, hi, rfl, HO, HB⟩ := hrel
      obtain ⟨wo, rfl⟩ : ∃ wo : World, wo = wr := ⟨_, rfl⟩
      clear HO2 HB2
      by_cases hlt : i < 8
      · have i1 : (i : Int) < 8 := by omega
        have v1 : IntKind.i64.wrap ((i : Int) + 1) = (i : Int) + 1 := IntWalk.i64_in _ (by omega)
        have HR := Lib.hid (HRU.out i hlt wo HB.out)
        rw [HFR.out] at HR
        have HLI : Hid (i < 8) := hlt
        have HBZ : Hid (w.heap.size ≤ wo.heap.size) := HB.out.size
        clear HRU HFR
        go_wp2_with (go_at_call 45; go_must (refine HR.out.mono ?_); rintro e w3 ⟨⟨v, rfl, hv⟩, hb⟩; have HO3 := Lib.hid (HO.out.below hb (Nat.le_refl _)); have HB3 := Lib.hid (HB.out.trans (hb.mono HBZ.out)); have c1' := HO3.out.cellAt (mixL_len f (Nat.le_of_lt HLI.out)) HLI.out; have f1' := HO3.out.free (mixL_len f (Nat.le_of_lt HLI.out)) i; clear hv hb; generalize ((mixL f 8 i)[i]?.getD 0) = z0 at c1')
        refine ⟨⟨i + 1, by omega, by go_num, ?_, HB3.out.setCell (p := ⟨g, i, none⟩) HGB.out _⟩, by simp [intOf]; omega⟩
        rw [← mixL_set f HLI.out]
        exact HO3.out.put (mixL_len f (Nat.le_of_lt HLI.out)) i _
      · have hin : i = 8 := by omega
        subst hin
        go_wp2
        go_ret2
        rw [HCV.out]
        first | exact ⟨⟨_, rfl, HO.out⟩, HB.out⟩ | exact ⟨.inl ⟨trivial, _, rfl, HO.out⟩, HB.out⟩
end Go.Proofs.Ytcnjkdkkflpgnaa
