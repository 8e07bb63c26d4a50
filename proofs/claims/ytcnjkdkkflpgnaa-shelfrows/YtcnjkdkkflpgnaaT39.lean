import Derived.Test.YtcnjkdkkflpgnaaT38
/- Layer 8: histories made of any lists (histories). -/
namespace Go.Proofs.Ytcnjkdkkflpgnaa
open Go.RowKit Go.Maps
set_option linter.unusedVariables false

theorem ins_perm {zs : List Int} {x : Nat} (r : Nat) (h : List.Perm zs (startL x)) : List.Perm ([] ++ zs.take r ++ [(x : Int)] ++ zs.drop r) (startL (x + 1)) := by
  rw [List.nil_append, startL_succ, List.append_assoc]
  show List.Perm (zs.take r ++ (x : Int) :: zs.drop r) _
  refine List.perm_middle.trans ?_
  rw [List.take_append_drop]
  exact (List.perm_append_singleton (x : Int) zs).symm.trans (h.append_right _)
set_option maxRecDepth 100000 in
set_option maxHeartbeats 12800000 in
theorem histories_any (R : List (List Int)) (A : Option Addr) (n c m nn : Nat) (w : World) (h : Sll w A n c R) (hm1 : 1 ≤ m) (hm6 : m ≤ 6) (hnn : nn ≤ 60) :
    Calls Try.prog 42 #[.slice A n c, .int .i64 (m : Int), .int .i64 (nn : Int)] w fun e w' => (∃ v rows, e = .returned v ∧ Hst w' w.heap.size v rows ∧ rows.length = nn ∧ ∀ j, j < nn → List.Perm (ordAt rows j) (startL m)) ∧ Below w.heap.size w w' := by
  obtain ⟨i0, hi, hz0, hz1, hz2⟩ := info_parts Try.infoInt
  have HI : Hid (Try.prog.info? 3 = some i0 ∧ i0.zero = some (.int .i64 0) ∧ i0.size = 1 ∧ i0.bytes = 8) := ⟨hi, hz0, hz1, hz2⟩
  obtain ⟨iS, hi2, hz02, hz12, hz22⟩ := info_parts Try.infoRowS
  have HI2 : Hid (Try.prog.info? 22 = some iS ∧ iS.zero = some (.slice none 0 0) ∧ iS.size = 1 ∧ iS.bytes = 24) := ⟨hi2, hz02, hz12, hz22⟩
  have HSR := Lib.hid (fun V (hV : Below w.heap.size w V) => h.below hV (Nat.le_refl _))
  have hbig := h.big
  clear h hi hz0 hz1 hz2 hi2 hz02 hz12 hz22
  go_enter Try.func42, Try.ntmps42
  go_wp2
  go_loopw [7, 8] (fun v r w' => ∃ (k : Nat) (rows : List (List Int)), k ≤ nn ∧ r = .int .i64 (k : Int) ∧ Hid (Hst w' w.heap.size v rows) ∧ Hid (rows.length = k ∧ ∀ j, j < k → List.Perm (ordAt rows j) (startL m)) ∧ Hid (Below w.heap.size w w')) (fun _ r _ => nn - (intOf r).toNat)
  case atStart => exact ⟨0, [], Nat.zero_le _, by go_num, Hst.nil _ _, ⟨rfl, fun j hj => absurd hj (Nat.not_lt_zero _)⟩, Below.refl _ _⟩
  case round =>
    obtain ⟨k, rows, hk, rfl, HH, HRL, HB⟩ := hrel
    obtain ⟨wo, rfl⟩ : ∃ wo : World, wo = wr := ⟨_, rfl⟩
    have HBZ : Hid (w.heap.size ≤ wo.heap.size) := HB.out.size
    by_cases hlt : k < nn
    · have i1 : (k : Int) < (nn : Int) := by omega
      go_wp2
      go_loopw [9, 10] (fun rv r w' => ∃ (x : Nat) (zs : List Int), x ≤ m ∧ r = .int .i64 (x : Int) ∧ Hid (Ow w' wo.heap.size 3 rv zs) ∧ Hid (List.Perm zs (startL x)) ∧ Hid (Below wo.heap.size wo w')) (fun _ r _ => m - (intOf r).toNat)
      case atStart => exact ⟨0, [], Nat.zero_le _, by go_num, Ow.nil _ _ _, List.Perm.refl _, Below.refl _ _⟩
      case round =>
        obtain ⟨x, zs, hx, rfl, HO, HP, HE⟩ := hrel
        obtain ⟨wi, rfl⟩ : ∃ wi : World, wi = wr := ⟨_, rfl⟩
        have HLZ : Hid (zs.length = x) := by rw [Hid, HP.out.length_eq, startL_len]
        have HBI : Hid (Below w.heap.size w wi) := HB.out.trans (HE.out.mono HBZ.out)
        have HU := HO
        obtain ⟨A3, c3, rfl, hs3⟩ := HO.out.sl_len HLZ.out (by omega)
        have hcap := hs3.cap
        have HS3 := Lib.hid hs3
        clear hs3 HO
        by_cases hxl : x < m
        · have j1 : (x : Int) < (m : Int) := by omega
          clear HH
          by_cases hkn : k < n
          · have i2 : (k : Int) < (n : Int) := by omega
            obtain ⟨b1, o1, rfl, hb1, A4, n4, c4, hc4, hs4⟩ := (HSR.out wi HBI.out).rows k hkn
            have hbig4 := hs4.big
            by_cases hxn : x < n4
            · have i3 : (x : Int) < (n4 : Int) := by omega
              obtain ⟨b5, o5, rfl, hc5⟩ := hs4.at_ hxn
              have v4 : IntKind.i64.wrap ((x : Int) + 1) = (x : Int) + 1 := IntWalk.i64_in _ (by omega)
              generalize (ordAt R k)[x]?.getD 0 = z at hc5
              have HMD := Lib.hid (mod_any z ((x : Int) + 1) wi (by omega) (by omega))
              clear hs4
              go_upto_region 12 with (go_at_call 40; go_must (refine HMD.out.mono ?_); rintro e w2 ⟨⟨r, rfl, hr⟩, rfl⟩; have HRN := Lib.hid hr; clear hr)
              have hrx : r ≤ x := by have := HRN.out; omega
              clear HRN HMD hc5 hc4
              have hsl : ∀ W, (Instr.slice 22 (.slice A3 x c3) none (some (.int .i64 (r : Int))) none).run Try.prog W = .ok (.slice A3 r c3) W := fun W => slice_hd A3 x c3 (k := r) (by omega) hcap W
              have hst : ∀ W, (Instr.slice 22 (.slice A3 x c3) (some (.int .i64 (r : Int))) none none).run Try.prog W = .ok (.slice (tlA A3 c3 r) (x - r) (c3 - r)) W := fun W => slice_tl A3 x c3 (k := r) (by omega) hcap W
              have HT : Hid (Sl wi A3 r c3 (zs.take r)) := HS3.out.take (by omega)
              have HD : Hid (∀ W, Below wi.heap.size wi W → Sl W (tlA A3 c3 r) (x - r) (c3 - r) (zs.drop r)) := fun W hW => (HS3.out.below hW (Nat.le_refl _)).drop (by omega)
              have HPM := Lib.hid (ins_perm r HP.out)
              clear HS3
              go_upto_region 14 with (at_builtin; go_must (refine apps_law _ rfl (.tmp 46) (.tmp 49) 22 rfl wi.heap.size 3 i0 Try.underlying22 HI.out (.slice none 0 0) [] rfl (Ow.nil _ _ _) A3 r c3 (zs.take r) rfl HT.out (by simp <;> omega) (Nat.le_refl _) ?_); intro v2 w2 hown hg; have HO2 := Lib.hid hown; have HB2 := Lib.hid ((Below.refl wi.heap.size wi).grown hg (Nat.le_refl _) (by simp [Value.ownBlock])); clear hown hg)
              have HL2 : Hid (([] ++ zs.take r).length ≤ 1099511627776) := by rw [Hid, List.nil_append, List.length_take]; omega
              have HZ2 : Hid (wi.heap.size ≤ w2.heap.size) := HB2.out.size
              go_upto_region 15 with (at_builtin; go_must (refine push_law _ rfl (.tmp 51) (.tmp 53) 22 rfl wi.heap.size 3 i0 Try.underlying22 HI.out _ ([] ++ zs.take r) (x : Int) rfl rfl HO2.out HL2.out HZ2.out ?_); intro v3 w3 hown hg _; have HO3 := Lib.hid hown; have HB3 := Lib.hid (HB2.out.grown hg HB2.out.size (fun k e => (HO2.out.lt e).1)); clear hown hg)
              have HZ3 : Hid (wi.heap.size ≤ w3.heap.size) := HB3.out.size
              go_wp2_with (at_builtin; go_must (refine apps_law _ rfl (.tmp 55) (.tmp 58) 22 rfl wi.heap.size 3 i0 Try.underlying22 HI.out _ ([] ++ zs.take r ++ [(x : Int)]) rfl HO3.out (tlA A3 c3 r) (x - r) (c3 - r) (zs.drop r) rfl (HD.out _ HB3.out) (by have := HLZ.out; simp <;> omega) HZ3.out ?_); intro v4 w4 hown hg; have HO4 := Lib.hid hown; have HB4 := Lib.hid (HB3.out.grown hg HB3.out.size (fun k e => (HO3.out.lt e).1)); clear hown hg)
              exact ⟨⟨x + 1, _, by omega, by go_num, HO4.out.base HE.out.size, HPM.out, HE.out.trans (HB4.out.mono HE.out.size)⟩, by simp [intOf]; omega⟩
            · have i3 : ¬ (x : Int) < (n4 : Int) := by omega
              clear hs4
              go_upto_region 12 with (fail)
              clear hc4
              have hsl : ∀ W, (Instr.slice 22 (.slice A3 x c3) none (some (.int .i64 0)) none).run Try.prog W = .ok (.slice A3 0 c3) W := fun W => slice_hd A3 x c3 (k := 0) (by omega) hcap W
              have hst : ∀ W, (Instr.slice 22 (.slice A3 x c3) (some (.int .i64 0)) none none).run Try.prog W = .ok (.slice (tlA A3 c3 0) (x - 0) (c3 - 0)) W := fun W => slice_tl A3 x c3 (k := 0) (by omega) hcap W
              have HT : Hid (Sl wi A3 0 c3 (zs.take 0)) := HS3.out.take (by omega)
              have HD : Hid (∀ W, Below wi.heap.size wi W → Sl W (tlA A3 c3 0) (x - 0) (c3 - 0) (zs.drop 0)) := fun W hW => (HS3.out.below hW (Nat.le_refl _)).drop (by omega)
              have HPM := Lib.hid (ins_perm 0 HP.out)
              clear HS3
              go_upto_region 14 with (at_builtin; go_must (refine apps_law _ rfl (.tmp 46) (.tmp 49) 22 rfl wi.heap.size 3 i0 Try.underlying22 HI.out (.slice none 0 0) [] rfl (Ow.nil _ _ _) A3 0 c3 (zs.take 0) rfl HT.out (by simp <;> omega) (Nat.le_refl _) ?_); intro v2 w2 hown hg; have HO2 := Lib.hid hown; have HB2 := Lib.hid ((Below.refl wi.heap.size wi).grown hg (Nat.le_refl _) (by simp [Value.ownBlock])); clear hown hg)
              have HL2 : Hid (([] ++ zs.take 0).length ≤ 1099511627776) := by rw [Hid, List.nil_append, List.length_take]; omega
              have HZ2 : Hid (wi.heap.size ≤ w2.heap.size) := HB2.out.size
              go_upto_region 15 with (at_builtin; go_must (refine push_law _ rfl (.tmp 51) (.tmp 53) 22 rfl wi.heap.size 3 i0 Try.underlying22 HI.out _ ([] ++ zs.take 0) (x : Int) rfl rfl HO2.out HL2.out HZ2.out ?_); intro v3 w3 hown hg _; have HO3 := Lib.hid hown; have HB3 := Lib.hid (HB2.out.grown hg HB2.out.size (fun k e => (HO2.out.lt e).1)); clear hown hg)
              have HZ3 : Hid (wi.heap.size ≤ w3.heap.size) := HB3.out.size
              go_wp2_with (at_builtin; go_must (refine apps_law _ rfl (.tmp 55) (.tmp 58) 22 rfl wi.heap.size 3 i0 Try.underlying22 HI.out _ ([] ++ zs.take 0 ++ [(x : Int)]) rfl HO3.out (tlA A3 c3 0) (x - 0) (c3 - 0) (zs.drop 0) rfl (HD.out _ HB3.out) (by have := HLZ.out; simp <;> omega) HZ3.out ?_); intro v4 w4 hown hg; have HO4 := Lib.hid hown; have HB4 := Lib.hid (HB3.out.grown hg HB3.out.size (fun k e => (HO3.out.lt e).1)); clear hown hg)
              exact ⟨⟨x + 1, _, by omega, by go_num, HO4.out.base HE.out.size, HPM.out, HE.out.trans (HB4.out.mono HE.out.size)⟩, by simp [intOf]; omega⟩
          · have i2 : ¬ (k : Int) < (n : Int) := by omega
            go_upto_region 12 with (fail)
            have hsl : ∀ W, (Instr.slice 22 (.slice A3 x c3) none (some (.int .i64 0)) none).run Try.prog W = .ok (.slice A3 0 c3) W := fun W => slice_hd A3 x c3 (k := 0) (by omega) hcap W
            have hst : ∀ W, (Instr.slice 22 (.slice A3 x c3) (some (.int .i64 0)) none none).run Try.prog W = .ok (.slice (tlA A3 c3 0) (x - 0) (c3 - 0)) W := fun W => slice_tl A3 x c3 (k := 0) (by omega) hcap W
            have HT : Hid (Sl wi A3 0 c3 (zs.take 0)) := HS3.out.take (by omega)
            have HD : Hid (∀ W, Below wi.heap.size wi W → Sl W (tlA A3 c3 0) (x - 0) (c3 - 0) (zs.drop 0)) := fun W hW => (HS3.out.below hW (Nat.le_refl _)).drop (by omega)
            have HPM := Lib.hid (ins_perm 0 HP.out)
            clear HS3
            go_upto_region 14 with (at_builtin; go_must (refine apps_law _ rfl (.tmp 46) (.tmp 49) 22 rfl wi.heap.size 3 i0 Try.underlying22 HI.out (.slice none 0 0) [] rfl (Ow.nil _ _ _) A3 0 c3 (zs.take 0) rfl HT.out (by simp <;> omega) (Nat.le_refl _) ?_); intro v2 w2 hown hg; have HO2 := Lib.hid hown; have HB2 := Lib.hid ((Below.refl wi.heap.size wi).grown hg (Nat.le_refl _) (by simp [Value.ownBlock])); clear hown hg)
            have HL2 : Hid (([] ++ zs.take 0).length ≤ 1099511627776) := by rw [Hid, List.nil_append, List.length_take]; omega
            have HZ2 : Hid (wi.heap.size ≤ w2.heap.size) := HB2.out.size
            go_upto_region 15 with (at_builtin; go_must (refine push_law _ rfl (.tmp 51) (.tmp 53) 22 rfl wi.heap.size 3 i0 Try.underlying22 HI.out _ ([] ++ zs.take 0) (x : Int) rfl rfl HO2.out HL2.out HZ2.out ?_); intro v3 w3 hown hg _; have HO3 := Lib.hid hown; have HB3 := Lib.hid (HB2.out.grown hg HB2.out.size (fun k e => (HO2.out.lt e).1)); clear hown hg)
            have HZ3 : Hid (wi.heap.size ≤ w3.heap.size) := HB3.out.size
            go_wp2_with (at_builtin; go_must (refine apps_law _ rfl (.tmp 55) (.tmp 58) 22 rfl wi.heap.size 3 i0 Try.underlying22 HI.out _ ([] ++ zs.take 0 ++ [(x : Int)]) rfl HO3.out (tlA A3 c3 0) (x - 0) (c3 - 0) (zs.drop 0) rfl (HD.out _ HB3.out) (by have := HLZ.out; simp <;> omega) HZ3.out ?_); intro v4 w4 hown hg; have HO4 := Lib.hid hown; have HB4 := Lib.hid (HB3.out.grown hg HB3.out.size (fun k e => (HO3.out.lt e).1)); clear hown hg)
            exact ⟨⟨x + 1, _, by omega, by go_num, HO4.out.base HE.out.size, HPM.out, HE.out.trans (HB4.out.mono HE.out.size)⟩, by simp [intOf]; omega⟩
        · have hxm : x = m := by omega
          subst hxm
          have j1 : ¬ (x : Int) < (x : Int) := by omega
          have HZ2 : Hid (w.heap.size ≤ wi.heap.size) := HBI.out.size
          obtain ⟨vs, hov, hvl, hvr⟩ := HH.out.below HE.out (Nat.le_refl _)
          have HOV := Lib.hid hov
          have HVL := Lib.hid hvl
          have HVR := Lib.hid hvr
          clear hov hvl hvr HS3
          go_wp2_with (at_builtin; go_must (refine pushv_law _ rfl (.tmp 60) (.tmp 62) 43 rfl w.heap.size iS Try.underlying43 HI2.out _ vs _ _ _ rfl rfl HOV.out (by have := HVL.out; have := HRL.out.1; omega) HZ2.out ?_); intro v3 w3 hown hg; have HH3 := Lib.hid (Hst.push HOV.out HVL.out HVR.out (HU.out.base HBZ.out) hown hg); have HB3 := Lib.hid (HBI.out.grown hg HZ2.out (fun j e => (World.ownsRow.lt HOV.out j e).1)); clear hown hg)
          refine ⟨⟨k + 1, rows ++ [zs], by omega, by go_num, HH3.out, ⟨by rw [List.length_append, HRL.out.1]; rfl, fun j hj => ?_⟩, HB3.out⟩, by simp [intOf]; omega⟩
          by_cases e : j < k
          · rw [show ordAt (rows ++ [zs]) j = ordAt rows j from by unfold ordAt; rw [List.getElem?_append_left (by rw [HRL.out.1]; exact e)]]
            exact HRL.out.2 j e
          · have e : j = rows.length := by have := HRL.out.1; omega
            rw [show ordAt (rows ++ [zs]) j = zs from by unfold ordAt; rw [e, List.getElem?_append_right (Nat.le_refl _), Nat.sub_self]; rfl]
            exact HP.out
    · have hkn : k = nn := by omega
      subst hkn
      have i1 : ¬ (k : Int) < (k : Int) := by omega
      go_wp2
      go_ret
      exact ⟨⟨_, rfl, rows, HH.out, HRL.out.1, HRL.out.2⟩, HB.out⟩
end Go.Proofs.Ytcnjkdkkflpgnaa
