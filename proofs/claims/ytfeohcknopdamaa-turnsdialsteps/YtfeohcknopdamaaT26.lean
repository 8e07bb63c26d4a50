import Derived.Test.YtfeohcknopdamaaT25
import Derived.Test.YtfeohcknopdamaaT19
import Derived.Lib.MinMax
/- Layer 10: TurnsDialSteps (written by gen_dials3.py). -/
namespace Go.Proofs.Ytfeohcknopdamaa
open Go.RowKit
set_option linter.unusedVariables false

set_option maxRecDepth 100000 in
set_option maxHeartbeats 6400000 in
theorem dialSteps_walk (zs : List Int) (a0 : Int) (A : Option Addr) (n c : Nat) (w : World) (h : Sl w A n c zs) :
    Calls Try.prog 12 #[.slice A n c, .int .i64 a0] w fun e w' => e = .returned (.bool true) ∧ Below w.heap.size w w' := by
  have hbig := h.big
  have HS := Lib.hid (fun V (hV : Below w.heap.size w V) => h.below hV (Nat.le_refl _))
  obtain ⟨i0, hi0, hz0, hz1, hz2⟩ := info_parts Try.infoInt
  have HI0 : Hid (Try.prog.info? 3 = some i0 ∧ i0.zero = some (.int .i64 0) ∧ i0.size = 1 ∧ i0.bytes = 8) := ⟨hi0, hz0, hz1, hz2⟩
  have HMT := Lib.hid (fun x V => mod_any x 10 V (by omega) (by omega))
  obtain ⟨mm, hmm⟩ : ∃ mm, mm = min n 12 := ⟨_, rfl⟩
  have hm1 : mm ≤ n := by omega
  have hm2 : mm ≤ 12 := by omega
  have hm3 : mm < n → mm = 12 := by omega
  have HM3 := Lib.hid hm3
  clear h hi0 hz0 hz1 hz2 hmm hm3
  go_enter Try.func12, Try.ntmps12
  go_wp2
  go_loopw [5, 6] (fun v i w' => ∃ (k : Nat) (ds : List Int) (v' : Value), k ≤ mm ∧ v' = v ∧ i = .int .i64 (k : Int) ∧ Hid (ds.length = k ∧ allD ds = true) ∧ Hid (Ow w' w.heap.size 3 v' ds) ∧ Hid (Below w.heap.size w w')) (fun _ i _ => mm - (intOf i).toNat)
  case atStart => exact ⟨0, [], _, Nat.zero_le _, rfl, by go_num, ⟨rfl, rfl⟩, Ow.nil _ _ _, Below.refl _ _⟩
  case round =>
    obtain ⟨k, ds, v, hk, rfl, rfl, HD, HO, HB⟩ := hrel
    obtain ⟨wo, rfl⟩ : ∃ wo : World, wo = wr := ⟨_, rfl⟩
    by_cases hlt : k < mm
    · have i1 : (k : Int) < (n : Int) := by omega
      have i2 : (k : Int) < 12 := by omega
      have i3 : decide ((k : Int) < (n : Int)) = true := decide_eq_true i1
      have i4 : decide (k < n) = true := decide_eq_true (by omega)
      obtain ⟨b, off, rfl, hcell⟩ := (HS.out wo HB.out).at_ (k := k) (by omega)
      generalize zs[k]?.getD 0 = z at hcell
      have HLN : Hid (ds.length ≤ 1099511627776) := by rw [Hid, HD.out.1]; omega
      have HBZ : Hid (w.heap.size ≤ wo.heap.size) := HB.out.size
      go_wp2_with (first | (go_at_call 52; (with_reducible refine (HMT.out _ _).mono ?_); rintro e w' ⟨⟨r, rfl, hr⟩, rfl⟩) | (at_builtin; go_must (refine push_law _ rfl (.tmp 26) (.tmp 34) 22 rfl w.heap.size 3 i0 Try.underlying22 HI0.out _ ds (1 + (r : Int)) rfl rfl HO.out HLN.out HBZ.out ?_); intro v2 w2 hv2 hg2 _; have HV2 := Lib.hid hv2; have HG2 := Lib.hid hg2; clear hv2 hg2))
      refine ⟨⟨k + 1, ds ++ [1 + (r : Int)], v2, by omega, rfl, by go_num, ⟨by rw [List.length_append, HD.out.1]; rfl, ?_⟩, HV2.out, HB.out.grown HG2.out HB.out.size (fun j e => (HO.out.lt e).1)⟩, by simp [intOf]; omega⟩
      refine allB_iff.2 fun j hj => ?_
      rw [List.length_append, List.length_singleton] at hj
      by_cases e : j < ds.length
      · rw [atI_app1 e]
        exact allB_iff.1 HD.out.2 j e
      · obtain rfl : j = ds.length := by omega
        rw [atI_app2, dialB, decide_eq_true (by omega), decide_eq_true (by omega)]; rfl
    · have hkm : k = mm := by omega
      have h0 : sizesB ds = true := by
        rw [sizesB, Bool.and_eq_true, decide_eq_true_iff]
        exact ⟨by rw [HD.out.1]; omega, HD.out.2⟩
      obtain ⟨A1, c1, rfl, hs1⟩ := HO.out.sl (by rw [HD.out.1]; omega)
      have HL0 : Hid (Sls wo [(A1, ds.length, c1, ds)]) := Sls.push (fun _ h => by cases h) hs1
      have HB0 := HB
      have hdl : ds.length ≤ 12 := by rw [HD.out.1]; omega
      obtain ⟨hp1, hp2⟩ := sizesB_prod h0
      have HPR := Lib.hid (fun V A c (hs : Sl V A ds.length c ds) => productR_any ds A ds.length c V hs h0)
      have HMA := Lib.hid (fun V => mod_big a0 (prodL ds) V hp1 (by omega))
      have HAD := Lib.hid HD.out.2
      have HSET := Lib.hid (fun V A c (b : Nat) (hs : Sl V A ds.length c ds) (hb : b < prodL ds) => setting_ok ds b A ds.length c V hs h0 hb)
      have HSET2 : Hid (∀ V A c (b : Nat), Sl V A ds.length c ds → b + 1 < prodL ds → Calls Try.prog 45 #[.slice A ds.length c, .int .i64 ((b : Int) + 1)] V fun e w' => (∃ A' c', e = .returned (.tuple #[.slice A' ds.length c', .int .i64 0]) ∧ Sl w' A' ds.length c' (setF ds (b + 1))) ∧ Below V.heap.size V w') := fun V A c b hs hb => setting_ok ds (b + 1) A ds.length c V hs h0 hb
      have HSAT : Hid (∀ V A c B d (b : Nat), Sl V A ds.length c ds → Sl V B ds.length d (setF ds b) → b < prodL ds → Calls Try.prog 46 #[.slice A ds.length c, .slice B ds.length d] V fun e w' => e = .returned (.tuple #[.int .i64 (b : Int), .int .i64 0]) ∧ Below V.heap.size V w') := fun V A c B d b hz hx hb => by
        have := settingAt_ok ds (setF ds b) A B ds.length c ds.length d V hz hx h0 (setF_sett ds b HAD.out hb)
        rw [stP_setF ds b HAD.out hb] at this
        exact this
      have HST : Hid (∀ V A c B d (b : Nat), Sl V A ds.length c ds → Sl V B ds.length d (setF ds b) → b < prodL ds → Calls Try.prog 50 #[.slice A ds.length c, .slice B ds.length d] V fun e w' => e = .returned (.bool true) ∧ Dr V w') := fun V A c B d b hz hx hb => by
        have := settingsR_any ds (setF ds b) A B ds.length c ds.length d V hz hx
        rw [setF_sett ds b HAD.out hb] at this
        exact this
      have HIN : Hid (∀ (b j : Nat), b < prodL ds → j < ds.length → ∃ x : Nat, atI (setF ds b) j = (x : Int) ∧ x < 10) := fun b j hb hj => by
        have h1 := settB_at (setF_sett ds b HAD.out hb) (k := j) (by rw [setF_len]; exact hj)
        obtain ⟨q, hq, h2, h3⟩ := allD_at HAD.out hj
        rw [inB, hq, Bool.and_eq_true, decide_eq_true_iff, decide_eq_true_iff] at h1
        exact ⟨(atI (setF ds b) j).toNat, by omega, by omega⟩
      have HFF : Hid (∀ b : Nat, b + 1 < prodL ds → farK (setF ds b) (setF ds (b + 1)) ds.length = 1 ∧ ∀ j, j ≤ ds.length → farK (setF ds b) (setF ds (b + 1)) j ≤ 1) := fun b hb => by
        have h1 := farK_all (setF ds b) (setF ds (b + 1)) (by rw [setF_len, setF_len])
        rw [setF_step ds b HAD.out hb, setF_len] at h1
        refine ⟨h1, fun j hj => ?_⟩
        have := farK_le (xs := setF ds b) (ys := setF ds (b + 1)) (ds.length - j) j
        rw [show j + (ds.length - j) = ds.length by omega, h1] at this
        exact this
      have j1 : decide ((k : Int) < (n : Int)) = decide (k < n) := by
        by_cases h : k < n
        · rw [decide_eq_true h, decide_eq_true (by omega)]
        · rw [decide_eq_false h, decide_eq_false (by omega)]
      clear hs1 HD HO h0 HS HMT HI0
      generalize hN : ds.length = N at *
      have HNN := Lib.hid hN
      clear hN j1
      generalize prodL ds = P at *
      have j2 : N ≤ 12 := hdl
      by_cases hkn : k < n
      all_goals
        have i1 : decide ((k : Int) < (n : Int)) = decide (k < n) := by
          by_cases h : k < n
          · rw [decide_eq_true h, decide_eq_true (by omega)]
          · rw [decide_eq_false h, decide_eq_false (by omega)]
        first | rw [decide_eq_true hkn] at i1 | rw [decide_eq_false hkn] at i1
        have i2 : k < n → decide ((k : Int) < 12) = false := fun h => decide_eq_false (by have := HM3.out; omega)
        first | have i3 := i2 hkn | have i3 : True := trivial
        have hdk : k ≤ 12 := by omega
        clear i2 hkm HM3 hlt
        go_upto_region 8 with (first | (go_at_call 48; (with_reducible refine (HPR.out _ _ _ HL0.out.hd).mono ?_); rintro e w' ⟨rfl, rfl⟩) | (go_at_call 52; (with_reducible refine (HMA.out _).mono ?_); rintro e w' ⟨⟨b, rfl, hb0⟩, rfl⟩))
        clear i1 i3
        by_cases hb1 : b + 1 < P
        · have d1 : ((b : Int) == (P : Int) - 1) = false := by rw [beq_eq_false_iff_ne]; omega
          have HFB := Lib.hid (HFF.out b hb1)
          go_wp2_with (first
            | (go_at_call 45; (with_reducible refine (HSET.out _ _ _ b HL0.out.hd hb0).mono ?_); rintro e w1 ⟨⟨A1, c1, rfl, hs⟩, hb⟩; have HL1 := Lib.hid ((HL0.out.below hb).push hs); have HB1 := Lib.hid (HB0.out.trans (hb.mono HB0.out.size)); clear hs hb)
            | (go_at_call 46; (with_reducible refine (HSAT.out _ _ _ _ _ b HL1.out.tl.hd HL1.out.hd hb0).mono ?_); rintro e w2 ⟨rfl, hb⟩; have HL2 := Lib.hid ((HL1.out.below hb)); have HB2 := Lib.hid (HB1.out.trans (hb.mono HB1.out.size)); clear hb)
            | (go_at_call 50; (with_reducible refine (HST.out _ _ _ _ _ b HL2.out.tl.hd HL2.out.hd hb0).mono ?_); rintro e w3 ⟨rfl, hd⟩; have hb := hd.below w2.heap.size; have HL3 := Lib.hid ((HL2.out.below hb)); have HB3 := Lib.hid (HB2.out.trans (hb.mono HB2.out.size)); clear hb hd)
            | (go_at_call 45; (with_reducible refine (HSET2.out _ _ _ b HL3.out.tl.hd hb1).mono ?_); rintro e w4 ⟨⟨A4, c4, rfl, hs⟩, hb⟩; have HL4 := Lib.hid ((HL3.out.below hb).push hs); have HB4 := Lib.hid (HB3.out.trans (hb.mono HB3.out.size)); clear hs hb)
            | (go_at_call 50; (with_reducible refine (HST.out _ _ _ _ _ (b + 1) HL4.out.tl.tl.hd HL4.out.hd hb1).mono ?_); rintro e w5 ⟨rfl, hd⟩; have hb := hd.below w4.heap.size; have HL5 := Lib.hid ((HL4.out.below hb)); have HB5 := Lib.hid (HB4.out.trans (hb.mono HB4.out.size)); clear hb hd))
          have HX := Lib.hid (fun V (hV : Dr w5 V) => HL5.out.tl.hd.dr hV)
          have HY := Lib.hid (fun V (hV : Dr w5 V) => HL5.out.hd.dr hV)
          have HIX := Lib.hid (fun j (hj : j < N) => HIN.out b j hb0 hj)
          have HIY := Lib.hid (fun j (hj : j < N) => HIN.out (b + 1) j hb1 hj)
          clear d1 HPR HMA HSET HSET2 HSAT HST HIN HFF HL0 HL1 HL2 HL3 HL4 HL5 hp1 hp2
          generalize setF ds (b + 1) = ys at *
          generalize setF ds b = xs at *
          go_loopw [14, 15] (fun s i w' => ∃ j : Nat, j ≤ N ∧ i = .int .i64 (j : Int) ∧ s = .int .i64 ((farK xs ys j : Nat) : Int) ∧ Hid (Dr w5 w')) (fun _ i _ => N - (intOf i).toNat)
          case atStart => exact ⟨0, Nat.zero_le _, by go_num, rfl, Dr.refl _⟩
          case round =>
            obtain ⟨j, hj, rfl, rfl, HDR⟩ := hrel
            obtain ⟨wi, rfl⟩ : ∃ wi : World, wi = wr := ⟨_, rfl⟩
            by_cases hjl : j < N
            · have i1 : (j : Int) < (N : Int) := by omega
              obtain ⟨x, hx, hx10⟩ := HIX.out j hjl
              obtain ⟨y, hy, hy10⟩ := HIY.out j hjl
              have hx1 := (HX.out wi HDR.out).at_ hjl
              have hy1 := (HY.out wi HDR.out).at_ hjl
              rw [show xs[j]?.getD 0 = (x : Int) from hx] at hx1
              rw [show ys[j]?.getD 0 = (y : Int) from hy] at hy1
              have hst : farK xs ys (j + 1) = farK xs ys j + ((x : Int) - (y : Int)).natAbs := by rw [farK, hx, hy]
              have hle := HFB.out.2 (j + 1) (by omega)
              rw [hst] at hle
              have HSTEP := Lib.hid hst
              clear hst hx hy
              obtain ⟨dd, hdd⟩ : ∃ dd, dd = ((x : Int) - (y : Int)).natAbs := ⟨_, rfl⟩
              rw [← hdd] at hle HSTEP
              have HMX : Hid (max ((x : Int) - (y : Int)) ((y : Int) - (x : Int)) = (dd : Int)) := by rw [Hid]; omega
              generalize farK xs ys j = s at *
              have V1 : Hid (IntKind.i64.wrap ((x : Int) - (y : Int)) = (x : Int) - (y : Int)) := IntWalk.i64_in _ (by omega)
              have V2 : Hid (IntKind.i64.wrap ((y : Int) - (x : Int)) = (y : Int) - (x : Int)) := IntWalk.i64_in _ (by omega)
              have V3 : Hid (IntKind.i64.wrap ((s : Int) + (dd : Int)) = ((s + dd : Nat) : Int)) := by rw [Hid, Int.natCast_add]; exact IntWalk.i64_in _ (by omega)
              obtain ⟨b1, o1, rfl, e1⟩ := hx1
              obtain ⟨b2, o2, rfl, e2⟩ := hy1
              clear hdd hle
              have hmx := HMX.out
              have v1 := V1.out
              have v2 := V2.out
              have v3 := V3.out
              go_wp2
              go_quiet (fail)
              clear hmx v1 v2 v3
              go_wp2
              exact ⟨⟨j + 1, by omega, by go_num, by rw [HSTEP.out, Int.natCast_add], HDR.out.more _⟩, by simp [intOf]; omega⟩
            · have hjn : j = N := by omega
              have HF1 : Hid (farK xs ys j = 1) := by rw [hjn]; exact HFB.out.1
              have i1 : ¬ (j : Int) < (N : Int) := by omega
              rw [HF1.out]
              clear hjn
              go_wp2_with (go_at_call 19; (with_reducible refine (awake_here _).mono ?_); rintro e w9 ⟨rfl, hb⟩; have HB9 := Lib.hid ((HB5.out.trans ((HDR.out.below w5.heap.size).mono HB5.out.size)).trans (hb.mono (HB5.out.trans ((HDR.out.below w5.heap.size).mono HB5.out.size)).size)); clear hb)
              go_ret
              exact ⟨rfl, HB9.out⟩
        · have d1 : ((b : Int) == (P : Int) - 1) = true := by rw [beq_iff_eq]; omega
          go_wp2_with (first
            | (go_at_call 45; (with_reducible refine (HSET.out _ _ _ b HL0.out.hd hb0).mono ?_); rintro e w1 ⟨⟨A1, c1, rfl, hs⟩, hb⟩; have HL1 := Lib.hid ((HL0.out.below hb).push hs); have HB1 := Lib.hid (HB0.out.trans (hb.mono HB0.out.size)); clear hs hb)
            | (go_at_call 46; (with_reducible refine (HSAT.out _ _ _ _ _ b HL1.out.tl.hd HL1.out.hd hb0).mono ?_); rintro e w2 ⟨rfl, hb⟩; have HL2 := Lib.hid ((HL1.out.below hb)); have HB2 := Lib.hid (HB1.out.trans (hb.mono HB1.out.size)); clear hb)
            | (go_at_call 50; (with_reducible refine (HST.out _ _ _ _ _ b HL2.out.tl.hd HL2.out.hd hb0).mono ?_); rintro e w3 ⟨rfl, hd⟩; have hb := hd.below w2.heap.size; have HL3 := Lib.hid ((HL2.out.below hb)); have HB3 := Lib.hid (HB2.out.trans (hb.mono HB2.out.size)); clear hb hd)
            | (go_at_call 19; (with_reducible refine (awake_here _).mono ?_); rintro e w4 ⟨rfl, hb⟩; have HL4 := Lib.hid ((HL3.out.below hb)); have HB4 := Lib.hid (HB3.out.trans (hb.mono HB3.out.size)); clear hb))
          go_ret
          exact ⟨rfl, HB4.out⟩
end Go.Proofs.Ytfeohcknopdamaa
