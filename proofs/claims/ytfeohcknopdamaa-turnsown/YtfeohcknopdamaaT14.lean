import Derived.Test.YtfeohcknopdamaaT13
import Derived.Deep.Cut
import Derived.Deep.RegionWith
/- Layer 10: settingIn, Setting. -/
namespace Go.Proofs.Ytfeohcknopdamaa
open Go.RowKit
set_option linter.unusedVariables false

theorem dirN_lt {L x : Nat} {t : Bool} (h : x < L) : dirN L t x < L := by
  unfold dirN
  split <;> omega
/-- What stands when k dials are set: what is left is the setting of the other dials at the position. -/
theorem setF_cons {zs : List Int} {k a : Nat} (hk : k < zs.length) (L : Nat) (hL : L = prodL (zs.drop (k + 1))) :
    setF (zs.drop k) a = ((a / L : Nat) : Int) :: setF (zs.drop (k + 1)) (dirN L (decide (a / L % 2 = 1)) (a % L)) := by
  rw [drop_atI hk, setF, ← hL]
theorem setF_len : ∀ (zs : List Int) (a : Nat), (setF zs a).length = zs.length
  | [], _ => rfl
  | z :: zs, a => by rw [setF, List.length_cons, setF_len zs, List.length_cons]
set_option maxRecDepth 100000 in
set_option maxHeartbeats 3200000 in
theorem settingIn_any (zs : List Int) (a0 : Nat) (A : Option Addr) (n c : Nat) (w : World) (h : Sl w A n c zs) (hs : sizesB zs = true) (ha : a0 < prodL zs) :
    Calls Try.prog 73 #[.slice A n c, .int .i64 (a0 : Int)] w fun e w' => (∃ v, e = .returned v ∧ Ow w' w.heap.size 3 v (setF zs a0)) ∧ Below w.heap.size w w' := by
  have hbig := h.big
  have HSV : Hid (∀ V, Below w.heap.size w V → Sl V A n c zs) := fun V hV => h.below hV (Nat.le_refl _)
  have HL : Hid (zs.length = n) := h.len
  have HC := Lib.hid (count_any zs A n c w h hs)
  have HA : Hid (allD zs = true) := by
    have h2 := hs
    rw [sizesB, Bool.and_eq_true] at h2; exact h2.2
  have HN : Hid (n ≤ 12) := by
    have h2 := hs
    rw [sizesB, Bool.and_eq_true, decide_eq_true_iff, h.len] at h2; exact h2.1
  have HB := Lib.hid (fun k hk => prodL_le hs k hk)
  have HA0 := Lib.hid ha
  obtain ⟨i0, hi0, hz0, hz1, hz2⟩ := info_parts Try.infoInt
  have HI0 : Hid (Try.prog.info? 3 = some i0 ∧ i0.zero = some (.int .i64 0) ∧ i0.size = 1 ∧ i0.bytes = 8) := ⟨hi0, hz0, hz1, hz2⟩
  clear h hs ha hi0 hz0 hz1 hz2
  go_enter Try.func73, Try.ntmps73
  go_wp2_with (go_at_call 72; (with_reducible refine HC.out.mono ?_); rintro e w1 ⟨rfl, rfl⟩)
  go_loopw [1, 5, 6, 14] (fun a L v i w' => ∃ (k a' : Nat) (cs : List Int) (v' : Value), k ≤ n ∧ v' = v ∧ i = .int .i64 (k : Int) ∧ a = .int .i64 (a' : Int) ∧ L = .int .i64 ((prodL (zs.drop k) : Nat) : Int) ∧ Hid (cs.length = k ∧ a' < prodL (zs.drop k) ∧ setF zs a0 = cs ++ setF (zs.drop k) a') ∧ Hid (Ow w' w.heap.size 3 v' cs) ∧ Hid (Below w.heap.size w w')) (fun _ _ _ i _ => n - (intOf i).toNat)
  case atStart => exact ⟨0, a0, [], _, Nat.zero_le _, rfl, by go_num, rfl, by rw [List.drop_zero], ⟨rfl, by rw [List.drop_zero]; exact HA0.out, by rw [List.drop_zero]; rfl⟩, Ow.nil _ _ _, Below.refl _ _⟩
  case round =>
    obtain ⟨k, a, cs, v, hk, rfl, rfl, rfl, rfl, HK, HO, HBW⟩ := hrel
    clear HC HA0
    obtain ⟨wo, rfl⟩ : ∃ wo : World, wo = wr := ⟨_, rfl⟩
    by_cases hlt : k < n
    · have i1 : (k : Int) < (n : Int) := by omega
      obtain ⟨b, off, rfl, hcell⟩ := (HSV.out wo HBW.out).at_ hlt
      rw [show zs[k]?.getD 0 = atI zs k from rfl] at hcell
      obtain ⟨x, hx, hx1, hx2⟩ := allD_at HA.out (j := k) (by rw [HL.out]; exact hlt)
      have hsp := prodL_split (by rw [HL.out]; exact hlt) x hx
      obtain ⟨hp1, hp2⟩ := HB.out (k + 1) (by rw [HL.out]; omega)
      obtain ⟨L, hL⟩ : ∃ L, L = prodL (zs.drop (k + 1)) := ⟨_, rfl⟩
      have HCO := Lib.hid (setF_cons (a := a) (by rw [HL.out]; exact hlt) L hL)
      rw [hx] at hcell
      rw [← hL] at hsp hp1 hp2
      have hk3 := HK.out
      rw [hsp] at hk3 ⊢
      have HLL := Lib.hid hL
      obtain ⟨y, hy⟩ : ∃ y, y = a / L := ⟨_, rfl⟩
      obtain ⟨r, hr⟩ : ∃ r, r = a % L := ⟨_, rfl⟩
      have hrl : r < L := by rw [hr]; exact Nat.mod_lt _ hp1
      have hyx : y < x := by rw [hy]; exact (Nat.div_lt_iff_lt_mul hp1).2 hk3.2.1
      have D1 : Hid (((x * L : Nat) : Int).tdiv (x : Int) = (L : Int)) := by
        rw [Hid, Int.tdiv_eq_ediv_of_nonneg (by omega), ← Int.natCast_ediv, Nat.mul_div_cancel_left _ hx1]
      have D2 : Hid ((a : Int).tdiv (L : Int) = (y : Int)) := by
        rw [Hid, Int.tdiv_eq_ediv_of_nonneg (by omega), ← Int.natCast_ediv, hy]
      have D3 : Hid ((a : Int).tmod (L : Int) = (r : Int)) := by
        rw [Hid, Int.tmod_eq_emod_of_nonneg (by omega), ← Int.natCast_emod, hr]
      have E1 : Hid (((x * L : Nat) : Int) / (x : Int) = (L : Int)) := by rw [Hid, ← Int.natCast_ediv, Nat.mul_div_cancel_left _ hx1]
      have E2 : Hid ((a : Int) / (L : Int) = (y : Int)) := by rw [Hid, ← Int.natCast_ediv, hy]
      have E3 : Hid ((a : Int) % (L : Int) = (r : Int)) := by rw [Hid, ← Int.natCast_emod, hr]
      rw [← hy, ← hr] at HCO
      have HRL := Lib.hid hrl
      have HYX := Lib.hid hyx
      have HK3 := Lib.hid hk3
      have n1 : ¬ ((x : Int) = 0) := by omega
      have n2 : ¬ ((L : Int) = 0) := by omega
      have hp : L ≤ 1000000000000 := hp2
      clear hx hsp hL hk3 hrl hyx hy hr
      generalize x * L = q at *
      obtain ⟨a2, ha2⟩ : ∃ a2, a2 = dirN L (decide (y % 2 = 1)) r := ⟨_, rfl⟩
      have ha2l : a2 < L := by rw [ha2]; exact dirN_lt HRL.out
      rw [← ha2] at HCO
      have HA2 := Lib.hid ha2
      have HA2L := Lib.hid ha2l
      clear ha2 ha2l
      have HY10 : Hid (y ≤ 1000) := by have := HYX.out; rw [Hid]; omega
      obtain ⟨V1, hV1⟩ : ∃ V1, V1 = dirW wo.drew (L : Int) (decide (y % 2 = 1)) := ⟨_, rfl⟩
      have hdc := dirW_cells wo.drew (L : Int) (decide (y % 2 = 1))
      have hdb := dirW_below wo.drew (L : Int) (decide (y % 2 = 1))
      have HBH : Hid (Calls Try.prog 86 #[.int .i64 (y : Int), .int .i64 (L : Int)] wo.drew fun e w' => e = .returned (.func (.func 89) #[] #[.pointer (some ⟨wo.heap.size + 1, 0, none⟩), .pointer (some ⟨wo.heap.size, 0, none⟩)]) ∧ w' = V1) :=
        (behind_any y L wo.drew HY10.out).mono fun e w' he => ⟨he.1, by rw [he.2, hV1]⟩
      rw [← hV1] at hdc hdb
      clear hV1
      have HCL : Hid (Calls Try.prog 89 #[.int .i64 (r : Int), .pointer (some ⟨wo.heap.size + 1, 0, none⟩), .pointer (some ⟨wo.heap.size, 0, none⟩)] V1 fun e w' => e = .returned (.int .i64 (a2 : Int)) ∧ V1 = w') := by
        have := dirc_any L r wo.heap.size (decide (y % 2 = 1)) V1 (by omega) HRL.out hdc.1 hdc.2
        rw [← HA2.out] at this
        exact this
      have hbd : Below wo.heap.size wo wo.drew := (Below.refl _ wo).drew
      have HBV : Hid (Below w.heap.size w V1) := HBW.out.drew.trans (hdb.mono HBW.out.size)
      have HOV : Hid (Ow V1 w.heap.size 3 v cs) := Ow.below (w := wo.drew) HO.out hdb (Nat.le_refl _)
      have HCL2 : Hid (cs.length ≤ 1099511627776) := by
        have h1 := HN.out
        rw [Hid, HK3.out.1]; omega
      clear hdc hdb hbd
      have W1 : Hid (wrap64 (y : Int) = (y : Int)) := by have := HY10.out; exact IntWalk.wrap64_in _ ⟨by omega, by omega⟩
      have W2 : Hid (wrap64 (L : Int) = (L : Int)) := IntWalk.wrap64_in _ ⟨by omega, by omega⟩
      have W3 : Hid (wrap64 (r : Int) = (r : Int)) := by have := HRL.out; exact IntWalk.wrap64_in _ ⟨by omega, by omega⟩
      have g1 := W1.out
      have g2 := W2.out
      have g3 := W3.out
      have d1 := D1.out
      have d2 := D2.out
      have d3 := D3.out
      have e1 := E1.out
      have e2 := E2.out
      have e3 := E3.out
      go_upto_region 8 with (fail)
      go_region_with (first | (go_at_call 86; (with_reducible refine HBH.out.mono ?_); rintro e w1 ⟨rfl, rfl⟩) | (go_at_call 89; (with_reducible refine HCL.out.mono ?_); rintro e w1 ⟨rfl, rfl⟩))
      all_goals
        clear d1 d2 d3 e1 e2 e3 g1 g2 g3
        go_wp2_with (at_builtin; go_must (refine push_law _ rfl (.tmp 31) (.tmp 33) 22 rfl w.heap.size 3 i0 Try.underlying22 HI0.out _ cs (y : Int) rfl rfl HOV.out HCL2.out HBV.out.size ?_); intro v2 w2 hv2 hg2 _; have HV2 := Lib.hid hv2; have HB2 := Lib.hid (HBV.out.grown hg2 HBV.out.size (fun k e => (HOV.out.lt e).1)); clear hv2 hg2)
        refine ⟨⟨k + 1, a2, cs ++ [(y : Int)], v2, by omega, rfl, by go_num, rfl, by rw [HLL.out], ⟨by rw [List.length_append, HK3.out.1]; rfl, by rw [← HLL.out]; exact HA2L.out, ?_⟩, HV2.out, HB2.out⟩, by simp [intOf]; omega⟩
        rw [HK3.out.2.2, HCO.out, List.append_assoc]
        rfl
    · have hkn : k = n := by omega
      have HX : Hid (setF zs a0 = cs) := by
        have := HK.out.2.2
        rw [List.drop_of_length_le (by rw [HL.out]; omega), setF, List.append_nil] at this
        exact this
      have i1 : ¬ (k : Int) < (n : Int) := by omega
      clear hkn
      generalize prodL (zs.drop k) = q
      go_wp2
      go_ret
      exact ⟨⟨v, rfl, by rw [HX.out]; exact HO.out⟩, HBW.out⟩
theorem settingP_any (zs : List Int) (a : Int) (A : Option Addr) (n c : Nat) (w : World) (h : Sl w A n c zs) :
    Calls Try.prog 45 #[.slice A n c, .int .i64 a] w fun e w' => (if sizesB zs && posB a ((prodL zs : Nat) : Int) then ∃ v, e = .returned (.tuple #[v, .int .i64 0]) ∧ Ow w' w.heap.size 3 v (setF zs a.toNat) else e = badL) ∧ Below w.heap.size w w' := by
  have HZ := Lib.hid (areSizes_any zs A n c w h)
  rcases h0 : sizesB zs with _ | _
  · simp only [Bool.false_and, Bool.false_eq_true, if_false]
    rw [h0] at HZ
    clear h0 h
    go_enter Try.func45, Try.ntmps45
    go_wp2_with (go_at_call 71; (with_reducible refine HZ.out.mono ?_); rintro e w1 ⟨rfl, rfl⟩)
    go_ret2
    exact ⟨rfl, Below.refl _ _⟩
  · have HC := Lib.hid (count_any zs A n c w h h0)
    have HP := Lib.hid (fun w => isPosition_any a ((prodL zs : Nat) : Int) w)
    rw [Bool.true_and]
    rcases h1 : posB a ((prodL zs : Nat) : Int) with _ | _
    · simp only [Bool.false_eq_true, if_false]
      rw [show (decide (0 ≤ a) && decide (a < ((prodL zs : Nat) : Int))) = false from h1] at HP
      rw [h0] at HZ
      clear h0 h1 h
      generalize prodL zs = q at *
      go_enter Try.func45, Try.ntmps45
      go_wp2_with (first | (go_at_call 71; (with_reducible refine HZ.out.mono ?_); rintro e w1 ⟨rfl, rfl⟩) | (go_at_call 72; (with_reducible refine HC.out.mono ?_); rintro e w1 ⟨rfl, rfl⟩) | (go_at_call 56; (with_reducible refine (HP.out _).mono ?_); rintro e w1 ⟨rfl, rfl⟩))
      go_ret2
      exact ⟨rfl, Below.refl _ _⟩
    · simp only [if_true]
      rw [show (decide (0 ≤ a) && decide (a < ((prodL zs : Nat) : Int))) = true from h1] at HP
      obtain ⟨b, rfl, hb⟩ := posB_nat h1
      have HS := Lib.hid (settingIn_any zs b A n c w h h0 hb)
      rw [Int.toNat_natCast]
      rw [h0] at HZ
      clear h0 h1 h hb
      generalize prodL zs = q at HC HP
      go_enter Try.func45, Try.ntmps45
      go_wp2_with (first | (go_at_call 71; (with_reducible refine HZ.out.mono ?_); rintro e w1 ⟨rfl, rfl⟩) | (go_at_call 72; (with_reducible refine HC.out.mono ?_); rintro e w1 ⟨rfl, rfl⟩) | (go_at_call 56; (with_reducible refine (HP.out _).mono ?_); rintro e w1 ⟨rfl, rfl⟩) | (go_at_call 73; (with_reducible refine HS.out.mono ?_); rintro e w1 ⟨⟨v, rfl, hv⟩, hbw⟩; have HV := Lib.hid hv; have HBW := Lib.hid hbw; clear hv hbw))
      go_ret2
      exact ⟨⟨v, rfl, HV.out⟩, HBW.out⟩
end Go.Proofs.Ytfeohcknopdamaa
