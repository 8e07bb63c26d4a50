import Derived.Test.YtfeohcknopdamaaT41
import Derived.Test.YtfeohcknopdamaaT19
import Derived.Test.YtfeohcknopdamaaT40
import Derived.Deep.CutBlock
/- Layer 10: TurnsWhole. -/
namespace Go.Proofs.Ytfeohcknopdamaa
open Go.RowKit
set_option linter.unusedVariables false

theorem eqlB_ne {xs ys : List Int} (h : xs ≠ ys) : eqlB xs ys = false := by
  unfold eqlB
  rw [beq_eq_false_iff_ne]
  exact h
theorem ints_differ (V : World) (A B : Option Addr) (n c m d : Nat) (xs ys : List Int) (hn : n ≤ 1099511627776) (hm : m ≤ 1099511627776) (ha : Sl V A n c xs) (hb : Sl V B m d ys) (h : xs ≠ ys) :
    Calls Try.prog 20 #[.slice A n c, .slice B m d] V fun e w' => e = .returned (.bool false) ∧ Dr V w' := by
  refine (ints_any A B n c m d xs ys V ha.len hb.len hn hm ha.rd hb.rd).mono ?_
  rintro e w' ⟨rfl, hd⟩
  rw [eqlB_ne h]
  exact ⟨rfl, hd⟩
set_option maxRecDepth 100000 in
set_option maxHeartbeats 12800000 in
theorem whole_walk (n0 k0 : Int) (zs : List Int) (A : Option Addr) (n c : Nat) (w : World) (h : Sl w A n c zs) :
    Calls Try.prog 14 #[.int .i64 n0, .int .i64 k0, .slice A n c] w fun e w' => e = .returned (.bool true) ∧ Below w.heap.size w w' := by
  have hbig := h.big
  have HS := Lib.hid (fun V (hV : Below w.heap.size w V) => h.below hV (Nat.le_refl _))
  obtain ⟨i0, hi0, hz0, hz1, hz2⟩ := info_parts Try.infoInt
  have HI0 : Hid (Try.prog.info? 3 = some i0 ∧ i0.zero = some (.int .i64 0) ∧ i0.size = 1 ∧ i0.bytes = 8) := ⟨hi0, hz0, hz1, hz2⟩
  obtain ⟨iS, hi2, hz02, hz12, hz22⟩ := info_parts Try.infoRowS
  have HI2 : Hid (Try.prog.info? 22 = some iS ∧ iS.zero = some (.slice none 0 0) ∧ iS.size = 1 ∧ iS.bytes = 24) := ⟨hi2, hz02, hz12, hz22⟩
  have HMT := Lib.hid (fun x V => mod_any x 4 V (by omega) (by omega))
  obtain ⟨mm, hmm⟩ : ∃ mm, mm = min n 4 := ⟨_, rfl⟩
  have hm1 : mm ≤ n := by omega
  have hm2 : mm ≤ 4 := by omega
  have hm3 : mm < n → mm = 4 := by omega
  have HM3 := Lib.hid hm3
  clear h hi0 hz0 hz1 hz2 hi2 hz02 hz12 hz22 hmm hm3
  go_enter Try.func14, Try.ntmps14
  go_upto_region 2 with (go_at_call 52; refine (mod_big n0 6 _ (by omega) (by omega)).mono ?_; rintro e w1 ⟨⟨N, rfl, hN⟩, rfl⟩)
  have hN5 : N ≤ 5 := by omega
  clear hN
  have HMK : Hid (∀ V, Calls Try.prog 52 #[.int .i64 k0, .int .i64 ((N : Int) + 1)] V fun e w' => (∃ r : Nat, e = .returned (.int .i64 r) ∧ r < N + 1) ∧ V = w') := fun V => mod_big k0 (N + 1) V (by omega) (by omega)
  go_upto_region 3 with (go_at_call 52; (with_reducible refine (HMK.out _).mono ?_); rintro e w1 ⟨⟨K, rfl, hK⟩, rfl⟩)
  have hKN : K ≤ N := by omega
  clear hK HMK
  have hsh := shl_nat N (by omega)
  have hc1 := chs_pos N K hKN
  have hw1 := wy_pos N 0
  have hc2 : chs N K ≤ 32 := Nat.le_trans (chs_le N K) (Nat.pow_le_pow_right (by decide) hN5)
  have hw2 : wy N 0 ≤ 1000 := (by decide +kernel : ∀ N, N ≤ 5 → wy N 0 ≤ 1000) N hN5
  have HMY := Lib.hid (fun V => many_ok N K V (by omega) hKN)
  have HGS := Lib.hid (fun V => groupings_ok N V (by omega))
  have HRF := Lib.hid (fun V => factorialR_any N V (by omega))
  have HROW := Lib.hid (fun ds => it_row N K ds)
  obtain ⟨q, hq⟩ : ∃ q, q = 2 ^ N := ⟨_, rfl⟩
  have hq32 : q ≤ 32 := by rw [hq]; exact Nat.pow_le_pow_right (by decide) hN5
  have V1 : Hid (IntKind.i64.wrap ((2 : Int) ^ N) = (q : Int)) := by
    rw [Hid, show (2 : Int) ^ N = (q : Int) from by rw [hq, Int.natCast_pow]; rfl]
    exact IntWalk.i64_in _ (by omega)
  obtain ⟨m, hm⟩ : ∃ m, m = chs N K := ⟨_, rfl⟩
  obtain ⟨f, hf⟩ : ∃ f, f = fac N := ⟨_, rfl⟩
  obtain ⟨g, hg⟩ : ∃ g, g = wy N 0 := ⟨_, rfl⟩
  rw [← hq] at hsh HROW
  rw [← hm] at hc1 hc2 HMY HROW
  rw [← hf] at HRF HROW
  rw [← hg] at hw1 hw2 HGS HROW
  clear hq hm hf hg
  have d1 : decide ((m : Int) < 1) = false := decide_eq_false (by omega)
  have d2 : decide ((g : Int) < 1) = false := decide_eq_false (by omega)
  have d3 : decide ((m : Int) > 1000) = false := decide_eq_false (by omega)
  have d4 : decide ((g : Int) > 1000) = false := decide_eq_false (by omega)
  have d5 : decide (1000 < (m : Int)) = false := decide_eq_false (by omega)
  have d6 : decide (1000 < (g : Int)) = false := decide_eq_false (by omega)
  go_upto_block 0 with (first
    | (go_at_call 26; (with_reducible refine (HMY.out _).mono ?_); rintro e w2 ⟨rfl, hb⟩; have HB2 := Lib.hid hb; clear hb)
    | (go_at_call 40; (with_reducible refine (HGS.out _).mono ?_); rintro e w3 ⟨rfl, hb⟩; have HB3 := Lib.hid (HB2.out.trans (hb.mono HB2.out.size)); clear hb))
  clear d1 d2 d3 d4 d5 d6
  go_cut [11, 12] from 61 (fun v i wx => ∃ ds, Hid (ds.length ≤ 4 ∧ allD ds = true) ∧ Hid (Ow wx w.heap.size 3 v ds) ∧ Hid (Below w.heap.size w wx))
  case first =>
    go_wp2
    go_loopw [11, 12] (fun v i w' => ∃ (k : Nat) (ds : List Int) (v' : Value), k ≤ mm ∧ v' = v ∧ i = .int .i64 (k : Int) ∧ Hid (ds.length = k ∧ allD ds = true) ∧ Hid (Ow w' w.heap.size 3 v' ds) ∧ Hid (Below w.heap.size w w')) (fun _ i _ => mm - (intOf i).toNat)
    case atStart => exact ⟨0, [], _, Nat.zero_le _, rfl, by go_num, ⟨rfl, rfl⟩, Ow.nil _ _ _, HB3.out⟩
    case round =>
      obtain ⟨k, ds, v, hk, rfl, rfl, HD, HO, HB⟩ := hrel
      obtain ⟨wo, rfl⟩ : ∃ wo : World, wo = wr := ⟨_, rfl⟩
      clear HB2 HB3
      by_cases hlt : k < mm
      · have i1 : (k : Int) < (n : Int) := by omega
        have i2 : (k : Int) < 4 := by omega
        have i3 : decide ((k : Int) < (n : Int)) = true := decide_eq_true i1
        have i4 : decide (k < n) = true := decide_eq_true (by omega)
        obtain ⟨b, off, rfl, hcell⟩ := (HS.out wo HB.out).at_ (k := k) (by omega)
        generalize zs[k]?.getD 0 = z at hcell
        have HLN : Hid (ds.length ≤ 1099511627776) := by rw [Hid, HD.out.1]; omega
        have HBZ : Hid (w.heap.size ≤ wo.heap.size) := HB.out.size
        go_wp2_with (first | (go_at_call 52; (with_reducible refine (HMT.out _ _).mono ?_); rintro e w' ⟨⟨r, rfl, hr⟩, rfl⟩) | (at_builtin; go_must (refine push_law _ rfl (.tmp 71) (.tmp 78) 22 rfl w.heap.size 3 i0 Try.underlying22 HI0.out _ ds (1 + (r : Int)) rfl rfl HO.out HLN.out HBZ.out ?_); intro v2 w2 hv2 hg2 _; have HV2 := Lib.hid hv2; have HG2 := Lib.hid hg2; clear hv2 hg2))
        refine ⟨⟨k + 1, ds ++ [1 + (r : Int)], v2, by omega, rfl, by go_num, ⟨by rw [List.length_append, HD.out.1]; rfl, ?_⟩, HV2.out, HB.out.grown HG2.out HB.out.size (fun j e => (HO.out.lt e).1)⟩, by simp [intOf]; omega⟩
        refine allB_iff.2 fun j hj => ?_
        rw [List.length_append, List.length_singleton] at hj
        by_cases e : j < ds.length
        · rw [atI_app1 e]
          exact allB_iff.1 HD.out.2 j e
        · obtain rfl : j = ds.length := by omega
          rw [atI_app2, dialB, decide_eq_true (by omega), decide_eq_true (by omega)]; rfl
      · have hkm : k = mm := by omega
        have hdl : ds.length ≤ 4 := by rw [HD.out.1]; omega
        have HDD := Lib.hid HD.out.2
        have hdk : k ≤ 4 := by omega
        have hm3 := HM3.out
        clear HD HM3 HS HMT HI0 HI2 HMY HGS HRF HROW V1
        have i2 : k < n → decide ((k : Int) < 4) = false := fun h => decide_eq_false (by omega)
        by_cases hkn : k < n
        · have i1 : decide ((k : Int) < (n : Int)) = true := decide_eq_true (by omega)
          have i1' : (k : Int) < (n : Int) := by omega
          have i3 := i2 hkn
          have i3' : ¬ (k : Int) < 4 := by omega
          clear i2
          go_wp2
          go_meet
          exact ⟨ds, ⟨hdl, HDD.out⟩, HO.out, HB.out⟩
        · have i1 : decide ((k : Int) < (n : Int)) = false := decide_eq_false (by omega)
          have i1' : ¬ (k : Int) < (n : Int) := by omega
          clear i2
          go_wp2
          go_meet
          exact ⟨ds, ⟨hdl, HDD.out⟩, HO.out, HB.out⟩
  case rest =>
    obtain ⟨ds, HD, HO, HB⟩ := hcut
    obtain ⟨wo, rfl⟩ : ∃ wo : World, wo = wc := ⟨_, rfl⟩
    have hdl : ds.length ≤ 4 := HD.out.1
    have h0 : sizesB ds = true := by
      rw [sizesB, Bool.and_eq_true, decide_eq_true_iff]
      exact ⟨by omega, HD.out.2⟩
    obtain ⟨A1, c1, rfl, hs1⟩ := HO.out.sl (by omega)
    have HPR := Lib.hid (fun V (hV : Below wo.heap.size wo V) => productR_any ds A1 ds.length c1 V (hs1.below hV (Nat.le_refl _)) h0)
    have HSD := Lib.hid (fun V (hV : Below wo.heap.size wo V) => hs1.below hV (Nat.le_refl _))
    have HINJ := Lib.hid (it_inj N K ds HD.out.2)
    have HILEN := Lib.hid (it_len N K ds hN5 hdl)
    have HILE := Lib.hid (it_le N K ds hN5 HD.out.2 hdl)
    have HIOK := Lib.hid (fun κ a V (hV : Below wo.heap.size wo V) (hκ : κ < 5) (ha : a < itL N K ds κ) => item_ok N K κ a ds A1 ds.length c1 V (hs1.below hV (Nat.le_refl _)) hN5 hKN h0 hκ ha)
    have HIEND := Lib.hid (fun κ V (hV : Below wo.heap.size wo V) (hκ : κ < 5) => item_end N K κ ds A1 ds.length c1 V (hs1.below hV (Nat.le_refl _)) hκ)
    have HROW2 := Lib.hid (HROW.out ds)
    have HBO := Lib.hid HB.out
    have j2 : ds.length ≤ 4 := hdl
    clear hs1 HD HO h0 HS HMT HI0 HB HMY HGS HROW HM3 HB2 HB3 hc1 hc2 hw1 hw2 hdl hm1 hm2
    generalize hIT : itI N K ds = it at *
    generalize hLT : itL N K ds = lt at *
    clear hIT hLT
    generalize prodL ds = P at *
    generalize ds.length = M at *
    go_upto_region 12 with (fail)
    go_cut [13] from 80 (fun p wx => p = .pointer (some ⟨wo.heap.size, 0, none⟩) ∧ Hid (Rw wx wo.heap.size 59 5 (fun j => ((lt j : Nat) : Int))) ∧ Hid (Below wo.heap.size wo wx))
    case first =>
      go_region_with (first
        | (go_at_call 33; (with_reducible refine (HRF.out _).mono ?_); rintro e w' ⟨rfl, rfl⟩)
        | (go_at_call 48; (with_reducible refine (HPR.out _ ?_).mono ?_); (first | exact (Below.refl _ _).drew | exact ((Below.refl _ _).drew).alloc (Nat.le_refl _) _); rintro e w' ⟨rfl, rfl⟩))
      all_goals
        go_wp2_with fail
        go_meet
        rw [V1.out, HROW2.out]
        exact ⟨rfl, Rw.new wo 59 5 _, ((Below.refl _ _).alloc (Nat.le_refl _) _).drew⟩
    case rest =>
    obtain ⟨rfl, HRW, HBX⟩ := hcut
    obtain ⟨wS, rfl⟩ : ∃ wS : World, wS = wc := ⟨_, rfl⟩
    have HGL : Hid (wo.heap.size < wS.heap.size) := HRW.out.lt
    have HBS := Lib.hid (HBO.out.trans (HBX.out.mono HBO.out.size))
    have HIOK2 := Lib.hid (fun κ a V (hV : Below wS.heap.size wS V) (hκ : κ < 5) (ha : a < lt κ) => HIOK.out κ a V (HBX.out.trans (hV.mono HBX.out.size)) hκ ha)
    have HIEND2 := Lib.hid (fun κ V (hV : Below wS.heap.size wS V) (hκ : κ < 5) => HIEND.out κ V (HBX.out.trans (hV.mono HBX.out.size)) hκ)
    clear HIOK HIEND HSD HROW2 HBO HBX HPR HRF hsh
    generalize wo.heap.size = gL at *
    go_wp2
    go_loopw [14] (fun x w' => ∃ κ : Nat, κ ≤ 5 ∧ x = .int .i64 (κ : Int) ∧ Hid (Below wS.heap.size wS w')) (fun x _ => 5 - (intOf x).toNat)
    case atStart => exact ⟨0, by omega, by go_num, Below.refl _ _⟩
    case round =>
      obtain ⟨κ, hκ, rfl, HBK⟩ := hrel
      obtain ⟨wk, rfl⟩ : ∃ wk : World, wk = wr := ⟨_, rfl⟩
      by_cases hk5 : κ < 5
      · have j1 : (κ : Int) < 5 := by omega
        have HLK : Hid (lt κ ≤ 10000) := HILE.out κ
        have HCELL : Hid (∀ V, Below wS.heap.size wS V → V.cell? ⟨gL, κ, none⟩ = some (.int .i64 ((lt κ : Nat) : Int))) := fun V hV => (HRW.out.below hV HGL.out).cell (i := κ) hk5
        have HIT := Lib.hid (fun a V (hV : Below wS.heap.size wS V) (ha : a < lt κ) => HIOK2.out κ a V hV hk5 ha)
        have HEND := Lib.hid (fun V (hV : Below wS.heap.size wS V) => HIEND2.out κ V hV hk5)
        have HNE := Lib.hid (HINJ.out κ)
        have HLEN := Lib.hid (HILEN.out κ)
        clear HIOK2 HIEND2 HINJ HILEN HILE HRW
        generalize it κ = items at *
        generalize lt κ = L at *
        have hL := HLK.out
        go_wp2
        go_loopw [15, 16] (fun v x w' => ∃ (a : Nat) (vs : List Value) (v' : Value), a ≤ L ∧ v' = v ∧ x = .int .i64 (a : Int) ∧ Hid (vs.length = a) ∧ Hid (Owv w' wS.heap.size v' vs) ∧ Hid (∀ j, j < a → ∃ u, vs[j]? = some u ∧ Ow w' wS.heap.size 3 u (items j)) ∧ Hid (Below wS.heap.size wS w')) (fun _ x _ => L - (intOf x).toNat)
        case atStart => exact ⟨0, [], _, Nat.zero_le _, rfl, by go_num, rfl, ⟨by simp, .inl ⟨rfl, rfl⟩⟩, fun j hj => absurd hj (Nat.not_lt_zero _), HBK.out⟩
        case round =>
          obtain ⟨a, vs, v, ha, rfl, rfl, HVL, HOV, HVR, HBA⟩ := hrel
          obtain ⟨wm, rfl⟩ : ∃ wm : World, wm = wr := ⟨_, rfl⟩
          clear HBK
          have hcell := HCELL.out wm HBA.out
          by_cases hlt : a < L
          · have i5 : (a : Int) < (L : Int) := by omega
            have HI1 := Lib.hid (HIT.out a wm HBA.out hlt)
            obtain ⟨Av, cv, hv⟩ := HOV.out.form
            rw [HVL.out] at hv
            subst hv
            clear HIT HEND HCELL
            go_wp2_with (go_at_call 54; (with_reducible refine HI1.out.mono ?_); rintro e w3 ⟨u, x, rfl, ⟨rfl, hu⟩, hb⟩; obtain ⟨A3, c3, rfl, hs3⟩ := hu.sl (by have := HLEN.out a; omega); have HU3 := Lib.hid hu; have HS3 := Lib.hid hs3; have HB3 := Lib.hid hb; clear hu hs3 hb)
            have HOV3 := Lib.hid (HOV.out.below HB3.out (Nat.le_refl _))
            have HVR3 : Hid (∀ j, j < a → ∃ u, vs[j]? = some u ∧ Ow w3 wS.heap.size 3 u (items j)) := fun j hj => by
              obtain ⟨u, hu, ho⟩ := HVR.out j hj
              exact ⟨u, hu, ho.below HB3.out (Nat.le_refl _)⟩
            have HBA3 := Lib.hid (HBA.out.trans (HB3.out.mono HBA.out.size))
            have HU4 := Lib.hid (HU3.out.base HBA.out.size)
            clear hcell HI1 HOV HVR HBA HB3 HU3
            go_loopw [19] (fun x w' => ∃ i : Nat, i ≤ a ∧ x = .int .i64 (i : Int) ∧ Hid (Dr w3 w')) (fun x _ => a - (intOf x).toNat)
            case atStart => exact ⟨0, Nat.zero_le _, by go_num, Dr.refl _⟩
            case round =>
              obtain ⟨i, hi, rfl, HDR⟩ := hrel
              obtain ⟨wi, rfl⟩ : ∃ wi : World, wi = wr := ⟨_, rfl⟩
              have hbi := HDR.out.below w3.heap.size
              have HOVi := Lib.hid (HOV3.out.below hbi (Nat.le_refl _))
              by_cases hia : i < a
              · have i6 : (i : Int) < (a : Int) := by omega
                obtain ⟨u, hu, ho⟩ := HVR3.out i hia
                obtain ⟨A2, c2, rfl, hs2⟩ := ho.sl (by have := HLEN.out i; omega)
                obtain ⟨gv, rfl, hc⟩ := HOVi.out.at_ hu
                have HIN := Lib.hid (ints_differ wi A2 A3 _ c2 _ c3 (items i) (items a) (by have := HLEN.out i; omega) (by have := HLEN.out a; omega) (hs2.below hbi (Nat.le_refl _)) (HS3.out.below hbi (Nat.le_refl _)) (fun e => by have := HNE.out i a (by omega) hlt e; omega))
                clear ho hs2 hu hbi HOVi
                generalize (items i).length = ni at *
                generalize (items a).length = na at *
                go_wp2_with (go_at_call 20; (with_reducible refine HIN.out.mono ?_); rintro e w4 ⟨rfl, hd⟩; have HD4 := Lib.hid (HDR.out.trans hd); clear hd)
                exact ⟨⟨i + 1, by omega, by go_num, HD4.out⟩, by simp [intOf]; omega⟩
              · have i6 : ¬ (i : Int) < (a : Int) := by omega
                have HVRi : Hid (∀ j, j < a → ∃ u, vs[j]? = some u ∧ Ow wi wS.heap.size 3 u (items j)) := fun j hj => by
                  obtain ⟨u, hu, ho⟩ := HVR3.out j hj
                  exact ⟨u, hu, ho.below hbi (Nat.le_refl _)⟩
                have HUi := Lib.hid (HU4.out.below hbi (Nat.le_refl _))
                have HBi := Lib.hid (HBA3.out.trans (hbi.mono HBA3.out.size))
                have HZi : Hid (wS.heap.size ≤ wi.heap.size) := HBi.out.size
                clear hbi HOV3 HVR3 HU4 HBA3 HS3 HDR
                go_wp2_with (at_builtin; go_must (refine pushv_law _ rfl (.tmp 123) (.tmp 125) 60 rfl wS.heap.size iS Try.underlying60 HI2.out _ vs _ _ _ rfl rfl HOVi.out (by have := HVL.out; have := HLK.out; omega) HZi.out ?_); intro v5 w5 hown hg5; have HOV5 := Lib.hid hown; have HG5 := Lib.hid hg5; clear hown hg5)
                refine ⟨⟨a + 1, vs ++ [Value.slice A3 (items a).length c3], v5, by omega, rfl, by go_num, by rw [Hid, List.length_append, HVL.out]; rfl, HOV5.out, ?_, HBi.out.grown HG5.out HBi.out.size (fun j e => (World.ownsRow.lt HOVi.out j e).1)⟩, by simp [intOf]; omega⟩
                intro j hj
                by_cases e : j < a
                · obtain ⟨u, hu, ho⟩ := HVRi.out j e
                  exact ⟨u, by rw [List.getElem?_append_left (by rw [HVL.out]; exact e)]; exact hu, ho.byv HOVi.out HG5.out⟩
                · obtain rfl : j = a := by omega
                  exact ⟨_, by rw [List.getElem?_append_right (by rw [HVL.out]; exact Nat.le_refl _), HVL.out, Nat.sub_self]; rfl, HUi.out.byv HOVi.out HG5.out⟩
          · have haL : a = L := by omega
            have i5 : ¬ (a : Int) < (L : Int) := by omega
            have HE1 := Lib.hid (HEND.out wm HBA.out)
            clear HIT HEND HCELL HVL HOV HVR haL
            go_wp2_with (go_at_call 54; (with_reducible refine HE1.out.mono ?_); rintro e w3 ⟨u, x, rfl, rfl, hb⟩; have HB3 := Lib.hid (HBA.out.trans (hb.mono HBA.out.size)); clear hb)
            exact ⟨⟨κ + 1, by omega, by go_num, HB3.out⟩, by simp [intOf]; omega⟩
      · have j1 : ¬ (κ : Int) < 5 := by omega
        clear HIOK2 HIEND2 HINJ HILEN HILE HRW
        go_wp2_with (go_at_call 19; (with_reducible refine (awake_here _).mono ?_); rintro e v2 ⟨rfl, hb⟩; have HBZ := Lib.hid (HBS.out.trans ((HBK.out.trans (hb.mono HBK.out.size)).mono HBS.out.size)); clear hb)
        go_ret
        exact ⟨rfl, HBZ.out⟩
end Go.Proofs.Ytfeohcknopdamaa
