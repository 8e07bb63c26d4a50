import Derived.Test.YtcnjkdkkflpgnaaT50
/- Layer 8: the reference's Ideal. -/
namespace Go.Proofs.Ytcnjkdkkflpgnaa
open Go.RowKit Go.Maps
set_option linter.unusedVariables false

theorem own_rd {w : World} {B g n : Nat} {zs : List Int} (h : Ow w B 3 (.slice (some ⟨g, 0, none⟩) n n) zs) (hl : zs.length = n) (hn : n ≤ 1000000) : Sl w (some ⟨g, 0, none⟩) n n zs := by
  obtain ⟨A, c, e, hs⟩ := h.sl_len hl (by omega)
  injection e with e _ e2
  rw [e]
  rw [← e2] at hs
  exact hs
theorem rd_cell {w : World} {g n k : Nat} {zs : List Int} (h : Sl w (some ⟨g, 0, none⟩) n n zs) (hk : k < n) : w.cell? ⟨g, k, none⟩ = some (.int .i64 (atI zs k)) := by
  obtain ⟨b, o, e, hc⟩ := h.at_ hk
  have e := Option.some.inj e
  injection e with e1 e2 _
  rw [← e1, ← e2, Nat.zero_add] at hc
  exact hc
set_option maxRecDepth 100000 in
set_option maxHeartbeats 25600000 in
theorem idealR_any (m n : Nat) (zs : List Int) (A : Option Addr) (c : Nat) (w : World) (h : Sl w A n c zs) (h1 : 1 ≤ m) (hm : m ≤ 6) (hn : n ≤ 60) (hz : ∀ i, i < n → ∃ r : Nat, atI zs i = (r : Int) ∧ r < m) :
    Calls Try.prog 34 #[.int .i64 (m : Int), .slice A n c] w fun e w' => e = .returned (.int .i64 (idN m zs)) ∧ Below w.heap.size w w' := by
  obtain ⟨i0, hi, hz0, hz1, hz2⟩ := info_parts Try.infoInt
  have HI : Hid (Try.prog.info? 3 = some i0 ∧ i0.zero = some (.int .i64 0) ∧ i0.size = 1 ∧ i0.bytes = 8) := ⟨hi, hz0, hz1, hz2⟩
  have HSL := Lib.hid (fun V (hV : Below w.heap.size w V) => h.below hV (Nat.le_refl _))
  have HN : Hid (zs.length = n) := h.len
  have HZ := Lib.hid hz
  have HAL := Lib.hid (all_any m w hm)
  clear hi hz0 hz1 hz2 h hz
  go_enter Try.func34, Try.ntmps34
  go_upto_region 2 with (go_at_call 66; refine HAL.out.mono ?_; rintro e w1 ⟨⟨v, rfl, hv⟩, hb⟩; have HV := Lib.hid hv; have HB1 := Lib.hid hb; clear hv hb)
  clear HAL
  have HLP := Lib.hid (allL_perm m)
  have HWE : Hid (∀ Wl, (∀ j, j < (allL m).length → ∃ k : Nat, atI Wl (codN (ordAt (allL m) j) 0).toNat = (k : Int) ∧ k < (allL m).length ∧ ordAt (allL m) k = ordAt (allL m) j) → WhOk m (allL m) Wl) := fun Wl h => wh_end h
  have hle := allL_le hm
  generalize allL m = LL at *
  obtain ⟨nL, hnL⟩ : ∃ q, q = LL.length := ⟨_, rfl⟩
  have HNL : Hid (LL.length = nL) := hnL.symm
  rw [← hnL] at hle
  have hL1 := hle.1
  have hL2 := hle.2
  obtain ⟨A5, c5, rfl, hs5⟩ := HV.out.sll hnL.symm (by omega) (fun k hk => by rw [(HLP.out _ (ordAt_mem (by rw [← hnL]; exact hk))).length_eq, startL_len]; omega)
  have HRX : Hid (∃ b o, A5 = some ⟨b, o, none⟩ ∧ ∀ i, i < nL → ∃ A' c', ∀ V, Below w1.heap.size w1 V → V.cell? ⟨b, o + i, none⟩ = some (.slice A' m c') ∧ Sl V A' m c' (ordAt LL i)) := by
    obtain ⟨b, o, e, _⟩ := hs5.rows 0 hL1
    refine ⟨b, o, e, fun i hi => ?_⟩
    obtain ⟨b', o', e', hlt, A', n', c', hc, hs⟩ := hs5.rows i hi
    rw [e] at e'
    have e' := Option.some.inj e'
    injection e' with e1 e2 _
    have hn' : n' = m := by rw [← hs.len, (HLP.out _ (ordAt_mem (by rw [← hnL]; exact hi))).length_eq, startL_len]
    rw [hn'] at hc hs
    rw [← e1, ← e2] at hc
    exact ⟨A', c', fun V hV => ⟨(hV.cell (p := ⟨b, o + i, none⟩) (by rw [e1]; exact hlt)).trans hc, hs.below hV (Nat.le_refl _)⟩⟩
  obtain ⟨bL, oL', rfl, hrw⟩ := HRX.out
  have HRW := Lib.hid hrw
  clear hle hnL hs5 HRX hrw HV
  go_wp2
  go_loopw [6, 7] (fun s i w' => ∃ k N : Nat, k ≤ m ∧ i = .int .i64 (k : Int) ∧ s = .int .i64 (N : Int) ∧ Hid (N = 6 ^ k) ∧ N ≤ 46656 ∧ Hid (Below w1.heap.size w1 w')) (fun _ i _ => m - (intOf i).toNat)
  case atStart => exact ⟨0, 1, Nat.zero_le _, by go_num, rfl, rfl, by omega, Below.refl _ _⟩
  case round =>
    obtain ⟨k, N, hk, rfl, rfl, HNN, hN6, HB⟩ := hrel
    obtain ⟨wo, rfl⟩ : ∃ wo : World, wo = wr := ⟨_, rfl⟩
    by_cases hlt : k < m
    · have i1 : (k : Int) < (m : Int) := by omega
      have hN7 : N * 6 ≤ 46656 := by
        rw [HNN.out, ← Nat.pow_succ]
        exact Nat.pow_le_pow_right (n := 6) (by omega) (show k.succ ≤ 6 by omega)
      have v1 : IntKind.i64.wrap ((N : Int) * 6) = ((N * 6 : Nat) : Int) := by rw [IntWalk.i64_in _ (by omega)]; omega
      have HN8 : Hid (N * 6 = 6 ^ (k + 1)) := by rw [Hid, HNN.out, Nat.pow_succ]
      generalize N * 6 = N6 at *
      go_wp2
      exact ⟨⟨k + 1, N6, by omega, by go_num, rfl, HN8.out, by omega, HB.out⟩, by simp [intOf]; omega⟩
    · have hkm : k = m := by omega
      subst hkm
      have i1 : ¬ (k : Int) < (k : Int) := by omega
      have HZ1 : Hid (w1.heap.size ≤ wo.heap.size) := HB.out.size
      go_upto_region 8 with (at_make; go_must (refine make_law _ rfl (.tmp 43) (.tmp 43) 22 rfl w1.heap.size 3 i0 Try.underlying22 HI.out _ _ N rfl rfl rfl rfl (by omega) HZ1.out ?_); intro w2 ho hg; have HO2 := Lib.hid ho; have HB2 := Lib.hid (HB.out.grown hg HZ1.out (by simp)); clear ho hg)
      have hgw : w1.heap.size ≤ wo.heap.size := HZ1.out
      generalize wo.heap.size = gW at *
      have HGW := Lib.hid hgw
      clear HB HZ1 hgw
      go_wp2
      go_loopw [9] (fun i w' => ∃ (j : Nat) (Wl : List Int), j ≤ nL ∧ i = .int .i64 (j : Int) ∧ Hid (Wl.length = N) ∧ Hid (Ow w' w1.heap.size 3 (.slice (some ⟨gW, 0, none⟩) N N) Wl) ∧ Hid (∀ j', j' < j → ∃ q : Nat, atI Wl (codN (ordAt LL j') 0).toNat = (q : Int) ∧ q < LL.length ∧ ordAt LL q = ordAt LL j') ∧ Hid (Below w1.heap.size w1 w')) (fun i _ => nL - (intOf i).toNat)
      case atStart => exact ⟨0, _, Nat.zero_le _, by go_num, List.length_replicate, HO2.out, fun j hj => absurd hj (Nat.not_lt_zero _), HB2.out⟩
      case round =>
        clear HO2 HB2
        obtain ⟨j, Wl, hj, rfl, HWL, HO, HWP, HB⟩ := hrel
        obtain ⟨wp, rfl⟩ : ∃ wp : World, wp = wr := ⟨_, rfl⟩
        by_cases hjl : j < nL
        · have j1 : (j : Int) < (nL : Int) := by omega
          obtain ⟨A6, c6, hrow⟩ := HRW.out j hjl
          obtain ⟨hc6, hs6⟩ := hrow wp HB.out
          have hpj := HLP.out _ (ordAt_mem (k := j) (by rw [HNL.out]; exact hjl))
          obtain ⟨cN, ec, hcn⟩ := cod_nat hm hpj
          rw [← HNN.out] at hcn
          have HCO := Lib.hid (code_any (ordAt LL j) A6 k c6 wp hs6 hm (small_of hm hpj))
          rw [ec] at HCO
          have HWS := Lib.hid (wh_step hm HLP.out (by rw [HNL.out]; exact hjl) ec (by rw [HWL.out]; exact hcn) HWP.out)
          clear hs6 hrow hpj ec
          go_upto_region 12 with (go_at_call 67; refine HCO.out.mono ?_; rintro e w3 ⟨rfl, hd⟩; have HO3 := Lib.hid (HO.out.below (hd.below wp.heap.size) (Nat.le_refl _)); have HB3 := Lib.hid (HB.out.trans (hd.below _)); clear hd)
          have k1 : (cN : Int) < (N : Int) := by omega
          have c1' := HO3.out.cellAt HWL.out hcn
          have f1' := HO3.out.free HWL.out cN
          have HO4 := Lib.hid (HO3.out.put HWL.out cN (j : Int))
          have HB4 : Hid (Below w1.heap.size w1 (w3.setCell ⟨gW, cN, none⟩ (.int .i64 (j : Int)))) := HB3.out.setCell (p := ⟨gW, cN, none⟩) HGW.out _
          have HWL2 : Hid ((Wl.set cN (j : Int)).length = N) := by rw [Hid, List.length_set]; exact HWL.out
          clear hc6 HCO
          go_wp2
          exact ⟨⟨j + 1, _, by omega, by go_num, HWL2.out, HO4.out, HWS.out, HB4.out⟩, by simp [intOf]; omega⟩
        · have hjn : j = nL := by omega
          have j1 : ¬ (j : Int) < (nL : Int) := by omega
          have HWH := Lib.hid (HWE.out Wl (fun j' hj' => HWP.out j' (by rw [hjn, ← HNL.out]; exact hj')))
          have HWR := Lib.hid (fun V (hV : Below wp.heap.size wp V) => (own_rd HO.out HWL.out (by omega)).below hV (Nat.le_refl _))
          have HZ1 : Hid (w1.heap.size ≤ wp.heap.size) := HB.out.size
          have hnm : nL * k ≤ 720 * 6 := Nat.mul_le_mul hL2 hm
          have v2 : IntKind.i64.wrap ((nL : Int) * (k : Int)) = ((nL * k : Nat) : Int) := by rw [← Int.natCast_mul]; exact IntWalk.i64_in _ (by omega)
          obtain ⟨NM, hNM⟩ : ∃ q, q = nL * k := ⟨_, rfl⟩
          rw [← hNM] at v2 hnm
          have HNM := Lib.hid hNM
          clear hjn hNM HO HWP HWE
          go_upto_region 14 with (at_make; go_must (refine make_law _ rfl (.tmp 63) (.tmp 63) 22 rfl wp.heap.size 3 i0 Try.underlying22 HI.out _ _ NM rfl rfl rfl rfl (by omega) (Nat.le_refl _) ?_); intro w2 ho hg; have HO2 := Lib.hid ho; have HB2 := Lib.hid ((Below.refl wp.heap.size wp).grown hg (Nat.le_refl _) (by simp)); clear ho hg)
          have HWK := Lib.hid (fun o ho => HWH.out.wof (o := o) ho)
          generalize hgM : wp.heap.size = gM at *
          have HGM := Lib.hid hgM
          clear hgM
          go_wp2
          go_loopw [12] (fun i w' => ∃ (a : Nat) (Nl : List Int), a ≤ nL ∧ i = .int .i64 (a : Int) ∧ Hid (Nl.length = NM) ∧ Hid (Ow w' gM 3 (.slice (some ⟨gM, 0, none⟩) NM NM) Nl) ∧ Hid (∀ a' b, a' < a → b + 1 < k → atI Nl (a' * k + b) = (wOf Wl (movedL (ordAt LL a') (b + 1) b) : Int)) ∧ Hid (Below gM wp w')) (fun i _ => nL - (intOf i).toNat)
          case atStart => exact ⟨0, _, Nat.zero_le _, by go_num, List.length_replicate, HO2.out, fun a' b h => absurd h (Nat.not_lt_zero _), HB2.out⟩
          case round =>
            clear HO2 HB2
            obtain ⟨a, Nl, ha, rfl, HNK, HON, HNP, HBN⟩ := hrel
            obtain ⟨wq, rfl⟩ : ∃ wq : World, wq = wr := ⟨_, rfl⟩
            by_cases hal : a < nL
            · have k1 : (a : Int) < (nL : Int) := by omega
              go_wp2
              go_loopw [13] (fun i w' => ∃ (b : Nat) (Nl : List Int), b + 1 ≤ k ∧ i = .int .i64 (b : Int) ∧ Hid (Nl.length = NM) ∧ Hid (Ow w' gM 3 (.slice (some ⟨gM, 0, none⟩) NM NM) Nl) ∧ Hid (∀ a' b', (a' < a ∨ (a' = a ∧ b' < b)) → b' + 1 < k → atI Nl (a' * k + b') = (wOf Wl (movedL (ordAt LL a') (b' + 1) b') : Int)) ∧ Hid (Below gM wp w')) (fun i _ => k - (intOf i).toNat)
              case atStart => exact ⟨0, _, h1, by go_num, HNK.out, HON.out, fun a' b' h hb => HNP.out a' b' (by omega) hb, HBN.out⟩
              case round =>
                clear HNK HON HNP HBN
                obtain ⟨b, Nl, hb, rfl, HNK, HON, HNP, HBN⟩ := hrel
                obtain ⟨wi, rfl⟩ : ∃ wi : World, wi = wr := ⟨_, rfl⟩
                have v5 : IntKind.i64.wrap ((b : Int) + 1) = (b : Int) + 1 := IntWalk.i64_in _ (by omega)
                have HB1i : Hid (Below w1.heap.size w1 wi) := HB.out.trans (HBN.out.mono HZ1.out)
                by_cases hbk : b + 1 < k
                · have j2 : (b : Int) + 1 < (k : Int) := by omega
                  obtain ⟨A6, c6, hrow⟩ := HRW.out a hal
                  obtain ⟨hc6, hs6⟩ := hrow wi HB1i.out
                  have hpj := HLP.out _ (ordAt_mem (k := a) (by rw [HNL.out]; exact hal))
                  have hpm : List.Perm (movedL (ordAt LL a) (b + 1) b) (startL k) := (moved_perm (by rw [hpj.length_eq, startL_len]; exact hbk)).trans hpj
                  have HPM := Lib.hid hpm
                  have HMV : Hid (Calls Try.prog 65 #[.slice A6 k c6, .int .i64 ((b : Int) + 1), .int .i64 (b : Int)] wi fun e w' => (∃ v, e = .returned v ∧ Ow w' wi.heap.size 3 v (movedL (ordAt LL a) (b + 1) b)) ∧ Below wi.heap.size wi w') := movedR_any A6 k c6 (b + 1) b (ordAt LL a) wi hs6 hbk (by omega) (by omega)
                  obtain ⟨cN, ec, hcn⟩ := cod_nat hm hpm
                  rw [← HNN.out] at hcn
                  obtain ⟨w5', w6', _⟩ := HWK.out _ hpm
                  rw [ec, Int.toNat_natCast] at w5'
                  have HCO : Hid (∀ V A9 c9, Sl V A9 k c9 (movedL (ordAt LL a) (b + 1) b) → Calls Try.prog 67 #[.slice A9 k c9] V fun e w' => e = .returned (.int .i64 (cN : Int)) ∧ Dr V w') := fun V A9 c9 h9 => by
                    have := code_any _ A9 k c9 V h9 hm (small_of hm HPM.out)
                    rwa [ec] at this
                  have hmk : a * k ≤ 720 * 6 := Nat.mul_le_mul (by omega) hm
                  have hfl : a * k + b < NM := by rw [HNM.out]; exact flat_lt (by omega) hal
                  have v6 : IntKind.i64.wrap ((a : Int) * (k : Int)) = ((a * k : Nat) : Int) := by rw [← Int.natCast_mul]; exact IntWalk.i64_in _ (by omega)
                  have v7 : IntKind.i64.wrap (((a * k : Nat) : Int) + (b : Int)) = ((a * k + b : Nat) : Int) := by rw [IntWalk.i64_in _ (by omega)]; omega
                  have HFI : Hid (∀ a' b', b' + 1 < k → a' * k + b' = a * k + b → a' = a ∧ b' = b) := fun a' b' h1 h2 => flat_inj (by omega) (by omega) h2
                  generalize hak : a * k = ak at *
                  generalize hab : ak + b = ab at *
                  have HAK := Lib.hid hak
                  have HAB := Lib.hid hab
                  clear hak
                  clear hab hs6 hrow hpj hpm ec hmk
                  have HML : Hid ((movedL (ordAt LL a) (b + 1) b).length = k) := by rw [Hid, HPM.out.length_eq, startL_len]
                  go_upto_region 21 with (first
                    | (go_at_call 65; refine HMV.out.mono ?_; rintro e w3 ⟨⟨v, rfl, ho⟩, hb3⟩; obtain ⟨A9, c9, rfl, hs9⟩ := ho.sl_len HML.out (by omega); have HS9 := Lib.hid hs9; have HO3 := Lib.hid (HON.out.below hb3 (Nat.le_refl _)); have HZW : Hid (gM ≤ wi.heap.size) := (by rw [Hid, ← HGM.out]; exact HBN.out.size); have HB3 := Lib.hid (HBN.out.trans (hb3.mono HZW.out)); clear ho hs9 hb3)
                    | (go_at_call 67; refine (HCO.out _ _ _ HS9.out).mono ?_; rintro e w4 ⟨rfl, hd⟩; have HO4 := Lib.hid (HO3.out.below (hd.below w3.heap.size) (Nat.le_refl _)); have HB4 := Lib.hid (HB3.out.trans (hd.below _)); clear hd))
                  have j3 : (cN : Int) < (N : Int) := by omega
                  have j4 : (ab : Int) < (NM : Int) := by omega
                  have cw := rd_cell (HWR.out _ HB4.out) hcn
                  rw [w5'] at cw
                  have cn := HO4.out.cellAt HNK.out hfl
                  have fn := HO4.out.free HNK.out ab
                  have HO5 := Lib.hid (HO4.out.put HNK.out ab (wOf Wl (movedL (ordAt LL a) (b + 1) b) : Int))
                  have HB5 : Hid (Below gM wp (w4.setCell ⟨gM, ab, none⟩ (.int .i64 (wOf Wl (movedL (ordAt LL a) (b + 1) b) : Int)))) := HB4.out.setCell (p := ⟨gM, ab, none⟩) (Nat.le_refl _) _
                  have HNK2 : Hid ((Nl.set ab (wOf Wl (movedL (ordAt LL a) (b + 1) b) : Int)).length = NM) := by rw [Hid, List.length_set]; exact HNK.out
                  have HNP2 : Hid (∀ a' b', (a' < a ∨ (a' = a ∧ b' < b + 1)) → b' + 1 < k → atI (Nl.set ab (wOf Wl (movedL (ordAt LL a) (b + 1) b) : Int)) (a' * k + b') = (wOf Wl (movedL (ordAt LL a') (b' + 1) b') : Int)) := fun a' b' h h2 => by
                    rw [atI_set (by rw [HNK.out]; exact hfl)]
                    by_cases e : a' * k + b' = ab
                    · obtain ⟨e1, e2⟩ := HFI.out a' b' h2 e
                      rw [if_pos e, e1, e2]
                    · rw [if_neg e]
                      refine HNP.out a' b' ?_ h2
                      rcases h with h | ⟨h, h'⟩
                      · exact .inl h
                      · refine .inr ⟨h, ?_⟩
                        have : b' ≠ b := fun e2 => e (by rw [h, e2, HAK.out]; exact HAB.out)
                        omega
                  generalize (wOf Wl (movedL (ordAt LL a) (b + 1) b)) = q at *
                  clear w5' w6' hc6
                  go_wp2
                  exact ⟨⟨b + 1, _, by omega, by go_num, HNK2.out, HO5.out, HNP2.out, HB5.out⟩, by simp [intOf]; omega⟩
                · have j2 : ¬ (b : Int) + 1 < (k : Int) := by omega
                  go_wp2
                  exact ⟨⟨a + 1, _, by omega, by go_num, HNK.out, HON.out, fun a' b' h h2 => HNP.out a' b' (by omega) h2, HBN.out⟩, by simp [intOf]; omega⟩
            · have k1 : ¬ (a : Int) < (nL : Int) := by omega
              have han : a = nL := by omega
              have HNR : Hid (∀ i k', i < LL.length → k' + 1 < k → atI Nl (i * k + k') = (wOf Wl (movedL (ordAt LL i) (k' + 1) k') : Int)) := fun i k' hi hk' => HNP.out i k' (by rw [han, ← HNL.out]; exact hi) hk'
              clear han HNP
              have HBQ1 : Hid (Below w1.heap.size w1 wq) := HB.out.trans (HBN.out.mono HZ1.out)
              have HNS := Lib.hid (fun V (hV : Below wq.heap.size wq V) => (own_rd HON.out HNK.out (by omega)).below hV (Nat.le_refl _))
              have HWS2 : Hid (∀ V, Below wq.heap.size wq V → Sl V (some ⟨gW, 0, none⟩) N N Wl) := fun V hV => HWR.out V (HBN.out.trans (hV.mono (by rw [← HGM.out]; exact HBN.out.size)))
              clear HNK HON HBN HWR
              go_upto_region 23 with (at_make; go_must (refine make_law _ rfl (.tmp 98) (.tmp 98) 22 rfl wq.heap.size 3 i0 Try.underlying22 HI.out _ _ nL rfl rfl rfl rfl (by omega) (Nat.le_refl _) ?_); intro w2 ho hg; have HO2 := Lib.hid ho; have HB2 := Lib.hid ((Below.refl wq.heap.size wq).grown hg (Nat.le_refl _) (by simp)); clear ho hg)
              go_upto_region 24 with (go_at_call 64; refine (startR_any k w2 (by omega)).mono ?_; rintro e w3 ⟨⟨v, rfl, ho⟩, hb3⟩; obtain ⟨A7, c7, rfl, hs7⟩ := ho.sl_len (startL_len k) (by omega); have HFO := Lib.hid ho; have HO3 := Lib.hid (HO2.out.below hb3 (Nat.le_refl _)); have HB3 := Lib.hid (HB2.out.trans (hb3.mono HB2.out.size)); have HZ2 : Hid (wq.heap.size < w2.heap.size) := (HO2.out.lt (k := wq.heap.size) rfl).2; clear ho hb3 hs7)
              generalize hgC : wq.heap.size = gC at *
              have HGC := Lib.hid hgC
              clear hgC HO2 HB2
              have HZC : Hid (w1.heap.size ≤ gC) := by rw [Hid, ← HGC.out]; exact HBQ1.out.size
              go_wp2
              go_loopw [17] (fun i w' => ∃ (a : Nat) (Cl : List Int), a ≤ nL ∧ i = .int .i64 (a : Int) ∧ Hid (Cl.length = nL) ∧ Hid (Ow w' gC 3 (.slice (some ⟨gC, 0, none⟩) nL nL) Cl) ∧ Hid (Ow w' w2.heap.size 3 (.slice A7 k c7) (startL k)) ∧ Hid (∀ a', a' < a → atI Cl a' = (turnN (startL k) (ordAt LL a') : Int)) ∧ Hid (Below gC wq w')) (fun i _ => nL - (intOf i).toNat)
              case atStart => exact ⟨0, _, Nat.zero_le _, by go_num, List.length_replicate, HO3.out, HFO.out, fun a' h => absurd h (Nat.not_lt_zero _), HB3.out⟩
              case round =>
                clear HO3 HFO HB3
                obtain ⟨a, Cl, ha, rfl, HCK, HOC, HFO, HCP, HBC⟩ := hrel
                obtain ⟨wi, rfl⟩ : ∃ wi : World, wi = wr := ⟨_, rfl⟩
                by_cases hal : a < nL
                · have k2 : (a : Int) < (nL : Int) := by omega
                  have HB1i : Hid (Below w1.heap.size w1 wi) := HBQ1.out.trans (HBC.out.mono HZC.out)
                  obtain ⟨A6, c6, hrow⟩ := HRW.out a hal
                  obtain ⟨hc6, hs6⟩ := hrow wi HB1i.out
                  obtain ⟨A8, c8, e8, hs8⟩ := HFO.out.sl_len (startL_len k) (by omega)
                  injection e8 with e8 _ e9
                  have HTU : Hid (Calls Try.prog 38 #[.slice A7 k c7, .slice A6 k c6] wi fun e w' => e = .returned (.int .i64 (turnN (startL k) (ordAt LL a) : Int)) ∧ Dr wi w') := by
                    rw [e8, e9]
                    exact turnedR_any (startL k) (ordAt LL a) A8 A6 k c8 k c6 wi hs8 hs6 (by omega)
                  clear hs6 hrow hs8 e8 e9
                  have HCP2 : Hid (∀ a', a' < a + 1 → atI (Cl.set a (turnN (startL k) (ordAt LL a) : Int)) a' = (turnN (startL k) (ordAt LL a') : Int)) := fun a' h => by
                    rw [atI_set (by rw [HCK.out]; exact hal)]
                    by_cases e : a' = a
                    · rw [if_pos e, e]
                    · rw [if_neg e]; exact HCP.out a' (by omega)
                  have HCK2 : Hid ((Cl.set a (turnN (startL k) (ordAt LL a) : Int)).length = nL) := by rw [Hid, List.length_set]; exact HCK.out
                  generalize turnN (startL k) (ordAt LL a) = T at *
                  have c1' := HOC.out.cellAt HCK.out hal
                  have f1' := HOC.out.free HCK.out a
                  have HPU : Hid (∀ V, Dr wi V → V.cell? ⟨gC, a, none⟩ = some (.int .i64 (Cl[a]?.getD 0)) ∧ V.frozen? ⟨gC, a, none⟩ = false ∧ Ow (V.setCell ⟨gC, a, none⟩ (.int .i64 (T : Int))) gC 3 (.slice (some ⟨gC, 0, none⟩) nL nL) (Cl.set a (T : Int)) ∧ Ow (V.setCell ⟨gC, a, none⟩ (.int .i64 (T : Int))) w2.heap.size 3 (.slice A7 k c7) (startL k) ∧ Below gC wq (V.setCell ⟨gC, a, none⟩ (.int .i64 (T : Int)))) := fun V hV => by
                    have ho := HOC.out.below (hV.below wi.heap.size) (Nat.le_refl _)
                    exact ⟨ho.cellAt HCK.out hal, ho.free HCK.out a, ho.put HCK.out a _, ownsRow_setCell_below (HFO.out.below (hV.below wi.heap.size) (Nat.le_refl _)) (a := ⟨gC, a, none⟩) HZ2.out _, (HBC.out.trans (hV.below _)).setCell (p := ⟨gC, a, none⟩) (Nat.le_refl _) _⟩
                  clear c1' f1'
                  go_wp2_with (go_at_call 38; refine HTU.out.mono ?_; rintro e w4 ⟨rfl, hd⟩; obtain ⟨c1', f1', o1', o2', b1'⟩ := HPU.out _ hd; have HX1 := Lib.hid o1'; have HX2 := Lib.hid o2'; have HX3 := Lib.hid b1'; clear o1' o2' b1' hd)
                  exact ⟨⟨a + 1, _, by omega, by go_num, HCK2.out, HX1.out, HX2.out, HCP2.out, HX3.out⟩, by simp [intOf]; omega⟩
                · have k2 : ¬ (a : Int) < (nL : Int) := by omega
                  have han : a = nL := by omega
                  have HCA : Hid (∀ a', a' < LL.length → atI Cl a' = (turnN (startL k) (ordAt LL a') : Int)) := fun a' h => HCP.out a' (by rw [han, ← HNL.out]; exact h)
                  clear han HCP HFO
                  have HZL : Hid (∀ i, i < zs.length → ∃ r : Nat, atI zs i = (r : Int) ∧ r < k) := by rw [Hid, HN.out]; exact HZ.out
                  have HLO0 := Lib.hid (low_start h1 hm HZL.out HLP.out HCA.out)
                  have HUP0 := Lib.hid (upp_start (zs := zs) hm HWH.out HCA.out)
                  have HBD0 : Hid (∀ i, i < nL → 0 ≤ atI Cl i ∧ atI Cl i ≤ 36) := fun i hi => by
                    rw [HCA.out i (by rw [HNL.out]; exact hi)]
                    have := turnN_36 (xs := startL k) (ys := ordAt LL i) (by rw [startL_len]; exact hm)
                    omega
                  rw [HN.out] at HLO0
                  clear HCA
                  go_wp2
                  go_loopw [15, 18] (fun cv i w' => ∃ (q g : Nat) (Cl : List Int), q ≤ n ∧ i = .int .i64 (q : Int) ∧ cv = .slice (some ⟨g, 0, none⟩) nL nL ∧ Hid (Cl.length = nL) ∧ Hid (Ow w' gC 3 (.slice (some ⟨g, 0, none⟩) nL nL) Cl) ∧ Hid (Low k zs LL Cl (n - q)) ∧ Hid (Upp k zs Wl Cl q) ∧ Hid (∀ i, i < nL → 0 ≤ atI Cl i ∧ atI Cl i ≤ 36 + 50 * (q : Int)) ∧ Hid (Below gC wq w')) (fun _ i _ => n - (intOf i).toNat)
                  case atStart => exact ⟨0, gC, Cl, Nat.zero_le _, by go_num, rfl, HCK.out, HOC.out, HLO0.out, HUP0.out, fun i hi => by have := HBD0.out i hi; omega, HBC.out⟩
                  case round =>
                    clear HCK HOC HLO0 HUP0 HBD0 HBC
                    obtain ⟨q, g, Cl, hq, rfl, rfl, HCK, HOC, HLO, HUP, HBD, HBC⟩ := hrel
                    obtain ⟨wx, rfl⟩ : ∃ wx : World, wx = wr := ⟨_, rfl⟩
                    have HB1x : Hid (Below w1.heap.size w1 wx) := HBQ1.out.trans (HBC.out.mono HZC.out)
                    by_cases hql : q < n
                    · have k3 : (q : Int) < (n : Int) := by omega
                      obtain ⟨r, er, hr⟩ := HZ.out q hql
                      obtain ⟨bz, oz, rfl, hcz⟩ := (HSL.out wx (HB1.out.trans (HB1x.out.mono HB1.out.size))).at_ hql
                      have HCZ : Hid (∀ V, Below w1.heap.size w1 V → V.cell? ⟨bz, oz + q, none⟩ = some (.int .i64 (r : Int))) := fun V hV => by
                        obtain ⟨b3, o3, e3, hc3⟩ := (HSL.out V (HB1.out.trans (hV.mono HB1.out.size))).at_ hql
                        have e3 := Option.some.inj e3
                        injection e3 with e3 e4 _
                        rw [← e3, ← e4, show zs[q]?.getD 0 = atI zs q from rfl, er] at hc3
                        exact hc3
                      have HER : Hid (atI zs q = (r : Int) ∧ r < k) := ⟨er, hr⟩
                      have HCS := Lib.hid (fun V (hV : Below wx.heap.size wx V) => (own_rd HOC.out HCK.out (by omega)).below hV (Nat.le_refl _))
                      have HZX1 : Hid (w1.heap.size ≤ wx.heap.size) := HB1x.out.size
                      have HZXC : Hid (gC ≤ wx.heap.size) := by rw [Hid, ← HGC.out]; exact HBC.out.size
                      have HPL : Hid (∀ i, i < nL → ∃ p : Nat, ixI (ordAt LL i) (r : Int) = (p : Int) ∧ p < k) := fun i hi => ok_place (perm_okO (HLP.out _ (ordAt_mem (by rw [HNL.out]; exact hi)))) HER.out.2
                      have hn60 : n ≤ 60 := hn
                      clear er hr hcz
                      go_upto_region 32 with (at_make; go_must (refine make_law _ rfl (.tmp 124) (.tmp 124) 22 rfl wx.heap.size 3 i0 Try.underlying22 HI.out _ _ nL rfl rfl rfl rfl (by omega) (Nat.le_refl _) ?_); intro w2' ho hg; have HO2 := Lib.hid ho; have HB2 := Lib.hid ((Below.refl wx.heap.size wx).grown hg (Nat.le_refl _) (by simp)); clear ho hg)
                      generalize hgS : wx.heap.size = gS at *
                      have HGS := Lib.hid hgS
                      clear hgS
                      go_wp2
                      go_loopw [20] (fun i w' => ∃ (a : Nat) (Sv : List Int), a ≤ nL ∧ i = .int .i64 (a : Int) ∧ Hid (Sv.length = nL) ∧ Hid (Ow w' gS 3 (.slice (some ⟨gS, 0, none⟩) nL nL) Sv) ∧ Hid (∀ a', a' < a → atI Sv a' = atI Cl a' + ixI (ordAt LL a') (r : Int) + 1) ∧ Hid (Below gS wx w')) (fun i _ => nL - (intOf i).toNat)
                      case atStart => exact ⟨0, _, Nat.zero_le _, by go_num, List.length_replicate, HO2.out, fun a' h => absurd h (Nat.not_lt_zero _), HB2.out⟩
                      case round =>
                        clear HO2 HB2
                        obtain ⟨a, Sv, ha, rfl, HSK, HOS, HSP, HBS⟩ := hrel
                        obtain ⟨wi, rfl⟩ : ∃ wi : World, wi = wr := ⟨_, rfl⟩
                        by_cases hal : a < nL
                        · have k4 : (a : Int) < (nL : Int) := by omega
                          have HBD1 : Hid (Below w1.heap.size w1 wi.drew) := HB1x.out.trans ((HBS.out.drew).mono HZX1.out)
                          obtain ⟨A6, c6, hrow⟩ := HRW.out a hal
                          obtain ⟨hc6, hs6⟩ := hrow wi.drew HBD1.out
                          obtain ⟨p, ep, hp⟩ := HPL.out a hal
                          have HIX : Hid (∀ V, Below w1.heap.size w1 V → Calls Try.prog 50 #[.slice A6 k c6, .int .i64 (r : Int)] V fun e w' => e = .returned (.int .i64 (p : Int)) ∧ V = w') := fun V hV => by
                            have := index_any (ordAt LL a) (r : Int) A6 k c6 V (hrow V hV).2
                            rwa [ep] at this
                          have hcc := rd_cell (HCS.out wi.drew HBS.out.drew) hal
                          have hcz := HCZ.out wi.drew HBD1.out
                          have hbd := HBD.out a hal
                          have HSP2 : Hid (∀ a', a' < a + 1 → atI (Sv.set a (atI Cl a + (p : Int) + 1)) a' = atI Cl a' + ixI (ordAt LL a') (r : Int) + 1) := fun a' h => by
                            rw [atI_set (by rw [HSK.out]; exact hal)]
                            by_cases e : a' = a
                            · rw [if_pos e, e, ep]
                            · rw [if_neg e]; exact HSP.out a' (by omega)
                          have HSK2 : Hid ((Sv.set a (atI Cl a + (p : Int) + 1)).length = nL) := by rw [Hid, List.length_set]; exact HSK.out
                          generalize atI Cl a = z at *
                          have v8 : IntKind.i64.wrap (z + (p : Int)) = z + (p : Int) := IntWalk.i64_in _ (by omega)
                          have v9 : IntKind.i64.wrap (z + (p : Int) + 1) = z + (p : Int) + 1 := IntWalk.i64_in _ (by omega)
                          have c1' : wi.drew.cell? ⟨gS, a, none⟩ = some (.int .i64 (Sv[a]?.getD 0)) := HOS.out.cellAt HSK.out hal
                          have f1' : wi.drew.frozen? ⟨gS, a, none⟩ = false := HOS.out.free HSK.out a
                          have HO5 : Hid (Ow (wi.drew.setCell ⟨gS, a, none⟩ (.int .i64 (z + (p : Int) + 1))) gS 3 (.slice (some ⟨gS, 0, none⟩) nL nL) (Sv.set a (z + (p : Int) + 1))) := Ow.put (w := wi.drew) (HOS.out.drewN 1) HSK.out a _
                          have HB5 : Hid (Below gS wx (wi.drew.setCell ⟨gS, a, none⟩ (.int .i64 (z + (p : Int) + 1)))) := HBS.out.drew.setCell (p := ⟨gS, a, none⟩) (Nat.le_refl _) _
                          have HS0 : Hid (wi.drew.cell? ⟨g, a, none⟩ = some (.int .i64 z) ∧ wi.drew.cell? ⟨bL, oL' + a, none⟩ = some (.slice A6 k c6) ∧ wi.drew.cell? ⟨bz, oz + q, none⟩ = some (.int .i64 (r : Int)) ∧ wi.drew.cell? ⟨gS, a, none⟩ = some (.int .i64 (Sv[a]?.getD 0)) ∧ wi.drew.frozen? ⟨gS, a, none⟩ = false) := ⟨hcc, hc6, hcz, c1', f1'⟩
                          clear hs6 hrow ep hbd
                          go_wp2
                          go_region_law (first
                            | (go_simp; go_at_call 50; refine (HIX.out _ HBD1.out).mono ?_; rintro e w4 ⟨rfl, rfl⟩))
                          all_goals
                            go_wp2
                            exact ⟨⟨a + 1, _, by omega, by go_num, HSK2.out, HO5.out, HSP2.out, HB5.out⟩, by simp [intOf]; omega⟩
                        · have k4 : ¬ (a : Int) < (nL : Int) := by omega
                          have han : a = nL := by omega
                          have HSA : Hid (∀ a', a' < nL → atI Sv a' = atI Cl a' + ixI (ordAt LL a') (r : Int) + 1) := fun a' h => HSP.out a' (by omega)
                          have HSS := Lib.hid (fun V (hV : Below wi.heap.size wi V) => (own_rd HOS.out HSK.out (by omega)).below hV (Nat.le_refl _))
                          have HZS : Hid (gS ≤ wi.heap.size) := by rw [Hid, ← HGS.out]; exact HBS.out.size
                          have HB1i : Hid (Below w1.heap.size w1 wi) := HB1x.out.trans (HBS.out.mono HZX1.out)
                          have HZI1 : Hid (w1.heap.size ≤ wi.heap.size) := HB1i.out.size
                          have HZIC : Hid (gC ≤ wi.heap.size) := Nat.le_trans HZXC.out HZS.out
                          have HBCi : Hid (Below gC wq wi) := HBC.out.trans (HBS.out.mono HZXC.out)
                          clear han HSP HOS HSK HBS HOC HBC
                          go_upto_region 37 with (at_make; go_must (refine make_law _ rfl (.tmp 151) (.tmp 151) 22 rfl wi.heap.size 3 i0 Try.underlying22 HI.out _ _ nL rfl rfl rfl rfl (by omega) (Nat.le_refl _) ?_); intro w2' ho hg; have HO2 := Lib.hid ho; have HB2 := Lib.hid ((Below.refl wi.heap.size wi).grown hg (Nat.le_refl _) (by simp)); clear ho hg)
                          generalize hgX : wi.heap.size = gX at *
                          have HGX := Lib.hid hgX
                          clear hgX
                          go_wp2
                          go_loopw [22] (fun i w' => ∃ (a : Nat) (Xv : List Int), a ≤ nL ∧ i = .int .i64 (a : Int) ∧ Hid (Xv.length = nL) ∧ Hid (Ow w' gX 3 (.slice (some ⟨gX, 0, none⟩) nL nL) Xv) ∧ Hid (∀ a', a' < a → atI Xv a' = atI Sv a') ∧ Hid (Below gX wi w')) (fun i _ => nL - (intOf i).toNat)
                          case atStart => exact ⟨0, _, Nat.zero_le _, by go_num, List.length_replicate, HO2.out, fun a' h => absurd h (Nat.not_lt_zero _), HB2.out⟩
                          case round =>
                            clear HO2 HB2
                            obtain ⟨a, Xv, ha, rfl, HXK, HOX, HXP, HBX⟩ := hrel
                            obtain ⟨wj, rfl⟩ : ∃ wj : World, wj = wr := ⟨_, rfl⟩
                            by_cases hal : a < nL
                            · have k5 : (a : Int) < (nL : Int) := by omega
                              have hcs := rd_cell (HSS.out wj HBX.out) hal
                              have HXP2 : Hid (∀ a', a' < a + 1 → atI (Xv.set a (atI Sv a)) a' = atI Sv a') := fun a' h => by
                                rw [atI_set (by rw [HXK.out]; exact hal)]
                                by_cases e : a' = a
                                · rw [if_pos e, e]
                                · rw [if_neg e]; exact HXP.out a' (by omega)
                              have HXK2 : Hid ((Xv.set a (atI Sv a)).length = nL) := by rw [Hid, List.length_set]; exact HXK.out
                              have c1' := HOX.out.cellAt HXK.out hal
                              have f1' := HOX.out.free HXK.out a
                              have HO5 := Lib.hid (HOX.out.put HXK.out a (atI Sv a))
                              have HB5 : Hid (Below gX wi (wj.setCell ⟨gX, a, none⟩ (.int .i64 (atI Sv a)))) := HBX.out.setCell (p := ⟨gX, a, none⟩) (Nat.le_refl _) _
                              generalize atI Sv a = z at *
                              go_wp2
                              exact ⟨⟨a + 1, _, by omega, by go_num, HXK2.out, HO5.out, HXP2.out, HB5.out⟩, by simp [intOf]; omega⟩
                            · have k5 : ¬ (a : Int) < (nL : Int) := by omega
                              have han : a = nL := by omega
                              obtain ⟨jj, hjj⟩ : ∃ jj, jj + 1 = n - q := ⟨n - q - 1, by omega⟩
                              rw [← hjj] at HLO
                              have hjn : jj < zs.length := by rw [HN.out]; omega
                              have hid : zs.length - 1 - jj = q := by rw [HN.out]; omega
                              have HLS : Hid (∀ i p t : Nat, i < nL → ixI (ordAt LL i) (r : Int) = (p : Int) → p < k → t ≤ p → idN k zs ≤ atI Sv i + gN k zs jj (padO (movedL (ordAt LL i) p t))) := fun i p t hi ep hp ht => by
                                have := low_serve hm HLP.out HLO.out hjn (by rw [hid]; exact HER.out.1) HER.out.2 (by rw [HNL.out]; exact hi) ep hp ht
                                rw [HSA.out i hi, ep]
                                omega
                              have HRX : Hid (RxI k zs LL Cl r nL jj Xv) := by
                                have hxa : ∀ i, i < nL → atI Xv i = atI Sv i := fun i hi => HXP.out i (by omega)
                                refine ⟨HXK.out, fun i hi => ?_, fun i hi => ?_, fun i p hi ep => ?_⟩
                                · rw [HNL.out] at hi
                                  obtain ⟨p, ep, hp⟩ := HPL.out i hi
                                  have := HLS.out i p p hi ep hp (Nat.le_refl _)
                                  rw [moved_self (by rw [(HLP.out _ (ordAt_mem (by rw [HNL.out]; exact hi))).length_eq, startL_len]; exact hp)] at this
                                  rw [hxa i hi]; exact this
                                · obtain ⟨p, ep, hp⟩ := HPL.out i hi
                                  rw [hxa i hi, HSA.out i hi, ep]
                                  have := (HBD.out i hi).1
                                  omega
                                · rw [hxa i hi, HSA.out i hi, ep]
                                  exact Int.le_refl _
                              have HSB : Hid (∀ i, i < nL → 0 ≤ atI Sv i) := fun i hi => by
                                obtain ⟨p, ep, hp⟩ := HPL.out i hi
                                rw [HSA.out i hi, ep]
                                have := (HBD.out i hi).1
                                omega
                              have HJJ := Lib.hid hjj
                              clear han HXP hjn hid hjj HLO
                              go_wp2
                              go_loopw [23] (fun i w' => ∃ (a : Nat) (Xv : List Int), a ≤ nL ∧ i = .int .i64 (a : Int) ∧ Hid (Ow w' gX 3 (.slice (some ⟨gX, 0, none⟩) nL nL) Xv) ∧ Hid (RxI k zs LL Cl r nL jj Xv) ∧ Hid (MvD LL Wl Cl r a 0 Xv) ∧ Hid (Below gX wi w')) (fun i _ => nL - (intOf i).toNat)
                              case atStart => exact ⟨0, Xv, Nat.zero_le _, by go_num, HOX.out, HRX.out, fun a' p t' h => by omega, HBX.out⟩
                              case round =>
                                clear HXK HOX HRX HBX
                                obtain ⟨a, Xv, ha, rfl, HOX, HRX, HMD, HBX⟩ := hrel
                                obtain ⟨wj, rfl⟩ : ∃ wj : World, wj = wr := ⟨_, rfl⟩
                                have HBJ : Hid (∀ V, Below gX wi V → Below w1.heap.size w1 V) := fun V hV => HB1i.out.trans (hV.mono HZI1.out)
                                by_cases hal : a < nL
                                · have k6 : (a : Int) < (nL : Int) := by omega
                                  obtain ⟨A6, c6, hrow⟩ := HRW.out a hal
                                  obtain ⟨p, ep, hp⟩ := HPL.out a hal
                                  have HRO := Lib.hid hrow
                                  have hc6 := (hrow wj (HBJ.out _ HBX.out)).1
                                  have hcz := HCZ.out wj (HBJ.out _ HBX.out)
                                  have HIX : Hid (∀ j, Calls Try.prog 50 #[.slice A6 k c6, .int .i64 (r : Int)] (wj.drewN j) fun e w' => e = .returned (.int .i64 (p : Int)) ∧ wj.drewN j = w') := fun j => by
                                    have := index_any (ordAt LL a) (r : Int) A6 k c6 (wj.drewN j) (HRO.out _ (HBJ.out _ (below_drewN HBX.out))).2
                                    rwa [ep] at this
                                  have HEP := Lib.hid ep
                                  clear hrow ep
                                  go_wp2
                                  go_quiet ((go_at_call 50; (with_reducible exact quiet_same (HIX.out _))))
                                  clear hc6 hcz
                                  go_wp2
                                  go_loopw [25] (fun i w' => ∃ (t : Nat) (Xv : List Int), t ≤ p ∧ i = .int .i64 (t : Int) ∧ Hid (Ow w' gX 3 (.slice (some ⟨gX, 0, none⟩) nL nL) Xv) ∧ Hid (RxI k zs LL Cl r nL jj Xv) ∧ Hid (MvD LL Wl Cl r a t Xv) ∧ Hid (Below gX wi w')) (fun i _ => p - (intOf i).toNat)
                                  case atStart => exact ⟨0, Xv, Nat.zero_le _, by go_num, HOX.out.drewN _, HRX.out, HMD.out, below_drewN HBX.out⟩
                                  case round =>
                                    clear HOX HRX HMD HBX
                                    obtain ⟨t, Xv, ht, rfl, HOX, HRX, HMD, HBX⟩ := hrel
                                    obtain ⟨wy, rfl⟩ : ∃ wy : World, wy = wr := ⟨_, rfl⟩
                                    by_cases htl : t < p
                                    · have k7 : (t : Int) < (p : Int) := by omega
                                      obtain ⟨hc6, hs6⟩ := HRO.out wy (HBJ.out _ HBX.out)
                                      have hpj := HLP.out _ (ordAt_mem (k := a) (by rw [HNL.out]; exact hal))
                                      have hpm : List.Perm (movedL (ordAt LL a) p t) (startL k) := (moved_perm (by rw [hpj.length_eq, startL_len]; exact hp)).trans hpj
                                      have HPM := Lib.hid hpm
                                      have HMV := Lib.hid (movedR_any A6 k c6 p t (ordAt LL a) wy hs6 hp (by omega) (by omega))
                                      obtain ⟨cN, ec, hcn⟩ := cod_nat hm hpm
                                      rw [← HNN.out] at hcn
                                      obtain ⟨w5', w6', w7'⟩ := HWK.out _ hpm
                                      rw [ec, Int.toNat_natCast] at w5'
                                      have HCO : Hid (∀ V A9 c9, Sl V A9 k c9 (movedL (ordAt LL a) p t) → Calls Try.prog 67 #[.slice A9 k c9] V fun e w' => e = .returned (.int .i64 (cN : Int)) ∧ Dr V w') := fun V A9 c9 h9 => by
                                        have := code_any _ A9 k c9 V h9 hm (small_of hm HPM.out)
                                        rwa [ec] at this
                                      have HML : Hid ((movedL (ordAt LL a) p t).length = k) := by rw [Hid, HPM.out.length_eq, startL_len]
                                      have hkq : wOf Wl (movedL (ordAt LL a) p t) < nL := by rw [← HNL.out]; exact w6'
                                      have HLW : Hid (∀ v : Int, 0 ≤ v → v ≤ atI Xv (wOf Wl (movedL (ordAt LL a) p t)) → v ≤ atI Sv a → idN k zs ≤ v + gN k zs jj (padO (movedL (ordAt LL a) p t)) → RxI k zs LL Cl r nL jj (Xv.set (wOf Wl (movedL (ordAt LL a) p t)) v) ∧ MvD LL Wl Cl r a (t + 1) (Xv.set (wOf Wl (movedL (ordAt LL a) p t)) v)) := fun v h0 h1' h2' h3' => by
                                        refine ⟨HRX.out.set HNL.out hkq h0 h1' (by rw [w7']; exact h3'), fun a' p' t' h4 h5 h6 => ?_⟩
                                        by_cases e : a' = a ∧ t' = t
                                        · obtain ⟨e1, e2⟩ := e
                                          subst e1 e2
                                          have e3 : p' = p := by rw [HEP.out] at h5; omega
                                          rw [e3, atI_set (by rw [HRX.out.len]; exact hkq), if_pos rfl]
                                          have := HSA.out a' hal
                                          rw [HEP.out] at this
                                          omega
                                        · exact Int.le_trans (set_le (by rw [HRX.out.len]; exact hkq) h1' _) (HMD.out a' p' t' (by omega) h5 h6)
                                      have hl1 := HRX.out.low _ w6'
                                      rw [w7'] at hl1
                                      have hl2 := HLS.out a p t hal HEP.out hp (by omega)
                                      have hp1 := HRX.out.pos _ hkq
                                      have hp2 := HSB.out a hal
                                      have HXL : Hid (Xv.length = nL) := HRX.out.len
                                      have HW5 := Lib.hid w5'
                                      clear hs6 hpj hpm ec w6' w7' w5'
                                      generalize wOf Wl (movedL (ordAt LL a) p t) = kk at *
                                      go_upto_region 50 with (first
                                        | (go_at_call 65; refine HMV.out.mono ?_; rintro e w3 ⟨⟨v, rfl, ho⟩, hb3⟩; obtain ⟨A9, c9, rfl, hs9⟩ := ho.sl_len HML.out (by omega); have HS9 := Lib.hid hs9; have HO3 := Lib.hid (HOX.out.below hb3 (Nat.le_refl _)); have HZW : Hid (gX ≤ wy.heap.size) := (by rw [Hid, ← HGX.out]; exact HBX.out.size); have HB3 := Lib.hid (HBX.out.trans (hb3.mono HZW.out)); clear ho hs9 hb3)
                                        | (go_at_call 67; refine (HCO.out _ _ _ HS9.out).mono ?_; rintro e w4 ⟨rfl, hd⟩; have HO4 := Lib.hid (HO3.out.below (hd.below w3.heap.size) (Nat.le_refl _)); have HB4 := Lib.hid (HB3.out.trans (hd.below _)); have j3 : (cN : Int) < (N : Int) := (by omega); have cw : w4.cell? ⟨gW, cN, none⟩ = some (.int .i64 (kk : Int)) := (rd_cell (HWS2.out _ (HBCi.out.trans (HB4.out.mono HZIC.out))) hcn).trans (by rw [HW5.out]); clear hd))
                                      clear cw hc6 j3
                                      have cs : w4.cell? ⟨gS, a, none⟩ = some (.int .i64 (atI Sv a)) := rd_cell (HSS.out _ HB4.out) hal
                                      have cx : w4.cell? ⟨gX, kk, none⟩ = some (.int .i64 (atI Xv kk)) := HO4.out.cellAt HXL.out hkq
                                      have fx : w4.frozen? ⟨gX, kk, none⟩ = false := HO4.out.free HXL.out kk
                                      have k8 : (kk : Int) < (nL : Int) := by omega
                                      have hvb : 0 ≤ min (atI Xv kk) (atI Sv a) ∧ min (atI Xv kk) (atI Sv a) ≤ atI Xv kk ∧ min (atI Xv kk) (atI Sv a) ≤ atI Sv a ∧ idN k zs ≤ min (atI Xv kk) (atI Sv a) + gN k zs jj (padO (movedL (ordAt LL a) p t)) := by refine ⟨?_, ?_, ?_, ?_⟩ <;> omega
                                      obtain ⟨r1, r2⟩ := HLW.out _ hvb.1 hvb.2.1 hvb.2.2.1 hvb.2.2.2
                                      have HR1 := Lib.hid r1
                                      have HR2 := Lib.hid r2
                                      have HO5 : Hid (Ow (w4.setCell ⟨gX, kk, none⟩ (.int .i64 (min (atI Xv kk) (atI Sv a)))).drew gX 3 (.slice (some ⟨gX, 0, none⟩) nL nL) (Xv.set kk (min (atI Xv kk) (atI Sv a)))) := (HO4.out.put HXL.out kk _).drewN 1
                                      have HB5 : Hid (Below gX wi (w4.setCell ⟨gX, kk, none⟩ (.int .i64 (min (atI Xv kk) (atI Sv a)))).drew) := (HB4.out.setCell (p := ⟨gX, kk, none⟩) (Nat.le_refl _) _).drew
                                      clear HMV HCO HML HS9 HO3 HB3 HLW hl1 hl2 hp1 hp2 hvb r1 r2
                                      generalize atI Sv a = z1 at *
                                      generalize atI Xv kk = z2 at *
                                      go_region
                                      all_goals
                                        go_wp2
                                        exact ⟨⟨t + 1, _, by omega, by go_num, HO5.out, HR1.out, HR2.out, HB5.out⟩, by simp [intOf]; omega⟩
                                    · have htp : t = p := by omega
                                      have k7 : ¬ (t : Int) < (p : Int) := by omega
                                      have HMD2 : Hid (MvD LL Wl Cl r (a + 1) 0 Xv) := fun a' p' t' h4 h5 h6 => by
                                        refine HMD.out a' p' t' ?_ h5 h6
                                        by_cases e : a' = a
                                        · rw [e] at h5
                                          rw [HEP.out] at h5
                                          exact .inr ⟨e, by omega⟩
                                        · exact .inl (by omega)
                                      clear htp
                                      go_wp2
                                      exact ⟨⟨a + 1, _, by omega, by go_num, HOX.out, HRX.out, HMD2.out, HBX.out⟩, by simp [intOf]; omega⟩
                                · have k6 : ¬ (a : Int) < (nL : Int) := by omega
                                  have han : a = nL := by omega
                                  rw [han] at HMD
                                  clear han
                                  have HMA : Hid (MvD LL Wl Cl r nL 0 Xv) := HMD.out
                                  have HXL0 : Hid (Xv.length = nL) := HRX.out.len
                                  clear HMD
                                  go_wp2
                                  go_loopg [28] (sumN Xv + 2) (fun kx s28 w' => ∃ (Xc : List Int) (ch : Bool), s28 = .bool ch ∧ Hid (Ow w' gX 3 (.slice (some ⟨gX, 0, none⟩) nL nL) Xc) ∧ Hid (RxI k zs LL Cl r nL jj Xc) ∧ Hid (MvD LL Wl Cl r nL 0 Xc) ∧ Hid (Below gX wi w') ∧ (ch = true → sumN Xc + 1 ≤ kx) ∧ (ch = false → Hid (∀ i k', i < nL → k' + 1 < k → atI Xc (wOf Wl (movedL (ordAt LL i) (k' + 1) k')) ≤ atI Xc i + 1)))
                                  case atStart => exact ⟨Xv, true, rfl, HOX.out, HRX.out, HMA.out, HBX.out, fun _ => by omega, fun h => by cases h⟩
                                  case round =>
                                    clear HOX HRX HMA HBX
                                    obtain ⟨Xc, ch, rfl, HOX, HRX, HMA, HBX, hT, hF⟩ := hrel
                                    obtain ⟨wy, rfl⟩ : ∃ wy : World, wy = wr := ⟨_, rfl⟩
                                    cases ch with
                                    | false =>
                                      have HCL := hF rfl
                                      clear hT hF
                                      have hUP := upp_step h1 hm HZL.out HLP.out HWH.out (X := Xc) (by rw [HN.out]; exact hql) HER.out.1 HER.out.2 HUP.out (fun i p hi ep => HRX.out.up i p (by rw [← HNL.out]; exact hi) ep) (fun i p t hi ep htp => HMA.out i p t (.inl (by rw [← HNL.out]; exact hi)) ep htp) (fun i k' hi hk' => HCL.out i k' (by rw [← HNL.out]; exact hi) hk')
                                      have HUP2 := Lib.hid hUP
                                      have HLO2 : Hid (Low k zs LL Xc (n - (q + 1))) := by
                                        have := HRX.out.low
                                        rwa [show jj = n - (q + 1) by have := HJJ.out; omega] at this
                                      have HBD2 : Hid (∀ i, i < nL → 0 ≤ atI Xc i ∧ atI Xc i ≤ 36 + 50 * ((q + 1 : Nat) : Int)) := fun i hi => by
                                        obtain ⟨p, ep, hp⟩ := HPL.out i hi
                                        have a1 := HRX.out.up i p hi ep
                                        have a2 := HRX.out.pos i hi
                                        have a3 := HBD.out i hi
                                        omega
                                      have HOX2 : Hid (Ow wy gC 3 (.slice (some ⟨gX, 0, none⟩) nL nL) Xc) := HOX.out.base HZIC.out
                                      have HBC2 : Hid (Below gC wq wy) := HBCi.out.trans (HBX.out.mono HZIC.out)
                                      have HXL : Hid (Xc.length = nL) := HRX.out.len
                                      clear hUP
                                      go_wp2
                                      exact ⟨⟨q + 1, gX, Xc, by omega, by go_num, rfl, HXL.out, HOX2.out, HLO2.out, HUP2.out, HBD2.out, HBC2.out⟩, by simp [intOf]; omega⟩
                                    | true =>
                                      have hkx := hT rfl
                                      have HKX := Lib.hid hkx
                                      clear hT hF hkx
                                      go_wp2
                                      go_loopw [28, 29] (fun s28 i w' => ∃ (a : Nat) (X : List Int) (ch : Bool), a ≤ nL ∧ i = .int .i64 (a : Int) ∧ s28 = .bool ch ∧ Hid (Ow w' gX 3 (.slice (some ⟨gX, 0, none⟩) nL nL) X) ∧ Hid (RxI k zs LL Cl r nL jj X) ∧ Hid (MvD LL Wl Cl r nL 0 X) ∧ Hid (Below gX wi w') ∧ Hid ((ch = true ∧ sumN X < sumN Xc) ∨ (ch = false ∧ X = Xc ∧ ∀ i k', i < a → k' + 1 < k → atI Xc (wOf Wl (movedL (ordAt LL i) (k' + 1) k')) ≤ atI Xc i + 1))) (fun _ i _ => nL - (intOf i).toNat)
                                      case atStart => exact ⟨0, Xc, false, Nat.zero_le _, by go_num, rfl, HOX.out, HRX.out, HMA.out, HBX.out, .inr ⟨rfl, rfl, fun i k' h => absurd h (Nat.not_lt_zero _)⟩⟩
                                      case round =>
                                        clear HOX HRX HMA HBX
                                        obtain ⟨a, X, ch, ha, rfl, rfl, HOX, HRX, HMA, HBX, HFL⟩ := hrel
                                        obtain ⟨wz, rfl⟩ : ∃ wz : World, wz = wr := ⟨_, rfl⟩
                                        by_cases hal : a < nL
                                        · have k7 : (a : Int) < (nL : Int) := by omega
                                          go_wp2
                                          go_loopw [28, 30] (fun s28 i w' => ∃ (b : Nat) (X : List Int) (ch : Bool), b + 1 ≤ k ∧ i = .int .i64 (b : Int) ∧ s28 = .bool ch ∧ Hid (Ow w' gX 3 (.slice (some ⟨gX, 0, none⟩) nL nL) X) ∧ Hid (RxI k zs LL Cl r nL jj X) ∧ Hid (MvD LL Wl Cl r nL 0 X) ∧ Hid (Below gX wi w') ∧ Hid ((ch = true ∧ sumN X < sumN Xc) ∨ (ch = false ∧ X = Xc ∧ ∀ i k', (i < a ∨ (i = a ∧ k' < b)) → k' + 1 < k → atI Xc (wOf Wl (movedL (ordAt LL i) (k' + 1) k')) ≤ atI Xc i + 1))) (fun _ i _ => k - (intOf i).toNat)
                                          case atStart => exact ⟨0, X, ch, h1, by go_num, rfl, HOX.out, HRX.out, HMA.out, HBX.out, HFL.out.imp id fun ⟨e1, e2, h⟩ => ⟨e1, e2, fun i k' h2 h3 => h i k' (by omega) h3⟩⟩
                                          case round =>
                                            clear HOX HRX HMA HBX HFL
                                            obtain ⟨b, X, ch, hb, rfl, rfl, HOX, HRX, HMA, HBX, HFL⟩ := hrel
                                            obtain ⟨wz, rfl⟩ : ∃ wz : World, wz = wr := ⟨_, rfl⟩
                                            have v5 : IntKind.i64.wrap ((b : Int) + 1) = (b : Int) + 1 := IntWalk.i64_in _ (by omega)
                                            by_cases hbk : b + 1 < k
                                            · have j2 : (b : Int) + 1 < (k : Int) := by omega
                                              have hpj := HLP.out _ (ordAt_mem (k := a) (by rw [HNL.out]; exact hal))
                                              have hpm : List.Perm (movedL (ordAt LL a) (b + 1) b) (startL k) := (moved_perm (by rw [hpj.length_eq, startL_len]; exact hbk)).trans hpj
                                              obtain ⟨_, w6', w7'⟩ := HWK.out _ hpm
                                              have hkq : wOf Wl (movedL (ordAt LL a) (b + 1) b) < nL := by rw [← HNL.out]; exact w6'
                                              have hnr := HNR.out a b (by rw [HNL.out]; exact hal) hbk
                                              have hlx := low_xch h1 hm HZL.out HLP.out HRX.out.low (by have := HJJ.out; rw [HN.out]; omega) (by rw [HNL.out]; exact hal) hbk
                                              have hmk : a * k ≤ 720 * 6 := Nat.mul_le_mul (by omega) hm
                                              have hfl : a * k + b < NM := by rw [HNM.out]; exact flat_lt (by omega) hal
                                              have v6 : IntKind.i64.wrap ((a : Int) * (k : Int)) = ((a * k : Nat) : Int) := by rw [← Int.natCast_mul]; exact IntWalk.i64_in _ (by omega)
                                              have v7 : IntKind.i64.wrap (((a * k : Nat) : Int) + (b : Int)) = ((a * k + b : Nat) : Int) := by rw [IntWalk.i64_in _ (by omega)]; omega
                                              have cn := rd_cell (HNS.out wz ((HBCi.out.trans (HBX.out.mono HZIC.out)))) hfl
                                              rw [hnr] at cn
                                              generalize a * k = ak at *
                                              generalize ak + b = ab at *
                                              have j4 : (ab : Int) < (NM : Int) := by omega
                                              have HXL : Hid (X.length = nL) := HRX.out.len
                                              have hpos := HRX.out.pos a hal
                                              obtain ⟨pa, epa, hpa⟩ := HPL.out a hal
                                              have hup := HRX.out.up a pa hal epa
                                              have hbdd := HBD.out a hal
                                              have HLW : Hid (atI X a + 1 < atI X (wOf Wl (movedL (ordAt LL a) (b + 1) b)) → RxI k zs LL Cl r nL jj (X.set (wOf Wl (movedL (ordAt LL a) (b + 1) b)) (atI X a + 1)) ∧ MvD LL Wl Cl r nL 0 (X.set (wOf Wl (movedL (ordAt LL a) (b + 1) b)) (atI X a + 1)) ∧ sumN (X.set (wOf Wl (movedL (ordAt LL a) (b + 1) b)) (atI X a + 1)) < sumN X) := fun h => by
                                                have hkl : wOf Wl (movedL (ordAt LL a) (b + 1) b) < X.length := by rw [HXL.out]; exact hkq
                                                exact ⟨HRX.out.set HNL.out hkq (by omega) (by omega) (by rw [w7']; exact hlx), HMA.out.mono (set_le hkl (by omega)), sumN_set hkl (by omega) h⟩
                                              have HCL2 : Hid (¬ atI X a + 1 < atI X (wOf Wl (movedL (ordAt LL a) (b + 1) b)) → (ch = true ∧ sumN X < sumN Xc) ∨ (ch = false ∧ X = Xc ∧ ∀ i k', (i < a ∨ (i = a ∧ k' < b + 1)) → k' + 1 < k → atI Xc (wOf Wl (movedL (ordAt LL i) (k' + 1) k')) ≤ atI Xc i + 1)) := fun h => HFL.out.imp id fun ⟨e1, e2, h3⟩ => ⟨e1, e2, fun i k' h4 h5 => by
                                                by_cases e : i = a ∧ k' = b
                                                · rw [e.1, e.2, ← e2]; omega
                                                · exact h3 i k' (by omega) h5⟩
                                              have HSC : Hid (sumN X ≤ sumN Xc) := by
                                                rcases HFL.out with ⟨_, h⟩ | ⟨_, h, _⟩
                                                · exact Nat.le_of_lt h
                                                · rw [h]; exact Nat.le_refl _
                                              clear hnr hlx hpj hpm w6' w7' hmk hfl epa
                                              generalize wOf Wl (movedL (ordAt LL a) (b + 1) b) = kk at *
                                              have cx : wz.cell? ⟨gX, kk, none⟩ = some (.int .i64 (atI X kk)) := HOX.out.cellAt HXL.out hkq
                                              have ca : wz.cell? ⟨gX, a, none⟩ = some (.int .i64 (atI X a)) := HOX.out.cellAt HXL.out hal
                                              have fx : wz.frozen? ⟨gX, kk, none⟩ = false := HOX.out.free HXL.out kk
                                              have k8 : (kk : Int) < (nL : Int) := by omega
                                              have v8 : IntKind.i64.wrap (atI X a + 1) = atI X a + 1 := IntWalk.i64_in _ (by omega)
                                              have HO5 : Hid (∀ m, Ow ((wz.drewN m).setCell ⟨gX, kk, none⟩ (.int .i64 (atI X a + 1))) gX 3 (.slice (some ⟨gX, 0, none⟩) nL nL) (X.set kk (atI X a + 1))) := fun m => (HOX.out.drewN m).put HXL.out kk _
                                              have HB5 : Hid (∀ m, Below gX wi ((wz.drewN m).setCell ⟨gX, kk, none⟩ (.int .i64 (atI X a + 1)))) := fun m => (below_drewN HBX.out).setCell (p := ⟨gX, kk, none⟩) (Nat.le_refl _) _
                                              clear hup hbdd hpos hpa
                                              by_cases hlt2 : atI X a + 1 < atI X kk
                                              · obtain ⟨r1, r2, r3⟩ := HLW.out hlt2
                                                have HR1 := Lib.hid r1
                                                have HR2 := Lib.hid r2
                                                have HR3 : Hid (sumN (X.set kk (atI X a + 1)) < sumN Xc) := Nat.lt_of_lt_of_le r3 HSC.out
                                                have g9 : decide (atI X a + 1 < atI X kk) = true := decide_eq_true hlt2
                                                clear r1 r2 r3 HLW HCL2 HSC hlt2 HFL
                                                generalize atI X a = z1 at *
                                                generalize atI X kk = z2 at *
                                                go_wp2
                                                go_quiet (fail)
                                                go_wp2
                                                exact ⟨⟨b + 1, _, true, by omega, by go_num, rfl, HO5.out _, HR1.out, HR2.out, HB5.out _, .inl ⟨rfl, HR3.out⟩⟩, by simp [intOf]; omega⟩
                                              · have HCL3 := Lib.hid (HCL2.out hlt2)
                                                have g9 : decide (atI X a + 1 < atI X kk) = false := decide_eq_false hlt2
                                                clear HLW HCL2 HSC hlt2 HO5 HB5 HFL
                                                generalize atI X a = z1 at *
                                                generalize atI X kk = z2 at *
                                                go_wp2
                                                go_quiet (fail)
                                                go_wp2
                                                exact ⟨⟨b + 1, X, ch, by omega, by go_num, rfl, HOX.out.drewN _, HRX.out, HMA.out, below_drewN HBX.out, HCL3.out⟩, by simp [intOf]; omega⟩
                                            · have j2 : ¬ (b : Int) + 1 < (k : Int) := by omega
                                              have HFL2 : Hid ((ch = true ∧ sumN X < sumN Xc) ∨ (ch = false ∧ X = Xc ∧ ∀ i k', i < a + 1 → k' + 1 < k → atI Xc (wOf Wl (movedL (ordAt LL i) (k' + 1) k')) ≤ atI Xc i + 1)) := HFL.out.imp id fun ⟨e1, e2, h3⟩ => ⟨e1, e2, fun i k' h4 h5 => h3 i k' (by omega) h5⟩
                                              clear HFL
                                              go_wp2
                                              exact ⟨⟨a + 1, X, ch, by omega, by go_num, rfl, HOX.out, HRX.out, HMA.out, HBX.out, HFL2.out⟩, by simp [intOf]; omega⟩
                                        · have k7 : ¬ (a : Int) < (nL : Int) := by omega
                                          have han : a = nL := by omega
                                          rw [han] at HFL
                                          clear han
                                          rcases HFL.out with ⟨rfl, hs⟩ | ⟨rfl, rfl, hcl⟩
                                          · have hkx := HKX.out
                                            clear HFL
                                            go_wp2
                                            go_roundg (sumN X + 1)
                                            case rel => exact ⟨X, true, rfl, HOX.out, HRX.out, HMA.out, HBX.out, fun _ => Nat.le_refl _, fun h => by cases h⟩
                                            case measure => omega
                                          · have hkx := HKX.out
                                            have HCL := Lib.hid hcl
                                            clear HFL hcl
                                            go_wp2
                                            go_roundg 0
                                            case rel => exact ⟨X, false, rfl, HOX.out, HRX.out, HMA.out, HBX.out, fun h => (by cases h), fun _ => HCL.out⟩
                                            case measure => omega
                    · have k3 : ¬ (q : Int) < (n : Int) := by omega
                      have hqn : q = n := by omega
                      rw [hqn, Nat.sub_self] at HLO
                      rw [hqn] at HUP
                      have HL0 : Hid (∀ i, i < nL → idN k zs ≤ atI Cl i) := fun i hi => by
                        have := HLO.out i (by rw [HNL.out]; exact hi)
                        rw [gN_zero] at this
                        omega
                      have HU0 : Hid (∃ i, i < nL ∧ atI Cl i ≤ idN k zs) := by
                        have hok := (hisB_parts (ideal_his h1 hm rfl HZL.out)).2
                        obtain ⟨hne, hf⟩ := preO_full hm hok HZL.out zs.length (Nat.le_refl _)
                        obtain ⟨b, hb⟩ := List.exists_mem_of_ne_nil _ hne
                        have hpb := okO_perm (take_ok (hf b hb).1 (hf b hb).2 hm)
                        rw [HN.out] at hb
                        have h9 := HUP.out (b.take k) hpb b (by rw [HN.out]; exact hb)
                        rw [HN.out] at hne hf
                        rw [pad_take (hf b hb).1.len (hf b hb).2 hm, turn_self (hf b hb).1.nodup, HN.out, ideal_is h1 hm HN.out HZ.out] at h9
                        exact ⟨_, by rw [← HNL.out]; exact (HWK.out _ hpb).2.1, by omega⟩
                      have HI0 : Hid (n = 0 → idN k zs = 0) := fun e => by
                        rw [← gN_all hm, HN.out, e, gN_zero]
                      have HCS := Lib.hid (fun V (hV : Below wx.heap.size wx V) => (own_rd HOC.out HCK.out (by omega)).below hV (Nat.le_refl _))
                      have c0' := rd_cell (HCS.out wx (Below.refl _ _)) (k := 0) (by omega)
                      have k4 : (0 : Int) < (nL : Int) := by omega
                      have HZX1 : Hid (w1.heap.size ≤ wx.heap.size) := HB1x.out.size
                      have HV0 := Lib.hid (HL0.out 0 (by omega))
                      clear hqn HLO HUP HBD HOC HBC
                      go_wp2
                      go_loopw [32, 33] (fun b i w' => ∃ (a : Nat) (v : Int), a ≤ nL ∧ i = .int .i64 (a : Int) ∧ b = .int .i64 v ∧ Hid (idN k zs ≤ v) ∧ Hid (∀ a', a' < a → v ≤ atI Cl a') ∧ Hid (Below wx.heap.size wx w')) (fun _ i _ => nL - (intOf i).toNat)
                      case atStart => exact ⟨0, _, Nat.zero_le _, by go_num, rfl, HV0.out, fun a' h => absurd h (Nat.not_lt_zero _), Below.refl _ _⟩
                      case round =>
                        clear c0' HV0
                        obtain ⟨a, v, ha, rfl, rfl, HVL, HVA, HBV⟩ := hrel
                        obtain ⟨wy, rfl⟩ : ∃ wy : World, wy = wr := ⟨_, rfl⟩
                        by_cases hal : a < nL
                        · have k5 : (a : Int) < (nL : Int) := by omega
                          have hcc := rd_cell (HCS.out wy HBV.out) hal
                          have hz0 := HL0.out a hal
                          have HM1 : Hid (idN k zs ≤ min v (atI Cl a)) := by have := HVL.out; rw [Hid]; omega
                          have HM2 : Hid (∀ a', a' < a + 1 → min v (atI Cl a) ≤ atI Cl a') := fun a' h => by
                            by_cases e : a' = a
                            · rw [e]; omega
                            · have := HVA.out a' (by omega); omega
                          clear hz0
                          generalize atI Cl a = z at *
                          go_wp2
                          exact ⟨⟨a + 1, _, by omega, by go_num, rfl, HM1.out, HM2.out, HBV.out⟩, by simp [intOf]; omega⟩
                        · have k5 : ¬ (a : Int) < (nL : Int) := by omega
                          have hv : v = idN k zs := by
                            obtain ⟨i, hi, h9⟩ := HU0.out
                            have := HVA.out i (by omega)
                            have := HVL.out
                            omega
                          have HBF : Hid (Below w.heap.size w wy) := HB1.out.trans ((HB1x.out.trans (HBV.out.mono HZX1.out)).mono HB1.out.size)
                          by_cases hn0 : n = 0
                          · have i9 : ((n : Int) == 0) = true := by simp; omega
                            have HI00 := Lib.hid (HI0.out hn0)
                            clear hn0 hv
                            go_wp2
                            go_ret
                            rw [HI00.out]
                            exact ⟨rfl, HBF.out⟩
                          · have i9 : ((n : Int) == 0) = false := by simp; omega
                            rw [hv]
                            clear hn0 hv
                            go_wp2
                            go_ret
                            exact ⟨rfl, HBF.out⟩
end Go.Proofs.Ytcnjkdkkflpgnaa
