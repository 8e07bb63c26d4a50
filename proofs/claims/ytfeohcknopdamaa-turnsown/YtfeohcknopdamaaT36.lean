import Derived.Test.YtfeohcknopdamaaT35
/- Layer 10: the reference's Factorial, Order, OrderAt, Turn. -/
namespace Go.Proofs.Ytfeohcknopdamaa
open Go.RowKit
set_option linter.unusedVariables false

theorem factorialR_any (n : Nat) (w : World) (hn : n ≤ 18) :
    Calls Try.prog 33 #[.int .i64 (n : Int)] w fun e w' => e = .returned (.int .i64 ((fac n : Nat) : Int)) ∧ w = w' := by
  go_enter Try.func33, Try.ntmps33
  go_wp2
  go_loopw [3, 4] (fun p i w' => ∃ j : Nat, (j = 0 ∨ j + 1 ≤ n) ∧ i = .int .i64 ((j : Int) + 2) ∧ p = .int .i64 ((fac (j + 1) : Nat) : Int) ∧ w = w') (fun _ i _ => n + 2 - (intOf i).toNat)
  case atStart => exact ⟨0, .inl rfl, by go_num, rfl, rfl⟩
  case round =>
    obtain ⟨j, hj, rfl, rfl, rfl⟩ := hrel
    by_cases hlt : j + 2 ≤ n
    · have i1 : (j : Int) + 2 ≤ (n : Int) := by omega
      have hf2 := fac_le (n := j + 2) (by omega)
      have hst : fac (j + 2) = fac (j + 1) * (j + 2) := by rw [fac, Nat.mul_comm]
      rw [hst] at hf2
      have HST := Lib.hid hst
      clear hst
      generalize fac (j + 1) = p at *
      have V1 : Hid (IntKind.i64.wrap ((p : Int) * ((j : Int) + 2)) = ((p * (j + 2) : Nat) : Int)) := by rw [Hid, show (j : Int) + 2 = ((j + 2 : Nat) : Int) from rfl, ← Int.natCast_mul]; exact IntWalk.i64_in _ (by omega)
      have hj18 : j ≤ 18 := by omega
      clear hf2
      generalize p * (j + 2) = q at *
      have v1 := V1.out
      go_wp2
      clear v1
      exact ⟨⟨j + 1, .inr (by omega), by rw [show ((j + 1 : Nat) : Int) + 2 = (j : Int) + 2 + 1 by omega], by rw [HST.out], trivial⟩, by simp [intOf]; omega⟩
    · have HX : Hid (fac (j + 1) = fac n) := by
        rcases hj with rfl | hj
        · have h01 : n = 0 ∨ n = 1 := by omega
          rcases h01 with rfl | rfl <;> rfl
        · rw [Hid, show j + 1 = n by omega]
      have i1 : ¬ (j : Int) + 2 ≤ (n : Int) := by omega
      rw [HX.out]
      clear hj
      go_wp2
      go_ret
      exact ⟨rfl, rfl⟩
set_option maxRecDepth 100000 in
set_option maxHeartbeats 6400000 in
theorem orderR_any : ∀ (n a : Nat) (w : World), n ≤ 18 → a < fac n →
    Calls Try.prog 34 #[.int .i64 (n : Int), .int .i64 (a : Int)] w fun e w' => (∃ v, e = .returned v ∧ Ow w' w.heap.size 3 v (oN n a)) ∧ Below w.heap.size w w'
  | 0, a, w, _, _ => by
    rw [oN]
    go_enter Try.func34, Try.ntmps34
    go_wp2
    go_ret
    exact ⟨⟨_, rfl, Ow.nil _ _ _⟩, Below.refl _ _⟩
  | n + 1, a, w, hn, ha => by
    obtain ⟨i0, hi0, hz0, hz1, hz2⟩ := info_parts Try.infoInt
    have HI0 : Hid (Try.prog.info? 3 = some i0 ∧ i0.zero = some (.int .i64 0) ∧ i0.size = 1 ∧ i0.bytes = 8) := ⟨hi0, hz0, hz1, hz2⟩
    have hab := fac_le (n := n + 1) hn
    have hq : a / (n + 1) < fac n := by rw [fac] at ha; exact Nat.div_lt_of_lt_mul ha
    have hrl : a % (n + 1) < n + 1 := Nat.mod_lt a (Nat.succ_pos n)
    have hpl := placeN_le n a
    have hpv : placeN n a = dirN (n + 1) (decide (a / (n + 1) % 2 = 0)) (a % (n + 1)) := rfl
    have HON : Hid (oN (n + 1) a = (oN n (a / (n + 1))).take (placeN n a) ++ [((n + 1 : Nat) : Int)] ++ (oN n (a / (n + 1))).drop (placeN n a)) := by
      rw [Hid, oN]; unfold insI; rw [List.append_assoc]; rfl
    have HR := Lib.hid (fun V => orderR_any n (a / (n + 1)) V (by omega) hq)
    have HLN : Hid ((oN n (a / (n + 1))).length = n) := oN_len _ _
    have D2 : Hid ((a : Int).tdiv ((n : Int) + 1) = ((a / (n + 1) : Nat) : Int)) := by
      rw [Hid, Int.tdiv_eq_ediv_of_nonneg (by omega), show (n : Int) + 1 = ((n + 1 : Nat) : Int) from rfl, ← Int.natCast_ediv]
    have D3 : Hid ((a : Int).tmod ((n : Int) + 1) = ((a % (n + 1) : Nat) : Int)) := by
      rw [Hid, Int.tmod_eq_emod_of_nonneg (by omega), show (n : Int) + 1 = ((n + 1 : Nat) : Int) from rfl, ← Int.natCast_emod]
    have E2 : Hid ((a : Int) / ((n : Int) + 1) = ((a / (n + 1) : Nat) : Int)) := by rw [Hid, show (n : Int) + 1 = ((n + 1 : Nat) : Int) from rfl, ← Int.natCast_ediv]
    have E3 : Hid ((a : Int) % ((n : Int) + 1) = ((a % (n + 1) : Nat) : Int)) := by rw [Hid, show (n : Int) + 1 = ((n + 1 : Nat) : Int) from rfl, ← Int.natCast_emod]
    have hya := Nat.div_le_self a (n + 1)
    have hab2 : a ≤ 6402373705728000 := by omega
    rw [HON.out]
    clear ha hi0 hz0 hz1 hz2 hq
    generalize oN n (a / (n + 1)) = zs at *
    generalize placeN n a = pl at *
    generalize a / (n + 1) = y at *
    generalize a % (n + 1) = r at *
    have W2 : Hid (wrap64 (y : Int) = (y : Int)) := IntWalk.wrap64_in _ ⟨by omega, by omega⟩
    have W3 : Hid (wrap64 (r : Int) = (r : Int)) := IntWalk.wrap64_in _ ⟨by omega, by omega⟩
    have HYB : Hid (y ≤ a) := hya
    have HBD : Hid (∀ k, Below w.heap.size w (w.drewN k)) := fun k => below_dn (Below.refl _ w) k
    have g2 := W2.out
    have g3 := W3.out
    have d2 := D2.out
    have d3 := D3.out
    have e2 := E2.out
    have e3 := E3.out
    have n1 : ¬ ((n : Int) + 1 = 0) := by omega
    have hyb : y ≤ 6402373705728000 := by omega
    clear HON hya
    by_cases hpar : y % 2 = 0
    · rw [decide_eq_true hpar] at hpv
      have hpv2 : pl = n - r := by rw [hpv]; show n + 1 - 1 - r = n - r; omega
      have HPV := Lib.hid hpv2
      have b1 : ((y : Int) % 2 == 0) = true := by rw [beq_iff_eq]; omega
      have b2 : ((y : Int).tmod 2 == 0) = true := by rw [Int.tmod_eq_emod_of_nonneg (by omega)]; exact b1
      have V1 : Hid (IntKind.i64.wrap ((n : Int) + 1 - 1 - (r : Int)) = (pl : Int)) := by rw [Hid, show (n : Int) + 1 - 1 - (r : Int) = (pl : Int) by omega]; exact IntWalk.i64_in _ (by omega)
      have V2 : Hid (IntKind.i64.wrap ((n : Int) - (r : Int)) = (pl : Int)) := by rw [Hid, show (n : Int) - (r : Int) = (pl : Int) by omega]; exact IntWalk.i64_in _ (by omega)
      clear hpv hpv2
      go_enter Try.func34, Try.ntmps34
      go_upto_region 3 with (fail)
      go_quiet (fail)
      clear d2 d3 e2 e3 g2 g3
      have v1 := V1.out
      have v2 := V2.out
      go_upto_region 8 with (go_at_call 34; (with_reducible refine (HR.out _).mono ?_); rintro e w1 ⟨⟨v0, rfl, ho1⟩, hb1⟩; obtain ⟨A1, c1, rfl, hs1⟩ := ho1.sl_len HLN.out (by omega); have HS1 := Lib.hid hs1; have HB1 := Lib.hid ((HBD.out _).trans (hb1.mono (HBD.out _).size)); clear ho1 hs1 hb1)
      clear v1 v2
      have hcap := HS1.out.cap
      have hsl := fun W => slice_hd A1 n c1 (k := pl) (by omega) hcap W
      have hst := fun W => slice_tl A1 n c1 (k := pl) (by omega) hcap W
      have HT : Hid (Sl w1 A1 pl c1 (zs.take pl)) := HS1.out.take (by omega)
      have HD : Hid (∀ W, Below w1.heap.size w1 W → Sl W (tlA A1 c1 pl) (n - pl) (c1 - pl) (zs.drop pl)) := fun W hW => (HS1.out.below hW (Nat.le_refl _)).drop (by omega)
      have HLT : Hid ((zs.take pl).length ≤ n) := by rw [Hid, List.length_take]; have := HLN.out; omega
      go_upto_region 9 with (at_builtin; go_must (refine apps_law _ rfl (.tmp 28) (.tmp 31) 22 rfl w1.heap.size 3 i0 Try.underlying22 HI0.out (.slice none 0 0) [] rfl (Ow.nil _ _ _) A1 pl c1 (zs.take pl) rfl HT.out (by simp; omega) (Nat.le_refl _) ?_); intro v2 w2 hown hg; rw [List.nil_append] at hown; have HO2 := Lib.hid hown; have HB2 := Lib.hid ((Below.refl w1.heap.size w1).grown hg (Nat.le_refl _) (by simp [Value.ownBlock])); clear hown hg)
      have HL2 : Hid ((zs.take pl).length ≤ 1099511627776) := by have := HLT.out; rw [Hid]; omega
      go_upto_region 10 with (at_builtin; go_must (refine push_law _ rfl (.tmp 33) (.tmp 35) 22 rfl w1.heap.size 3 i0 Try.underlying22 HI0.out _ (zs.take pl) ((n : Int) + 1) rfl rfl HO2.out HL2.out HB2.out.size ?_); intro v3 w3 hown hg _; have HO3 := Lib.hid hown; have HB3 := Lib.hid (HB2.out.grown hg HB2.out.size (fun k e => (HO2.out.lt e).1)); clear hown hg)
      go_wp2_with (at_builtin; go_must (refine apps_law _ rfl (.tmp 37) (.tmp 40) 22 rfl w1.heap.size 3 i0 Try.underlying22 HI0.out _ (zs.take pl ++ [(n : Int) + 1]) rfl HO3.out (tlA A1 c1 pl) (n - pl) (c1 - pl) (zs.drop pl) rfl (HD.out _ HB3.out) (by have := HLT.out; simp; omega) HB3.out.size ?_); intro v4 w4 hown hg; have HO4 := Lib.hid hown; have HB4 := Lib.hid (HB3.out.grown hg HB3.out.size (fun k e => (HO3.out.lt e).1)); clear hown hg)
      go_ret
      exact ⟨⟨v4, rfl, HO4.out.base HB1.out.size⟩, HB1.out.trans (HB4.out.mono HB1.out.size)⟩
    · rw [decide_eq_false hpar] at hpv
      have hpv2 : pl = r := hpv
      have b1 : ((y : Int) % 2 == 0) = false := by rw [beq_eq_false_iff_ne]; omega
      have b2 : ((y : Int).tmod 2 == 0) = false := by rw [Int.tmod_eq_emod_of_nonneg (by omega)]; exact b1
      rw [hpv2] at hpl ⊢
      clear hpv hpv2
      go_enter Try.func34, Try.ntmps34
      go_upto_region 3 with (fail)
      go_quiet (fail)
      clear d2 d3 e2 e3 g2 g3
      go_upto_region 8 with (go_at_call 34; (with_reducible refine (HR.out _).mono ?_); rintro e w1 ⟨⟨v0, rfl, ho1⟩, hb1⟩; obtain ⟨A1, c1, rfl, hs1⟩ := ho1.sl_len HLN.out (by omega); have HS1 := Lib.hid hs1; have HB1 := Lib.hid ((HBD.out _).trans (hb1.mono (HBD.out _).size)); clear ho1 hs1 hb1)
      have hcap := HS1.out.cap
      have hsl := fun W => slice_hd A1 n c1 (k := r) (by omega) hcap W
      have hst := fun W => slice_tl A1 n c1 (k := r) (by omega) hcap W
      have HT : Hid (Sl w1 A1 r c1 (zs.take r)) := HS1.out.take (by omega)
      have HD : Hid (∀ W, Below w1.heap.size w1 W → Sl W (tlA A1 c1 r) (n - r) (c1 - r) (zs.drop r)) := fun W hW => (HS1.out.below hW (Nat.le_refl _)).drop (by omega)
      have HLT : Hid ((zs.take r).length ≤ n) := by rw [Hid, List.length_take]; have := HLN.out; omega
      go_upto_region 9 with (at_builtin; go_must (refine apps_law _ rfl (.tmp 28) (.tmp 31) 22 rfl w1.heap.size 3 i0 Try.underlying22 HI0.out (.slice none 0 0) [] rfl (Ow.nil _ _ _) A1 r c1 (zs.take r) rfl HT.out (by simp; omega) (Nat.le_refl _) ?_); intro v2 w2 hown hg; rw [List.nil_append] at hown; have HO2 := Lib.hid hown; have HB2 := Lib.hid ((Below.refl w1.heap.size w1).grown hg (Nat.le_refl _) (by simp [Value.ownBlock])); clear hown hg)
      have HL2 : Hid ((zs.take r).length ≤ 1099511627776) := by have := HLT.out; rw [Hid]; omega
      go_upto_region 10 with (at_builtin; go_must (refine push_law _ rfl (.tmp 33) (.tmp 35) 22 rfl w1.heap.size 3 i0 Try.underlying22 HI0.out _ (zs.take r) ((n : Int) + 1) rfl rfl HO2.out HL2.out HB2.out.size ?_); intro v3 w3 hown hg _; have HO3 := Lib.hid hown; have HB3 := Lib.hid (HB2.out.grown hg HB2.out.size (fun k e => (HO2.out.lt e).1)); clear hown hg)
      go_wp2_with (at_builtin; go_must (refine apps_law _ rfl (.tmp 37) (.tmp 40) 22 rfl w1.heap.size 3 i0 Try.underlying22 HI0.out _ (zs.take r ++ [(n : Int) + 1]) rfl HO3.out (tlA A1 c1 r) (n - r) (c1 - r) (zs.drop r) rfl (HD.out _ HB3.out) (by have := HLT.out; simp; omega) HB3.out.size ?_); intro v4 w4 hown hg; have HO4 := Lib.hid hown; have HB4 := Lib.hid (HB3.out.grown hg HB3.out.size (fun k e => (HO3.out.lt e).1)); clear hown hg)
      go_ret
      exact ⟨⟨v4, rfl, HO4.out.base HB1.out.size⟩, HB1.out.trans (HB4.out.mono HB1.out.size)⟩
end Go.Proofs.Ytfeohcknopdamaa
/- Layer 10: the reference's OrderAt, Turn. -/
namespace Go.Proofs.Ytfeohcknopdamaa
open Go.RowKit
set_option linter.unusedVariables false

theorem OrP.top_at {n : Nat} {zs : List Int} (h : OrP (n + 1) zs) : atI zs (ixN zs ((n + 1 : Nat) : Int)) = ((n + 1 : Nat) : Int) ∧ ∀ j, j < ixN zs ((n + 1 : Nat) : Int) → atI zs j ≠ ((n + 1 : Nat) : Int) := by
  obtain ⟨h1, h2, h3, _⟩ := h.down
  generalize ixN zs ((n + 1 : Nat) : Int) = p at *
  have hl := h1.len
  refine ⟨?_, fun j hj => ?_⟩
  · rw [h3, insI_at (by omega) (by omega), if_neg (by omega), if_pos rfl]
  · rw [h3, insI_at (by omega) (by omega), if_pos hj, atI_get (by omega)]
    have := h1.rng _ (List.getElem_mem (show j < (Go.Proofs.Ytfeohcknopdamaa.upTo n zs).length by omega))
    omega
set_option maxRecDepth 100000 in
set_option maxHeartbeats 6400000 in
theorem orderAtR_any : ∀ (n : Nat) (zs : List Int) (A : Option Addr) (c : Nat) (w : World), n ≤ 18 → Sl w A n c zs → OrP n zs →
    Calls Try.prog 36 #[.slice A n c] w fun e w' => e = .returned (.int .i64 ((rkO n zs : Nat) : Int)) ∧ Below w.heap.size w w'
  | 0, zs, A, c, w, _, h, _ => by
    rw [rkO]
    clear h
    go_enter Try.func36, Try.ntmps36
    go_wp2
    go_ret
    exact ⟨rfl, Below.refl _ _⟩
  | n + 1, zs, A, c, w, hn, h, ho => by
    obtain ⟨i0, hi0, hz0, hz1, hz2⟩ := info_parts Try.infoInt
    have HI0 : Hid (Try.prog.info? 3 = some i0 ∧ i0.zero = some (.int .i64 0) ∧ i0.size = 1 ∧ i0.bytes = 8) := ⟨hi0, hz0, hz1, hz2⟩
    obtain ⟨hd1, hd2, hd3, hd4⟩ := ho.down
    obtain ⟨ht1, ht2⟩ := ho.top_at
    have hrk : rkO (n + 1) zs = (n + 1) * rkO n (upTo n zs) + dirN (n + 1) (decide (rkO n (upTo n zs) % 2 = 0)) (ixN zs ((n + 1 : Nat) : Int)) := rfl
    have hrl := (oN_rkO n _ hd1).2
    have hfl := fac_le (n := n) (by omega)
    have hfl2 := fac_le (n := n + 1) hn
    have hrl2 := (oN_rkO (n + 1) _ ho).2
    have HR := Lib.hid (fun V A' c' (hs : Sl V A' n c' (upTo n zs)) => orderAtR_any n (upTo n zs) A' c' V (by omega) hs hd1)
    have HUL : Hid ((upTo n zs).length = n) := hd1.len
    have hcap := h.cap
    have HS := Lib.hid (fun V (hV : Below w.heap.size w V) => h.below hV (Nat.le_refl _))
    have HLZ : Hid (zs.length = n + 1) := h.len
    clear h ho hd1 hd3 hi0 hz0 hz1 hz2
    generalize ixN zs ((n + 1 : Nat) : Int) = p at *
    have HAT := Lib.hid (And.intro ht1 ht2)
    have HD4 := Lib.hid hd4
    have HT : Hid (Sl w A p c (zs.take p)) := (HS.out w (Below.refl _ _)).take (by omega)
    have HD : Hid (∀ W, Below w.heap.size w W → Sl W (tlA A c (p + 1)) (n - p) (c - (p + 1)) (zs.drop (p + 1))) := fun W hW => by
      have := (HS.out W hW).drop (k := p + 1) (by omega)
      rwa [show n + 1 - (p + 1) = n - p by omega] at this
    have HSHD := Lib.hid (fun W => slice_hd A (n + 1) c (k := p) (by omega) hcap W)
    have HSTL : Hid (∀ W, (Instr.slice 22 (.slice A (n + 1) c) (some (.int .i64 ((p : Int) + 1))) none none).run Try.prog W = .ok (.slice (tlA A c (p + 1)) (n - p) (c - (p + 1))) W) := fun W => by
      have := slice_tl A (n + 1) c (k := p + 1) (by omega) hcap W
      rwa [show n + 1 - (p + 1) = n - p by omega] at this
    clear ht1 ht2 hd4
    generalize upTo n zs = us at *
    rw [hrk]
    obtain ⟨p2, hp2⟩ : ∃ p2, p2 = dirN (n + 1) (decide (rkO n us % 2 = 0)) p := ⟨_, rfl⟩
    have hp2l : p2 ≤ n := by rw [hp2]; unfold dirN; split <;> omega
    rw [← hp2] at hrk ⊢
    rw [hrk] at hrl2
    clear hrk
    generalize rkO n us = r at *
    have V1 : Hid (IntKind.i64.wrap (((n : Int) + 1) * (r : Int)) = (((n + 1) * r : Nat) : Int)) := by rw [Hid, show (n : Int) + 1 = ((n + 1 : Nat) : Int) from rfl, ← Int.natCast_mul]; exact IntWalk.i64_in _ (by omega)
    have V2 : Hid (IntKind.i64.wrap ((((n + 1) * r : Nat) : Int) + (p2 : Int)) = (((n + 1) * r + p2 : Nat) : Int)) := by rw [Hid, ← Int.natCast_add]; exact IntWalk.i64_in _ (by omega)
    clear hrl2 hfl2
    generalize (n + 1) * r = q at *
    have hr0 : r ≤ 6402373705728000 := by omega
    have HP2 := Lib.hid hp2
    clear hp2
    go_enter Try.func36, Try.ntmps36
    go_wp2
    go_loopw [4] (fun i w' => ∃ k : Nat, k ≤ p ∧ i = .int .i64 (k : Int) ∧ w = w') (fun i _ => p - (intOf i).toNat)
    case atStart => exact ⟨0, Nat.zero_le _, by go_num, rfl⟩
    case round =>
      obtain ⟨k, hk, rfl, rfl⟩ := hrel
      have i1 : (k : Int) < (n : Int) + 1 := by omega
      have hc1 := (HS.out w (Below.refl _ _)).at_ (k := k) (by omega)
      rw [show zs[k]?.getD 0 = atI zs k from rfl] at hc1
      by_cases hkp : k < p
      · have hne := HAT.out.2 k hkp
        have n1 : (atI zs k != (n : Int) + 1) = true := by rw [bne_iff_ne]; exact hne
        generalize atI zs k = z at *
        obtain ⟨b1, o1, rfl, e1⟩ := hc1
        clear hne
        go_wp2
        exact ⟨⟨k + 1, by omega, by go_num, trivial⟩, by simp [intOf]; omega⟩
      · obtain rfl : k = p := by omega
        rw [HAT.out.1] at hc1
        have n1 : ((n : Int) + 1 != (n : Int) + 1) = false := by simp
        have hc2 : ∃ b off, A = some ⟨b, off, none⟩ ∧ w.cell? ⟨b, off + k, none⟩ = some (.int .i64 ((n : Int) + 1)) := hc1
        clear hc1
        obtain ⟨b1, o1, hA, e1⟩ := hc2
        subst hA
        have hsl := HSHD.out
        go_upto_region 8 with (fail)
        clear e1
        go_upto_region 9 with (at_builtin; go_must (refine apps_law _ rfl (.tmp 19) (.tmp 22) 22 rfl w.heap.size 3 i0 Try.underlying22 HI0.out (.slice none 0 0) [] rfl (Ow.nil _ _ _) (some ⟨b1, o1, none⟩) k c (zs.take k) rfl HT.out (by simp; omega) (Nat.le_refl _) ?_); intro v2 w2 hown hg; rw [List.nil_append] at hown; have HO2 := Lib.hid hown; have HB2 := Lib.hid ((Below.refl w.heap.size w).grown hg (Nat.le_refl _) (by simp [Value.ownBlock])); clear hown hg)
        have hst := HSTL.out
        clear hsl
        go_upto_region 10 with (at_builtin; go_must (refine apps_law _ rfl (.tmp 24) (.tmp 28) 22 rfl w.heap.size 3 i0 Try.underlying22 HI0.out _ (zs.take k) rfl HO2.out (tlA (some ⟨b1, o1, none⟩) c (k + 1)) (n - k) (c - (k + 1)) (zs.drop (k + 1)) rfl (HD.out _ HB2.out) (by have := HLZ.out; simp; omega) HB2.out.size ?_); intro v3 w3 hown hg; rw [← HD4.out] at hown; have HO3 := Lib.hid hown; have HB3 := Lib.hid (HB2.out.grown hg HB2.out.size (fun j e => (HO2.out.lt e).1)); clear hown hg)
        obtain ⟨A3, c3, e3, hs3⟩ := HO3.out.sl_len HUL.out (by omega)
        subst e3
        have HR3 := Lib.hid (HR.out w3 A3 c3 hs3)
        clear hst hs3
        by_cases hpar : r % 2 = 0
        · have b1' : ((r : Int) % 2 == 0) = true := by rw [beq_iff_eq]; omega
          have hpe : p2 = n - k := by rw [HP2.out, decide_eq_true hpar]; show n + 1 - 1 - k = n - k; omega
          have W1 : Hid (IntKind.i64.wrap ((n : Int) - (k : Int)) = (p2 : Int)) := by rw [Hid, show (n : Int) - (k : Int) = (p2 : Int) by omega]; exact IntWalk.i64_in _ (by omega)
          clear hpe
          have v1 := V1.out
          have v2 := V2.out
          have x1 := W1.out
          go_wp2_with (go_at_call 36; (with_reducible refine HR3.out.mono ?_); rintro e w4 ⟨rfl, hb⟩; have HB4 := Lib.hid (HB3.out.trans (hb.mono HB3.out.size)); clear hb)
          go_ret
          exact ⟨rfl, HB4.out⟩
        · have b1' : ((r : Int) % 2 == 0) = false := by rw [beq_eq_false_iff_ne]; omega
          have hpe : k = p2 := by rw [HP2.out, decide_eq_false hpar]; rfl
          have v1 := V1.out
          have v2 := V2.out
          rw [← hpe] at v2
          have HPE := Lib.hid hpe
          clear hpe
          go_wp2_with (go_at_call 36; (with_reducible refine HR3.out.mono ?_); rintro e w4 ⟨rfl, hb⟩; have HB4 := Lib.hid (HB3.out.trans (hb.mono HB3.out.size)); clear hb)
          go_ret
          exact ⟨by rw [← HPE.out]; rfl, HB4.out⟩
set_option maxRecDepth 100000 in
set_option maxHeartbeats 3200000 in
theorem turnR_last (zs : List Int) (A : Option Addr) (n c : Nat) (w : World) (h : Sl w A n c zs) (ho : OrP n zs) (hn : n ≤ 18) (hr : rkO n zs + 1 = fac n) :
    Calls Try.prog 37 #[.slice A n c] w fun e w' => e = .returned (.agg (two (-1) (-1))) ∧ Below w.heap.size w w' := by
  have HP := Lib.hid (fun V (hV : Below w.heap.size w V) => orderAtR_any n zs A c V hn (h.below hV (Nat.le_refl _)) ho)
  have HF := Lib.hid (fun V => factorialR_any n V hn)
  have hf := fac_le hn
  have HINF : Hid ((Try.prog.info? 35).map (·.size) = some (two (-1) (-1)).size) := Try.infoTwo
  clear h ho
  generalize rkO n zs = r at *
  rw [← hr] at HF hf
  clear hr
  have HBX : Hid (Below w.heap.size w (w.alloc (.cells #[.int .i64 0, .int .i64 0] 35))) := below_one w _
  have H0 := Lib.hid (Bx2.new w 0 0)
  have V1 : IntKind.i64.wrap ((r : Int) + 1) = (r : Int) + 1 := IntWalk.i64_in _ (by omega)
  have d1 : decide ((r : Int) + 1 ≥ (r : Int) + 1) = true := decide_eq_true (by omega)
  go_enter Try.func37, Try.ntmps37
  go_wp2_with (first
    | (go_at_call 36; (with_reducible refine (HP.out _ HBX.out).mono ?_); rintro e w1 ⟨rfl, hb⟩; have HB1 := Lib.hid (HBX.out.trans (hb.mono HBX.out.size)); have H1 := Lib.hid (H0.out.below hb H0.out.lt); clear hb)
    | (go_at_call 33; (with_reducible refine (HF.out _).mono ?_); rintro e w2 ⟨rfl, rfl⟩)
    | (refine wpList_store_row (by rfl) 35 (.tmp 2) (.tmp 16) (by rfl) w.heap.size (two (-1) (-1)) (by rfl) (by rfl) 35 _ H1.out HINF.out (by rfl) (two_one _ _) ?_))
  refine bodyPost_ret (results_cell_row (by rfl) _ _ w.heap.size 35 (two (-1) (-1)) (0, 0) _ (by rfl) (setRow_heap _ _ _ _ _ _ H1.out) Try.underlying35 (by rfl) HINF.out) (by rfl) ⟨by rfl, ?_⟩
  exact below_setRow HB1.out (Nat.le_refl _) _
set_option maxRecDepth 100000 in
set_option maxHeartbeats 3200000 in
theorem turnR_next (zs : List Int) (t : Nat) (A : Option Addr) (n c : Nat) (w : World) (h : Sl w A n c zs) (ho : OrP n zs) (hn : n ≤ 18) (hr : rkO n zs + 1 < fac n) (ht : Swp zs (oN n (rkO n zs + 1)) t) :
    Calls Try.prog 37 #[.slice A n c] w fun e w' => e = .returned (.agg (two (t : Int) ((t : Int) + 1))) ∧ Below w.heap.size w w' := by
  have HP := Lib.hid (fun V (hV : Below w.heap.size w V) => orderAtR_any n zs A c V hn (h.below hV (Nat.le_refl _)) ho)
  have HF := Lib.hid (fun V => factorialR_any n V hn)
  have hf := fac_le hn
  have HS := Lib.hid (fun V (hV : Below w.heap.size w V) => h.below hV (Nat.le_refl _))
  obtain ⟨ht1, ht2, ht3⟩ := swp_first ho ht
  have HO : Hid (∀ V, Calls Try.prog 34 #[.int .i64 (n : Int), .int .i64 ((rkO n zs : Int) + 1)] V fun e w' => (∃ v, e = .returned v ∧ Ow w' V.heap.size 3 v (oN n (rkO n zs + 1))) ∧ Below V.heap.size V w') := fun V => orderR_any n (rkO n zs + 1) V hn hr
  have HON : Hid ((oN n (rkO n zs + 1)).length = n) := oN_len _ _
  have HINF : Hid ((Try.prog.info? 35).map (·.size) = some (two (t : Int) ((t : Int) + 1)).size) := Try.infoTwo
  have HT2 := Lib.hid ht2
  have HT3 := Lib.hid ht3
  clear h ho ht ht2 ht3
  generalize oN n (rkO n zs + 1) = ys at *
  generalize rkO n zs = r at *
  have HBX : Hid (Below w.heap.size w (w.alloc (.cells #[.int .i64 0, .int .i64 0] 35))) := below_one w _
  have H0 := Lib.hid (Bx2.new w 0 0)
  have V1 : IntKind.i64.wrap ((r : Int) + 1) = (r : Int) + 1 := IntWalk.i64_in _ (by omega)
  generalize fac n = q at *
  have e1 : decide ((r : Int) + 1 ≥ (q : Int)) = false := decide_eq_false (by omega)
  have e1' : decide ((q : Int) ≤ (r : Int) + 1) = false := decide_eq_false (by omega)
  go_enter Try.func37, Try.ntmps37
  go_wp2_with (first
    | (go_at_call 36; (with_reducible refine (HP.out _ HBX.out).mono ?_); rintro e w1 ⟨rfl, hb⟩; have HB1 := Lib.hid (HBX.out.trans (hb.mono HBX.out.size)); have H1 := Lib.hid (H0.out.below hb H0.out.lt); clear hb)
    | (go_at_call 33; (with_reducible refine (HF.out _).mono ?_); rintro e w2 ⟨rfl, rfl⟩)
    | (go_at_call 34; (with_reducible refine (HO.out _).mono ?_); rintro e w3 ⟨⟨v, rfl, hv⟩, hb⟩; obtain ⟨B, d, rfl, hs⟩ := hv.sl_len HON.out (by omega); have HB3 := Lib.hid (HB1.out.trans (hb.mono HB1.out.size)); have H3 := Lib.hid (H1.out.below hb H1.out.lt); have HS3 := Lib.hid hs; clear hv hs hb))
  have HX := Lib.hid (fun V (hV : Dr w3 V) => (HS.out w3 HB3.out).dr hV)
  have HY := Lib.hid (fun V (hV : Dr w3 V) => HS3.out.dr hV)
  clear V1 e1 e1' HP HF HO HB1 H1 H0 HBX HS HS3
  go_loopw [6] (fun i w' => ∃ k : Nat, k ≤ t ∧ i = .int .i64 (k : Int) ∧ Hid (Dr w3 w')) (fun i _ => t - (intOf i).toNat)
  case atStart => exact ⟨0, Nat.zero_le _, by go_num, Dr.refl _⟩
  case round =>
    obtain ⟨k, hk, rfl, HDR⟩ := hrel
    obtain ⟨wo, rfl⟩ : ∃ wo : World, wo = wr := ⟨_, rfl⟩
    have i1 : (k : Int) < (n : Int) := by omega
    have hx1 := (HX.out wo HDR.out).at_ (k := k) (by omega)
    have hy1 := (HY.out wo HDR.out).at_ (k := k) (by omega)
    rw [show zs[k]?.getD 0 = atI zs k from rfl] at hx1
    rw [show ys[k]?.getD 0 = atI ys k from rfl] at hy1
    by_cases hkp : k < t
    · have h1 := HT2.out k hkp
      rw [← h1] at hy1
      clear h1
      generalize atI zs k = x at *
      obtain ⟨b1, o1, rfl, e1⟩ := hx1
      obtain ⟨b2, o2, rfl, e2⟩ := hy1
      have n1 : (x != x) = false := by simp
      go_wp2
      go_quiet (fail)
      go_wp2
      exact ⟨⟨k + 1, by omega, by go_num, HDR.out.more _⟩, by simp [intOf]; omega⟩
    · obtain rfl : k = t := by omega
      have n1 : (atI ys k != atI zs k) = true := by rw [bne_iff_ne]; exact fun e => HT3.out e.symm
      generalize atI zs k = x at *
      generalize atI ys k = y at *
      obtain ⟨b1, o1, rfl, e1⟩ := hx1
      obtain ⟨b2, o2, rfl, e2⟩ := hy1
      go_wp2
      go_quiet (fail)
      have H5 : Hid (Bx2 (wo.drewN nq) w.heap.size 0 0) := H3.out.below (B := w3.heap.size) ((HDR.out.more nq).below w3.heap.size) H3.out.lt
      have HB5 : Hid (Below w.heap.size w (wo.drewN nq)) := HB3.out.trans (((HDR.out.more nq).below w3.heap.size).mono HB3.out.size)
      clear e1 e2
      generalize wo.drewN nq = w5 at *
      go_wp2_with (refine wpList_store_row (by rfl) 35 (.tmp 2) (.tmp 37) (by rfl) w.heap.size (two (k : Int) ((k : Int) + 1)) (by rfl) (by rfl) 35 _ H5.out HINF.out (by rfl) (two_one _ _) ?_)
      refine bodyPost_ret (results_cell_row (by rfl) _ _ w.heap.size 35 (two (k : Int) ((k : Int) + 1)) (0, 0) _ (by rfl) (setRow_heap _ _ _ _ _ _ H5.out) Try.underlying35 (by rfl) HINF.out) (by rfl) ⟨by rfl, ?_⟩
      exact below_setRow HB5.out (Nat.le_refl _) _
end Go.Proofs.Ytfeohcknopdamaa
