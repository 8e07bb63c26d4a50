import Derived.Test.YtcnjkdkkflpgnaaT33
import Derived.Test.YtcnjkdkkflpgnaaT31
/- Layer 8: the walk of ShelfLeast. -/
namespace Go.Proofs.Ytcnjkdkkflpgnaa
open Go.RowKit Go.Maps
set_option linter.unusedVariables false

/-- Faults on a correct plan. -/
theorem flt_ok {k : Int} {zs pl : List Int} (h1 : reqB zs 200 15 = true) (h2 : placesB k = true) (hl : pl.length = zs.length) (hok : ∀ j, j < zs.length → pOk k zs pl j = true) : fltP k zs pl = (pC zs pl zs.length, 0) := by
  unfold fltP
  rw [h1, h2, if_neg (by decide), decide_eq_true hl, if_neg (by decide), allB_iff.2 hok, if_neg (by decide)]
theorem bnd_of {pl : List Int} (h : ∀ j, j < pl.length → -1 ≤ atI pl j ∧ atI pl j < 16) (i : Nat) : -9223372036854775808 ≤ atI pl i ∧ atI pl i ≤ 9223372036854775807 := by
  by_cases e : i < pl.length
  · have := h i e; omega
  · unfold atI
    rw [List.getElem?_eq_none (by omega)]
    exact ⟨by decide, by decide⟩
section
variable (k : Int) (zs : List Int) (A : Option Addr) (n c : Nat) (V : World) (h : Sl V A n c zs) (h1 : reqB zs 200 15 = true) (h2 : placesB k = true)
include h h1 h2
theorem run_recent : Calls Try.prog 17 #[.slice A n c, .int .i64 k] V fun e w' => (∃ A' c', e = .returned (.tuple #[.int .i64 (rC rkLast k zs n), .slice A' n c', .int .i64 0]) ∧ Sl w' A' n c' (rP rkLast k zs n)) ∧ Below V.heap.size V w' := by
  have hl := h.len
  obtain ⟨hn, _⟩ := reqB_parts h1
  refine (recent_any k zs A n c V h).mono ?_
  rintro e w' ⟨⟨_, _, v, rfl, ho⟩ | ⟨e1 | e1, _⟩, hb⟩
  · obtain ⟨A', c', rfl, hs⟩ := ho.sl_of (rP_len _ _ _ _) (by omega)
    exact ⟨⟨A', c', rfl, hs⟩, hb⟩
  · rw [h1] at e1; cases e1
  · rw [h2] at e1; cases e1
theorem run_first : Calls Try.prog 18 #[.slice A n c, .int .i64 k] V fun e w' => (∃ A' c', e = .returned (.tuple #[.int .i64 (rC rkSince k zs n), .slice A' n c', .int .i64 0]) ∧ Sl w' A' n c' (rP rkSince k zs n)) ∧ Below V.heap.size V w' := by
  have hl := h.len
  obtain ⟨hn, _⟩ := reqB_parts h1
  refine (first_any k zs A n c V h).mono ?_
  rintro e w' ⟨⟨_, _, v, rfl, ho⟩ | ⟨e1 | e1, _⟩, hb⟩
  · obtain ⟨A', c', rfl, hs⟩ := ho.sl_of (rP_len _ _ _ _) (by omega)
    exact ⟨⟨A', c', rfl, hs⟩, hb⟩
  · rw [h1] at e1; cases e1
  · rw [h2] at e1; cases e1
theorem run_best : Calls Try.prog 19 #[.slice A n c, .int .i64 k] V fun e w' => (∃ A' c', e = .returned (.tuple #[.int .i64 (rC (rkBest zs) k zs n), .slice A' n c', .int .i64 0]) ∧ Sl w' A' n c' (rP (rkBest zs) k zs n)) ∧ Below V.heap.size V w' := by
  have hl := h.len
  obtain ⟨hn, _⟩ := reqB_parts h1
  refine (best_any k zs A n c V h).mono ?_
  rintro e w' ⟨⟨_, _, v, rfl, ho⟩ | ⟨e1 | e1, _⟩, hb⟩
  · obtain ⟨A', c', rfl, hs⟩ := ho.sl_of (rP_len _ _ _ _) (by omega)
    exact ⟨⟨A', c', rfl, hs⟩, hb⟩
  · rw [h1] at e1; cases e1
  · rw [h2] at e1; cases e1
theorem faults_run (rk : Stay → Int) (B : Option Addr) (d : Nat) (h3 : Sl V B n d (rP rk k zs n)) : Calls Try.prog 25 #[.slice A n c, .int .i64 k, .slice B n d] V fun e w' => e = .returned (.tuple #[.int .i64 (rC rk k zs n), .int .i64 0]) ∧ Below V.heap.size V w' := by
  have hl := h.len
  subst hl
  have hk : 1 ≤ k ∧ k ≤ 8 := by unfold placesB at h2; rw [Bool.and_eq_true, decide_eq_true_iff, decide_eq_true_iff] at h2; exact h2
  obtain ⟨_, e2, e3⟩ := plan_run rk (zs := zs) hk.1 zs.length (Nat.le_refl _)
  have hf := flt_ok h1 h2 (rP_len rk k zs zs.length) e3
  rw [e2] at hf
  have := faultsP_any k zs (rP rk k zs zs.length) A B zs.length c zs.length d V h h3 (fun i => by
    by_cases e : i < zs.length
    · have h5 := rG_le rk k zs hk.1 i
      unfold rP
      rw [atI_mapN e]
      omega
    · unfold atI
      rw [List.getElem?_eq_none (by rw [rP_len]; omega)]
      exact ⟨by decide, by decide⟩)
  rw [hf] at this
  exact this
theorem faults_plan (pl S : List Int) (B : Option Addr) (d : Nat) (hg : PlG k zs pl S n) (h3 : Sl V B n d pl) : Calls Try.prog 25 #[.slice A n c, .int .i64 k, .slice B n d] V fun e w' => e = .returned (.tuple #[.int .i64 (pC zs pl n), .int .i64 0]) ∧ Below V.heap.size V w' := by
  have hl := h.len
  subst hl
  have hf := flt_ok h1 h2 hg.len hg.ok
  have := faultsP_any k zs pl A B zs.length c zs.length d V h h3 (bnd_of (by rw [hg.len]; exact hg.bnd))
  rw [hf] at this
  exact this
end
set_option maxRecDepth 100000 in
set_option maxHeartbeats 12800000 in
theorem least_walk (A : Option Addr) (n0 c0 : Nat) (xs0 : List Int) (x : Int) (B : Option Addr) (m d : Nat) (by_ : List Int) (w : World) (hx : Sl w A n0 c0 xs0) (hy : Sl w B m d by_) :
    Calls Try.prog 9 #[.slice A n0 c0, .int .i64 x, .slice B m d] w fun e w' => e = .returned (.bool true) ∧ Below w.heap.size w w' := by
  have HTA := Lib.hid (tame_any A n0 c0 100 16 xs0 w hx (by omega) (by omega) (by omega))
  rw [show ((100 : Nat) : Int) = 100 from rfl, show ((16 : Nat) : Int) = 16 from rfl] at HTA
  have HM8 := Lib.hid (fun V => mod_any x 8 V (by omega) (by omega))
  have HSB := Lib.hid (fun V (hV : Below w.heap.size w V) => hy.below hV (Nat.le_refl _))
  clear hx hy
  go_enter Try.func9, Try.ntmps9
  go_upto_region 2 with (go_at_call 39; go_must (refine HTA.out.mono ?_); rintro e w1 ⟨⟨v, zs, rfl, ho, hl, hz⟩, hb⟩; obtain ⟨A1, c1, rfl, hs⟩ := ho.sl_of rfl (by omega); have HBw1 := Lib.hid hb; have SL := Lib.hid hs; have SB := Lib.hid (HSB.out _ hb); have HZL := Lib.hid hl; have HZ := Lib.hid hz; clear ho hl hz hs hb)
  obtain ⟨n, hn⟩ : ∃ n, n = zs.length := ⟨_, rfl⟩
  have HN := Lib.hid hn
  rw [← hn] at SL ⊢
  have hn60 : n ≤ 100 := by rw [hn]; exact HZL.out
  clear hn
  go_upto_region 3 with (go_at_call 40; (with_reducible refine (HM8.out _).mono ?_); rintro e v1 ⟨⟨r0, rfl, hr⟩, rfl⟩; have HR0 := Lib.hid hr; have v0 : IntKind.i64.wrap (1 + (r0 : Int)) = 1 + (r0 : Int) := IntWalk.i64_in _ (by omega); clear hr)
  have hz16 : ∀ j, j < zs.length → 0 ≤ atI zs j ∧ atI zs j < 16 := fun j hj => by obtain ⟨r, e, h⟩ := HZ.out j hj; omega
  have hq1 := req_of (by rw [← HN.out]; omega) hz16
  have hk1 : (1 : Int) ≤ 1 + (r0 : Int) := by omega
  have hk8 : 1 + (r0 : Int) ≤ 8 := by have := HR0.out; omega
  have hpk : placesB (1 + (r0 : Int)) = true := by
    unfold placesB
    rw [decide_eq_true (by omega), decide_eq_true (by omega)]; rfl
  clear v0 HR0
  have HBX := Lib.hid (Below.refl w1.heap.size w1)
  generalize (1 + (r0 : Int)) = K at *
  have HRE := Lib.hid (fun V (hV : Sl V A1 n c1 zs) => run_recent K zs A1 n c1 V hV hq1 hpk)
  have HFI := Lib.hid (fun V (hV : Sl V A1 n c1 zs) => run_first K zs A1 n c1 V hV hq1 hpk)
  have HBE := Lib.hid (fun V (hV : Sl V A1 n c1 zs) => run_best K zs A1 n c1 V hV hq1 hpk)
  have HPL := Lib.hid (fun V (hV : Sl V A1 n c1 zs) (hW : Sl V B m d by_) => planned_any K zs by_ A1 B n c1 m d V hV hW ⟨hk1, hk8⟩ (by omega) (by rw [HN.out]; exact hz16))
  have HFP := Lib.hid (fun V B d (hV : Sl V A1 n c1 zs) hW => faults_run K zs A1 n c1 V hV hq1 hpk rkLast B d hW)
  have HFQ := Lib.hid (fun V B d (hV : Sl V A1 n c1 zs) hW => faults_run K zs A1 n c1 V hV hq1 hpk rkSince B d hW)
  have HFS := Lib.hid (fun V B d (hV : Sl V A1 n c1 zs) hW => faults_run K zs A1 n c1 V hV hq1 hpk (rkBest zs) B d hW)
  have HFG := Lib.hid (fun V pl S B d (hV : Sl V A1 n c1 zs) hg hW => faults_plan K zs A1 n c1 V hV hq1 hpk pl S B d hg hW)
  obtain ⟨H, hH⟩ : ∃ H, H = phS K zs n := ⟨_, rfl⟩
  obtain ⟨nH, hnH⟩ : ∃ q, q = H.length := ⟨_, rfl⟩
  have HPH := Lib.hid (fun V (hV : Sl V A1 n c1 zs) => phases_sl K zs A1 n c1 nH V hV hq1 hpk H hH.symm hnH.symm)
  have hplan : ∀ pl : List Int, (∀ j, j < n → pOk K zs pl j = true) → rC (rkBest zs) K zs n ≤ pC zs pl n ∧ pC zs pl n ≤ (n : Int) := fun pl hp => by
    have := best_least (pl := pl) hk1 hz16 (by rw [← HN.out]; exact hp)
    rw [← HN.out] at this
    exact ⟨this, (pC_le zs pl n).2⟩
  have hrun : ∀ rk, rC (rkBest zs) K zs n ≤ rC rk K zs n := fun rk => by
    obtain ⟨_, e2, e3⟩ := plan_run rk (zs := zs) hk1 zs.length (Nat.le_refl _)
    rw [← HN.out] at e2 e3
    rw [← e2]
    exact (hplan _ e3).1
  have hph : (nH : Int) ≤ rC (rkBest zs) K zs n := by
    obtain ⟨_, e2, e3⟩ := plan_run (rkBest zs) (zs := zs) hk1 zs.length (Nat.le_refl _)
    have := (phase_faults hk1 hz16 e3 zs.length (Nat.le_refl _)).1
    rw [e2, ← HN.out, ← hH, ← hnH] at this
    exact this
  have hrl : rC rkLast K zs n ≤ K * (nH : Int) := by
    have h1 := (way_same (st := 0) (rk := rkLast) (.inl ⟨rfl, rfl⟩) hk1 hz16).1
    have h2 := recent_le hk1 hz16
    rw [← h1, ← HN.out, ← hH, ← hnH] at h2
    exact h2
  have HPN := Lib.hid hplan
  have c0 := hrun rkLast
  have c1x := hrun rkSince
  clear hplan hrun hq1 hpk hz16 HZ HZL HN HM8 HTA HSB hH hnH
  generalize rC rkLast K zs n = C0 at *
  generalize rC rkSince K zs n = C1 at *
  generalize rC (rkBest zs) K zs n = C2 at *
  go_upto_region 6 with (first
    | (go_at_call 17; go_must (refine (HRE.out _ SL.out).mono ?_); rintro e w2 ⟨⟨A4, c4, rfl, hs⟩, hb⟩; have SL := Lib.hid (SL.out.below hb (Nat.le_refl _)); have SB := Lib.hid (SB.out.below hb (Nat.le_refl _)); have SP := Lib.hid hs; have HBw2 := Lib.hid (HBX.out.trans (hb.mono HBX.out.size)); clear hb hs)
    | (go_at_call 18; (with_reducible refine (HFI.out _ SL.out).mono ?_); rintro e w3 ⟨⟨A5, c5, rfl, hs⟩, hb⟩; have SL := Lib.hid (SL.out.below hb (Nat.le_refl _)); have SB := Lib.hid (SB.out.below hb (Nat.le_refl _)); have SP := Lib.hid (SP.out.below hb (Nat.le_refl _)); have SQ := Lib.hid hs; have HBw3 := Lib.hid (HBw2.out.trans (hb.mono HBw2.out.size)); clear hb hs)
    | (go_at_call 19; (with_reducible refine (HBE.out _ SL.out).mono ?_); rintro e w4 ⟨⟨A6, c6, rfl, hs⟩, hb⟩; have SL := Lib.hid (SL.out.below hb (Nat.le_refl _)); have SB := Lib.hid (SB.out.below hb (Nat.le_refl _)); have SP := Lib.hid (SP.out.below hb (Nat.le_refl _)); have SQ := Lib.hid (SQ.out.below hb (Nat.le_refl _)); have SS := Lib.hid hs; have HBw4 := Lib.hid (HBw3.out.trans (hb.mono HBw3.out.size)); clear hb hs))
  go_upto_region 7 with (first
    | (go_at_call 41; (with_reducible refine (HPL.out _ SL.out SB.out).mono ?_); rintro e w5 ⟨⟨v, pl, S, rfl, ho, hg⟩, hb⟩; obtain ⟨A7, c7, rfl, hs⟩ := ho.sl_of hg.len (by omega); have SG := Lib.hid hs; have HG := Lib.hid hg; have SL := Lib.hid (SL.out.below hb (Nat.le_refl _)); have SP := Lib.hid (SP.out.below hb (Nat.le_refl _)); have SQ := Lib.hid (SQ.out.below hb (Nat.le_refl _)); have SS := Lib.hid (SS.out.below hb (Nat.le_refl _)); have HBw5 := Lib.hid (HBw4.out.trans (hb.mono HBw4.out.size)); clear hb ho hg hs)
    | (go_at_call 25; (with_reducible refine (HFG.out _ _ _ _ _ SL.out HG.out SG.out).mono ?_); rintro e w6 ⟨rfl, hb⟩; have SL := Lib.hid (SL.out.below hb (Nat.le_refl _)); have SP := Lib.hid (SP.out.below hb (Nat.le_refl _)); have SQ := Lib.hid (SQ.out.below hb (Nat.le_refl _)); have SS := Lib.hid (SS.out.below hb (Nat.le_refl _));  have HBw6 := Lib.hid (HBw5.out.trans (hb.mono HBw5.out.size)); clear hb ))
  obtain ⟨hd1, hd2⟩ := HPN.out pl HG.out.ok
  clear HPL HRE HFI HBE HFG HPN HG
  generalize pC zs pl n = D at *
  have hb0 : 0 ≤ D := by omega
  have hK0 : 0 ≤ K := by omega
  have hm1 : K * (nH : Int) ≤ K * D := Int.mul_le_mul_of_nonneg_left (by omega) hK0
  have hm2 : K * D ≤ 8 * D := Int.mul_le_mul_of_nonneg_right hk8 hb0
  have hm3 : 0 ≤ K * (nH : Int) := Int.mul_nonneg hK0 (by omega)
  have u1 : IntKind.i64.wrap (K * D) = K * D := IntWalk.i64_in _ (by omega)
  have u2 : IntKind.i64.wrap (K * D + K) = K * D + K := IntWalk.i64_in _ (by omega)
  have u3 : IntKind.i64.wrap (K * (nH : Int)) = K * (nH : Int) := IntWalk.i64_in _ (by omega)
  have g1 : C0 ≥ C2 := c0
  have g2 : C1 ≥ C2 := c1x
  have g3 : D ≥ C2 := hd1
  have g4 : C2 ≥ (nH : Int) := hph
  have g5 : C0 ≤ K * D + K := by omega
  clear c0 c1x hd1 hph
  go_wp2_with (first
    | (go_at_call 25; (with_reducible refine (HFP.out _ _ _ SL.out SP.out).mono ?_); rintro e w7 ⟨rfl, hb⟩; have SL := Lib.hid (SL.out.below hb (Nat.le_refl _)); have SQ := Lib.hid (SQ.out.below hb (Nat.le_refl _)); have SS := Lib.hid (SS.out.below hb (Nat.le_refl _));  have HBw7 := Lib.hid (HBw6.out.trans (hb.mono HBw6.out.size)); clear hb )
    | (go_at_call 25; (with_reducible refine (HFQ.out _ _ _ SL.out SQ.out).mono ?_); rintro e w8 ⟨rfl, hb⟩; have SL := Lib.hid (SL.out.below hb (Nat.le_refl _)); have SS := Lib.hid (SS.out.below hb (Nat.le_refl _));  have HBw8 := Lib.hid (HBw7.out.trans (hb.mono HBw7.out.size)); clear hb )
    | (go_at_call 25; (with_reducible refine (HFS.out _ _ _ SL.out SS.out).mono ?_); rintro e w9 ⟨rfl, hb⟩; have SL := Lib.hid (SL.out.below hb (Nat.le_refl _));  have HBw9 := Lib.hid (HBw8.out.trans (hb.mono HBw8.out.size)); clear hb )
    | (go_at_call 27; (with_reducible refine (HPH.out _ SL.out).mono ?_); rintro e w10 ⟨⟨A9, c9, rfl, hs⟩, hb⟩;   have HBw10 := Lib.hid (HBw9.out.trans (hb.mono HBw9.out.size)); clear hb hs)
    | (go_at_call 21; (with_reducible refine (awake_here _).mono ?_); rintro e w11 ⟨rfl, hb11⟩))
  go_ret
  exact ⟨rfl, HBw1.out.trans ((HBw10.out.trans (hb11.mono HBw10.out.size)).mono HBw1.out.size)⟩
end Go.Proofs.Ytcnjkdkkflpgnaa
