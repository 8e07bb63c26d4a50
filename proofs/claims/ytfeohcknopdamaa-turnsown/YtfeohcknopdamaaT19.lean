import Derived.Test.YtfeohcknopdamaaT17
import Derived.Test.YtfeohcknopdamaaT10
/- Layer 10: TurnsCounts. -/
namespace Go.Proofs.Ytfeohcknopdamaa
open Go.RowKit
set_option linter.unusedVariables false

theorem chs_symm : ∀ n a b : Nat, a + b = n → chs n a = chs n b
  | 0, a, b, h => by
    obtain rfl : a = 0 := by omega
    obtain rfl : b = 0 := by omega
    rfl
  | n + 1, 0, b, h => by
    obtain rfl : b = n + 1 := by omega
    rw [chs_zero, chs_self]
  | n + 1, a + 1, 0, h => by
    obtain rfl : a = n := by omega
    rw [chs_zero, chs_self]
  | n + 1, a + 1, b + 1, h => by
    have h1 := chs_symm n (a + 1) b (by omega)
    have h2 := chs_symm n a (b + 1) (by omega)
    rw [chs, chs, h1, h2]; omega
/-- The sum of the first i numbers. -/
def sumC (n : Nat) : Nat → Nat
  | 0 => 0
  | i + 1 => sumC n i + chs n i
theorem sumC_step (n : Nat) : ∀ i, sumC (n + 1) (i + 1) = sumC n (i + 1) + sumC n i
  | 0 => by simp [sumC, chs_zero]
  | i + 1 => by
    rw [sumC, sumC_step n i, show sumC n (i + 1 + 1) = sumC n (i + 1) + chs n (i + 1) from rfl, show sumC n (i + 1) = sumC n i + chs n i from rfl, chs]
    omega
theorem sumC_all : ∀ n, sumC n (n + 1) = 2 ^ n
  | 0 => rfl
  | n + 1 => by
    rw [sumC_step, show sumC n (n + 1 + 1) = sumC n (n + 1) + chs n (n + 1) from rfl, chs_over n (n + 1) (by omega), sumC_all n, Nat.pow_succ]; omega
theorem sumC_le {n : Nat} : ∀ d i, i + d = n + 1 → sumC n i ≤ 2 ^ n
  | 0, i, h => by rw [show i = n + 1 by omega, sumC_all]; exact Nat.le_refl _
  | d + 1, i, h => by
    have := sumC_le (n := n) d (i + 1) (by omega)
    rw [sumC] at this; omega
theorem setB_mono {n m : Int} {zs : List Int} (h : setB n zs = true) (hm : n ≤ m) : setB m zs = true := setB_iff.2 fun j hj => by
  have := setB_at h hj
  exact ⟨this.1, by omega⟩
theorem atI_app1 {zs : List Int} {x : Int} {j : Nat} (h : j < zs.length) : atI (zs ++ [x]) j = atI zs j := by
  unfold atI
  rw [List.getElem?_append_left h]
theorem atI_app2 {zs : List Int} {x : Int} : atI (zs ++ [x]) zs.length = x := by
  unfold atI
  rw [List.getElem?_append_right (Nat.le_refl _), Nat.sub_self]; rfl
theorem setB_snoc {n : Nat} {zs : List Int} (h : setB (n : Int) zs = true) : setB ((n + 1 : Nat) : Int) (zs ++ [((n + 1 : Nat) : Int)]) = true := setB_iff.2 fun j hj => by
  rw [List.length_append, List.length_singleton] at hj
  by_cases e : j < zs.length
  · have h1 := setB_at h e
    rw [atI_app1 e]
    refine ⟨?_, by omega⟩
    unfold prevI at h1 ⊢
    split
    · rename_i e0; rw [if_pos e0] at h1; exact h1.1
    · rename_i e0; rw [if_neg e0] at h1; rw [atI_app1 (by omega)]; exact h1.1
  · obtain rfl : j = zs.length := by omega
    rw [atI_app2]
    refine ⟨?_, Int.le_refl _⟩
    unfold prevI
    split
    · omega
    · rename_i e0
      rw [atI_app1 (by omega)]
      have := (setB_at h (j := zs.length - 1) (by omega)).2
      omega
theorem pL_set (L : Nat → Nat → Nat) : ∀ n s a : Nat, setB (n : Int) (pL L n s a) = true
  | 0, s, a => setB_iff.2 fun j hj => absurd hj (Nat.not_lt_zero _)
  | n + 1, s, a => by
    rw [pL]
    split
    · exact setB_mono (pL_set L n s a) (by omega)
    · exact setB_snoc (pL_set L n (s - 1) _)
/-- The position of a set is one of its sequence. -/
theorem plC_pos {n : Nat} {zs : List Int} (h : setB (n : Int) zs = true) : plF chs zs zs.length < chs n zs.length := by
  rcases hz : zs.length with _ | m
  · rw [plF, chs_zero]; exact Nat.one_pos
  · obtain ⟨x, hx, h2, h3⟩ := atI_pos h (k := m) (by omega)
    have h4 := plC_lt h m (by omega)
    rw [hx, Int.toNat_natCast] at h4
    rw [plF, hx, Int.toNat_natCast]
    have := chs_mono h3 (m + 1)
    omega
theorem mod_big (x : Int) (n : Nat) (w : World) (hn : 1 ≤ n) (hn' : n ≤ 9007199254740992) :
    Calls Try.prog 52 #[.int .i64 x, .int .i64 (n : Int)] w fun e w' => (∃ r : Nat, e = .returned (.int .i64 r) ∧ r < n) ∧ w = w' := by
  have H : Hid (∃ r : Nat, wrap64 ((IntKind.u64.wrap x).tmod n) = r ∧ r < n) := by
    have h0 := wrap_u64_nonneg x
    rw [Hid, Int.tmod_eq_emod_of_nonneg h0]
    have h1 := Int.emod_nonneg (IntKind.u64.wrap x) (show (n : Int) ≠ 0 by omega)
    have h2 := Int.emod_lt_of_pos (IntKind.u64.wrap x) (show 0 < (n : Int) by omega)
    rw [IntWalk.wrap64_in _ ⟨by omega, by omega⟩]
    exact ⟨((IntKind.u64.wrap x) % n).toNat, by omega, by omega⟩
  go_enter Try.func52, Try.ntmps52
  go_wp2
  go_ret
  obtain ⟨r, h1, h2⟩ := H.out
  exact ⟨⟨r, iend h1, h2⟩, rfl⟩
theorem many_ok (N K : Nat) (V : World) (hN : N ≤ 40) (hK : K ≤ N) : Calls Try.prog 26 #[.int .i64 (N : Int), .int .i64 (K : Int)] V fun e w' => e = .returned (.tuple #[.int .i64 ((chs N K : Nat) : Int), .int .i64 0]) ∧ Below V.heap.size V w' := by
  refine (manyP_any N K V).mono ?_
  rintro e w' ⟨rfl, hb⟩
  have h : (in40 (N : Int) && upB (K : Int) (N : Int)) = true := by
    rw [in40, upB, decide_eq_true (by omega), decide_eq_true (by omega), decide_eq_true (by omega), decide_eq_true (by omega)]; rfl
  rw [if_pos h, Int.toNat_natCast, Int.toNat_natCast]
  exact ⟨rfl, hb⟩
theorem set_ok (N a : Nat) (V : World) (hN : N ≤ 40) (ha : a < 2 ^ N) : Calls Try.prog 17 #[.int .i64 (N : Int), .int .i64 (a : Int)] V fun e w' =>
    (∃ A c, e = .returned (.tuple #[.slice A (pL expL N N a).length c, .int .i64 0]) ∧ Sl w' A (pL expL N N a).length c (pL expL N N a)) ∧ Below V.heap.size V w' := by
  refine (setP_any N a V).mono ?_
  rintro e w' hh
  have h : (in40 (N : Int) && posB (a : Int) ((2 ^ (N : Int).toNat : Nat) : Int)) = true := by
    rw [Int.toNat_natCast, in40, posB, decide_eq_true (by omega), decide_eq_true (by omega), decide_eq_true (by omega), decide_eq_true (by omega)]; rfl
  rw [if_pos h, Int.toNat_natCast, Int.toNat_natCast] at hh
  obtain ⟨⟨v, rfl, hv⟩, hb⟩ := hh
  obtain ⟨A, c, rfl, hs⟩ := hv.sl (by have := pL_len expL N N a; omega)
  exact ⟨⟨A, c, rfl, hs⟩, hb⟩
theorem choiceAt_ok (N : Nat) (zs : List Int) (A : Option Addr) (m c : Nat) (V : World) (hN : N ≤ 40) (hs : Sl V A m c zs) (hz : setB (N : Int) zs = true) : Calls Try.prog 25 #[.int .i64 (N : Int), .slice A m c] V fun e w' =>
    e = .returned (.tuple #[.int .i64 ((plF chs zs m : Nat) : Int), .int .i64 0]) ∧ Below V.heap.size V w' := by
  refine (choiceAtP_any N zs A m c V hs).mono ?_
  rintro e w' ⟨rfl, hb⟩
  have h : (in40 (N : Int) && setB (N : Int) zs) = true := by
    rw [hz, in40, decide_eq_true (by omega), decide_eq_true (by omega)]; rfl
  rw [if_pos h]
  exact ⟨rfl, hb⟩
set_option maxRecDepth 100000 in
set_option maxHeartbeats 6400000 in
theorem counts_walk (n0 k0 a0 : Int) (w : World) :
    Calls Try.prog 13 #[.int .i64 n0, .int .i64 k0, .int .i64 a0] w fun e w' => e = .returned (.bool true) ∧ Below w.heap.size w w' := by
  go_enter Try.func13, Try.ntmps13
  go_upto_region 2 with (go_at_call 52; refine (mod_big n0 40 _ (by omega) (by omega)).mono ?_; rintro e w1 ⟨⟨r, rfl, hr⟩, rfl⟩)
  obtain ⟨N, hN⟩ : ∃ N : Nat, N = r + 1 := ⟨_, rfl⟩
  rw [show 1 + (r : Int) = (N : Int) by omega]
  have hN1 : 1 ≤ N := by omega
  have hN40 : N ≤ 40 := by omega
  clear hN hr
  have HMB := Lib.hid (mod_big k0 N w hN1 (by omega))
  go_upto_region 3 with (go_at_call 52; (with_reducible refine HMB.out.mono ?_); rintro e w1 ⟨⟨r2, rfl, hr2⟩, rfl⟩)
  obtain ⟨K, hK⟩ : ∃ K : Nat, K = r2 + 1 := ⟨_, rfl⟩
  rw [show 1 + (r2 : Int) = (K : Int) by omega]
  have hK1 : 1 ≤ K := by omega
  have hKN : K ≤ N := by omega
  clear hK hr2 HMB
  obtain ⟨D, hD⟩ : ∃ D, D = N - K := ⟨_, rfl⟩
  obtain ⟨N1, hN1'⟩ : ∃ N1, N = N1 + 1 := ⟨N - 1, by omega⟩
  obtain ⟨K1, hK1'⟩ : ∃ K1, K = K1 + 1 := ⟨K - 1, by omega⟩
  have HM1 := Lib.hid (fun V => many_ok N K V hN40 hKN)
  have HM2 := Lib.hid (fun V => many_ok N D V hN40 (by omega))
  have HM3 := Lib.hid (fun V => many_ok N1 K1 V (by omega) (by omega))
  have hsy : chs N D = chs N K := chs_symm N D K (by omega)
  rw [hsy] at HM2
  have hadd : chs N K = chs N1 K + chs N1 K1 := by rw [hN1', hK1', chs]
  have hx := Nat.le_trans (chs_le N K) (two_le hN40)
  have hone : K = N → chs N K = 1 := fun e => by rw [e, chs_self]
  have V1 : Hid (IntKind.i64.wrap ((N : Int) - (K : Int)) = (D : Int)) := by rw [Hid, show (N : Int) - (K : Int) = (D : Int) by omega]; exact IntWalk.i64_in _ (by omega)
  have V2 : Hid (IntKind.i64.wrap ((N : Int) - 1) = (N1 : Int)) := by rw [Hid, show (N : Int) - 1 = (N1 : Int) by omega]; exact IntWalk.i64_in _ (by omega)
  have V3 : Hid (IntKind.i64.wrap ((K : Int) - 1) = (K1 : Int)) := by rw [Hid, show (K : Int) - 1 = (K1 : Int) by omega]; exact IntWalk.i64_in _ (by omega)
  have hsh := shl_nat N hN40
  have hq := two_le hN40
  obtain ⟨q, hqe⟩ : ∃ q, q = 2 ^ N := ⟨_, rfl⟩
  have hq1 : 1 ≤ q := by rw [hqe]; exact Nat.two_pow_pos N
  rw [← hqe] at hsh hq
  have HMA := Lib.hid (fun V => mod_big a0 q V hq1 (Nat.le_trans hq (by decide)))
  have HQE := Lib.hid hqe
  clear hsy hD hqe hq1
  by_cases hlt : K < N
  · have HM4 := Lib.hid (fun V => many_ok N1 K V (by omega) (by omega))
    clear hone hN1' hK1'
    generalize chs N K = x at *
    generalize chs N1 K = z at *
    generalize chs N1 K1 = y at *
    have d0 : decide ((K : Int) < (N : Int)) = true := decide_eq_true (by omega)
    have V4 : Hid (IntKind.i64.wrap ((y : Int) + (z : Int)) = (x : Int)) := by rw [Hid, show (y : Int) + (z : Int) = (x : Int) by omega]; exact IntWalk.i64_in _ (by omega)
    clear hadd hx
    have v1 := V1.out
    have v2 := V2.out
    have v3 := V3.out
    have v4 := V4.out
    go_wp2_with (first
      | (go_at_call 26; (with_reducible refine (HM1.out _).mono ?_); rintro e w2 ⟨rfl, hb⟩; have HB2 := Lib.hid hb; clear hb)
      | (go_at_call 26; (with_reducible refine (HM2.out _).mono ?_); rintro e w3 ⟨rfl, hb⟩; have HB3 := Lib.hid (HB2.out.trans (hb.mono HB2.out.size)); clear hb)
      | (go_at_call 26; (with_reducible refine (HM3.out _).mono ?_); rintro e w4 ⟨rfl, hb⟩; have HB4 := Lib.hid (HB3.out.trans (hb.mono HB3.out.size)); clear hb)
      | (go_at_call 26; (with_reducible refine (HM4.out _).mono ?_); rintro e w5 ⟨rfl, hb⟩; have HBL := Lib.hid (HB4.out.trans (hb.mono HB4.out.size)); clear hb))
    clear v1 v2 v3 v4 V1 V2 V3 V4 d0
    go_loopw [15, 16] (fun s i w' => ∃ i' : Nat, i' ≤ N + 1 ∧ i = .int .i64 (i' : Int) ∧ s = .int .i64 ((sumC N i' : Nat) : Int) ∧ Hid (Below w.heap.size w w')) (fun _ i _ => N + 1 - (intOf i).toNat)
    case atStart => exact ⟨0, Nat.zero_le _, by go_num, rfl, HBL.out⟩
    case round =>
      obtain ⟨i, hi, rfl, rfl, HB⟩ := hrel
      obtain ⟨wo, rfl⟩ : ∃ wo : World, wo = wr := ⟨_, rfl⟩
      by_cases hlt : i ≤ N
      · have i1 : (i : Int) ≤ (N : Int) := by omega
        have HMI := Lib.hid (fun V => many_ok N i V hN40 hlt)
        have hs1 := sumC_le (n := N) (N - i) (i + 1) (by omega)
        rw [← HQE.out] at hs1
        rw [sumC] at hs1
        have HSM : Hid (sumC N (i + 1) = sumC N i + chs N i) := rfl
        generalize sumC N i = sm at *
        generalize chs N i = ci at *
        have V1 : Hid (IntKind.i64.wrap ((sm : Int) + (ci : Int)) = ((sm + ci : Nat) : Int)) := by rw [Hid, Int.natCast_add]; exact IntWalk.i64_in _ (by omega)
        have v1 := V1.out
        clear hs1
        go_wp2_with (go_at_call 26; (with_reducible refine (HMI.out _).mono ?_); rintro e w8 ⟨rfl, hb⟩; have HB8 := Lib.hid (HB.out.trans (hb.mono HB.out.size)); clear hb)
        clear v1 V1
        exact ⟨⟨i + 1, by omega, by go_num, by rw [HSM.out, Int.natCast_add], HB8.out⟩, by simp [intOf]; omega⟩
      · have hiN : i = N + 1 := by omega
        have i1 : ¬ (i : Int) ≤ (N : Int) := by omega
        have HSA : Hid (sumC N i = q) := by rw [hiN, HQE.out]; exact sumC_all N
        rw [HSA.out]
        clear hiN HSA
        have HZB := Lib.hid (fun a => pL_set expL N N a)
        go_wp2_with (first
          | (go_at_call 52; (with_reducible refine (HMA.out _).mono ?_); rintro e w9 ⟨⟨a, rfl, ha⟩, rfl⟩; have HST := Lib.hid (fun V => set_ok N a V hN40 (by rw [← HQE.out]; exact ha)); have HPC := Lib.hid (plC_pos (pL_set expL N N a)); have HPS := Lib.hid (pL_set expL N N a); have HPN := Lib.hid (setB_len (pL_set expL N N a)); clear ha; generalize pL expL N N a = zs at HST HPC HPS HPN)
          | (go_at_call 17; (with_reducible refine (HST.out _).mono ?_); rintro e w10 ⟨⟨A, c, rfl, hs⟩, hb⟩; have HSL := Lib.hid hs; have HB10 := Lib.hid (HB.out.trans (hb.mono HB.out.size)); have HCA := Lib.hid (choiceAt_ok N zs A zs.length c w10 hN40 hs HPS.out); have HML := Lib.hid (fun V => many_ok N zs.length V hN40 HPN.out); clear hs hb)
          | (go_at_call 25; (with_reducible refine HCA.out.mono ?_); rintro e w11 ⟨rfl, hb⟩; have HB11 := Lib.hid (HB10.out.trans (hb.mono HB10.out.size)); clear hb)
          | (go_at_call 26; (with_reducible refine (HML.out _).mono ?_); rintro e w12 ⟨rfl, hb⟩; have HB12 := Lib.hid (HB11.out.trans (hb.mono HB11.out.size)); have hpc := HPC.out; have e1 : decide ((0 : Int) ≤ ((plF chs zs zs.length : Nat) : Int)) = true := decide_eq_true (by omega); have e2 : decide (((plF chs zs zs.length : Nat) : Int) < ((chs N zs.length : Nat) : Int)) = true := decide_eq_true (by omega); clear hb)
          | (go_at_call 19; (with_reducible refine (awake_here _).mono ?_); rintro e w13 ⟨rfl, hb⟩; have HB13 := Lib.hid (HB12.out.trans (hb.mono HB12.out.size)); clear hb))
        go_ret
        exact ⟨rfl, HB13.out⟩
  · have hx1 := hone (by omega)
    clear hone hN1' hK1' hadd
    rw [hx1] at HM1 HM2
    clear hx hx1
    generalize chs N1 K1 = y at *
    have d0 : decide ((K : Int) < (N : Int)) = false := decide_eq_false (by omega)
    have v1 := V1.out
    have v2 := V2.out
    have v3 := V3.out
    go_wp2_with (first
      | (go_at_call 26; (with_reducible refine (HM1.out _).mono ?_); rintro e w2 ⟨rfl, hb⟩; have HB2 := Lib.hid hb; clear hb)
      | (go_at_call 26; (with_reducible refine (HM2.out _).mono ?_); rintro e w3 ⟨rfl, hb⟩; have HB3 := Lib.hid (HB2.out.trans (hb.mono HB2.out.size)); clear hb)
      | (go_at_call 26; (with_reducible refine (HM3.out _).mono ?_); rintro e w4 ⟨rfl, hb⟩; have HBL := Lib.hid (HB3.out.trans (hb.mono HB3.out.size)); clear hb))
    clear v1 v2 v3 V1 V2 V3 d0
    go_loopw [15, 16] (fun s i w' => ∃ i' : Nat, i' ≤ N + 1 ∧ i = .int .i64 (i' : Int) ∧ s = .int .i64 ((sumC N i' : Nat) : Int) ∧ Hid (Below w.heap.size w w')) (fun _ i _ => N + 1 - (intOf i).toNat)
    case atStart => exact ⟨0, Nat.zero_le _, by go_num, rfl, HBL.out⟩
    case round =>
      obtain ⟨i, hi, rfl, rfl, HB⟩ := hrel
      obtain ⟨wo, rfl⟩ : ∃ wo : World, wo = wr := ⟨_, rfl⟩
      by_cases hlt : i ≤ N
      · have i1 : (i : Int) ≤ (N : Int) := by omega
        have HMI := Lib.hid (fun V => many_ok N i V hN40 hlt)
        have hs1 := sumC_le (n := N) (N - i) (i + 1) (by omega)
        rw [← HQE.out] at hs1
        rw [sumC] at hs1
        have HSM : Hid (sumC N (i + 1) = sumC N i + chs N i) := rfl
        generalize sumC N i = sm at *
        generalize chs N i = ci at *
        have V1 : Hid (IntKind.i64.wrap ((sm : Int) + (ci : Int)) = ((sm + ci : Nat) : Int)) := by rw [Hid, Int.natCast_add]; exact IntWalk.i64_in _ (by omega)
        have v1 := V1.out
        clear hs1
        go_wp2_with (go_at_call 26; (with_reducible refine (HMI.out _).mono ?_); rintro e w8 ⟨rfl, hb⟩; have HB8 := Lib.hid (HB.out.trans (hb.mono HB.out.size)); clear hb)
        clear v1 V1
        exact ⟨⟨i + 1, by omega, by go_num, by rw [HSM.out, Int.natCast_add], HB8.out⟩, by simp [intOf]; omega⟩
      · have hiN : i = N + 1 := by omega
        have i1 : ¬ (i : Int) ≤ (N : Int) := by omega
        have HSA : Hid (sumC N i = q) := by rw [hiN, HQE.out]; exact sumC_all N
        rw [HSA.out]
        clear hiN HSA
        have HZB := Lib.hid (fun a => pL_set expL N N a)
        go_wp2_with (first
          | (go_at_call 52; (with_reducible refine (HMA.out _).mono ?_); rintro e w9 ⟨⟨a, rfl, ha⟩, rfl⟩; have HST := Lib.hid (fun V => set_ok N a V hN40 (by rw [← HQE.out]; exact ha)); have HPC := Lib.hid (plC_pos (pL_set expL N N a)); have HPS := Lib.hid (pL_set expL N N a); have HPN := Lib.hid (setB_len (pL_set expL N N a)); clear ha; generalize pL expL N N a = zs at HST HPC HPS HPN)
          | (go_at_call 17; (with_reducible refine (HST.out _).mono ?_); rintro e w10 ⟨⟨A, c, rfl, hs⟩, hb⟩; have HSL := Lib.hid hs; have HB10 := Lib.hid (HB.out.trans (hb.mono HB.out.size)); have HCA := Lib.hid (choiceAt_ok N zs A zs.length c w10 hN40 hs HPS.out); have HML := Lib.hid (fun V => many_ok N zs.length V hN40 HPN.out); clear hs hb)
          | (go_at_call 25; (with_reducible refine HCA.out.mono ?_); rintro e w11 ⟨rfl, hb⟩; have HB11 := Lib.hid (HB10.out.trans (hb.mono HB10.out.size)); clear hb)
          | (go_at_call 26; (with_reducible refine (HML.out _).mono ?_); rintro e w12 ⟨rfl, hb⟩; have HB12 := Lib.hid (HB11.out.trans (hb.mono HB11.out.size)); have hpc := HPC.out; have e1 : decide ((0 : Int) ≤ ((plF chs zs zs.length : Nat) : Int)) = true := decide_eq_true (by omega); have e2 : decide (((plF chs zs zs.length : Nat) : Int) < ((chs N zs.length : Nat) : Int)) = true := decide_eq_true (by omega); clear hb)
          | (go_at_call 19; (with_reducible refine (awake_here _).mono ?_); rintro e w13 ⟨rfl, hb⟩; have HB13 := Lib.hid (HB12.out.trans (hb.mono HB12.out.size)); clear hb))
        go_ret
        exact ⟨rfl, HB13.out⟩
end Go.Proofs.Ytfeohcknopdamaa
