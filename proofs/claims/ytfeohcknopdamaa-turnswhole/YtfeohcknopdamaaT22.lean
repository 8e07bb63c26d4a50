import Derived.Test.YtfeohcknopdamaaT20
/- Layer 10: how adjacent choices differ. -/
namespace Go.Proofs.Ytfeohcknopdamaa
set_option linter.unusedVariables false

/-- 1 to k. -/
def seqL : Nat → List Int
  | 0 => []
  | k + 1 => seqL k ++ [((k + 1 : Nat) : Int)]
theorem seqL_most : ∀ k : Nat, AtMost (k : Int) (seqL k)
  | 0 => fun x hx => by cases hx
  | k + 1 => fun x hx => by
    rw [seqL, List.mem_append, List.mem_singleton] at hx
    rcases hx with hx | hx
    · have := seqL_most k x hx; omega
    · omega
theorem pLc_step (n k a : Nat) : pL chs (n + 1) (k + 1) a = if a < chs n (k + 1) then pL chs n (k + 1) a else pL chs n k (chs n (k + 1) + chs n k - 1 - a) ++ [((n + 1 : Nat) : Int)] := rfl
theorem pLc_zero (n a : Nat) (h : a < 1) : pL chs n 0 a = [] := by
  obtain rfl : a = 0 := by omega
  induction n with
  | zero => rfl
  | succ n ih => rw [pL, chs_zero, if_pos (by omega)]; exact ih
theorem pLc_first : ∀ n k, k ≤ n → pL chs n k 0 = seqL k
  | n, 0, _ => pLc_zero n 0 (by omega)
  | 0, k + 1, h => by omega
  | n + 1, k + 1, h => by
    rw [pLc_step]
    by_cases h1 : k + 1 ≤ n
    · rw [if_pos (show 0 < chs n (k + 1) from chs_pos n (k + 1) h1)]; exact pLc_first n (k + 1) h1
    · obtain rfl : k = n := by omega
      rw [chs_over k (k + 1) (by omega), if_neg (by omega), chs_self, pLc_first k k (Nat.le_refl _)]; rfl
/-- The last of a sequence. -/
def lastC (n k : Nat) : List Int := pL chs n k (chs n k - 1)
theorem lastC_step {n k : Nat} (h : k ≤ n) : lastC (n + 1) (k + 1) = seqL k ++ [((n + 1 : Nat) : Int)] := by
  have h0 := chs_pos n k h
  unfold lastC
  rw [pLc_step, chs, if_neg (by omega), show chs n (k + 1) + chs n k - 1 - (chs n (k + 1) + chs n k - 1) = 0 by omega, pLc_first n k h]
theorem lastC_zero (n : Nat) : lastC n 0 = [] := pLc_zero n _ (by rw [chs_zero]; omega)
theorem cnt_nil (ys : List Int) : cnt [] ys = 0 := rfl
theorem seq_diff (k : Nat) : cnt (seqL k) (seqL (k + 1)) = 0 ∧ cnt (seqL (k + 1)) (seqL k) = 1 := by
  have hm := seqL_most k
  have hx : (k : Int) < ((k + 1 : Nat) : Int) := by omega
  rw [seqL, cnt_more hm hx, cnt_new hm hx, cnt_self]
  exact ⟨rfl, rfl⟩
theorem last_diff : ∀ n k, k + 1 ≤ n → cnt (lastC n k) (lastC n (k + 1)) = 0 ∧ cnt (lastC n (k + 1)) (lastC n k) = 1
  | 0, k, h => by omega
  | n + 1, 0, h => by
    rw [lastC_zero, lastC_step (Nat.zero_le n)]
    exact ⟨rfl, rfl⟩
  | n + 1, k + 1, h => by
    rw [lastC_step (by omega), lastC_step (by omega)]
    have hk : ∀ j, j ≤ n → AtMost (n : Int) (seqL j) := fun j hj x hx => by have := seqL_most j x hx; omega
    have hx : (n : Int) < ((n + 1 : Nat) : Int) := by omega
    rw [cnt_both (hk k (by omega)) hx, cnt_both (hk (k + 1) (by omega)) hx]
    exact seq_diff k
theorem turnC : ∀ n k a, a + 1 < chs n k → cnt (pL chs n k a) (pL chs n k (a + 1)) = 1 ∧ cnt (pL chs n k (a + 1)) (pL chs n k a) = 1
  | n, 0, a, h => by rw [chs_zero] at h; omega
  | 0, k + 1, a, h => by rw [chs] at h; omega
  | n + 1, k + 1, a, h => by
    have hm := fun k b => atMost_of (pL_set chs n k b)
    have hx : (n : Int) < ((n + 1 : Nat) : Int) := by omega
    rw [chs] at h
    rw [pLc_step, pLc_step]
    by_cases h1 : a + 1 < chs n (k + 1)
    · rw [if_pos (by omega), if_pos h1]; exact turnC n (k + 1) a h1
    · rw [if_neg h1]
      by_cases h2 : a < chs n (k + 1)
      · rw [if_pos h2]
        have e : a = chs n (k + 1) - 1 := by omega
        have e2 : chs n (k + 1) + chs n k - 1 - (a + 1) = chs n k - 1 := by omega
        have hkn : k + 1 ≤ n := by
          rcases Nat.lt_or_ge n (k + 1) with h3 | h3
          · rw [chs_over n (k + 1) h3] at h2; omega
          · exact h3
        have hd := last_diff n k hkn
        unfold lastC at hd
        rw [e2, e, cnt_more (hm _ _) hx, cnt_new (hm _ _) hx, hd.1, hd.2]
        exact ⟨rfl, rfl⟩
      · rw [if_neg h2, cnt_both (hm _ _) hx, cnt_both (hm _ _) hx]
        have := turnC n k (chs n (k + 1) + chs n k - 1 - (a + 1)) (by omega)
        rw [show chs n (k + 1) + chs n k - 1 - (a + 1) + 1 = chs n (k + 1) + chs n k - 1 - a by omega] at this
        exact ⟨this.2, this.1⟩
theorem turnC_last (n k : Nat) (h : k + 1 ≤ n) : cnt (lastC (n + 1) (k + 1)) (pL chs (n + 1) (k + 1) 0) = 1 ∧ cnt (pL chs (n + 1) (k + 1) 0) (lastC (n + 1) (k + 1)) = 1 := by
  rw [lastC_step (by omega), pLc_first (n + 1) (k + 1) (by omega)]
  have h1 : AtMost (n : Int) (seqL (k + 1)) := fun x hx => by have := seqL_most (k + 1) x hx; omega
  have h2 := seqL_most k
  have hx : (n : Int) < ((n + 1 : Nat) : Int) := by omega
  rw [cnt_new h1 hx, (seq_diff k).1, cnt_more h1 hx, (seq_diff k).2]
  exact ⟨rfl, rfl⟩
/-- The position of the choice at a position. -/
theorem choice_back : ∀ n k a, a < chs n k → (pL chs n k a).length = k ∧ plF chs (pL chs n k a) k = a
  | n, 0, a, h => by
    rw [chs_zero] at h
    rw [pLc_zero n a h]
    exact ⟨rfl, by rw [plF]; omega⟩
  | 0, k + 1, a, h => by rw [chs] at h; omega
  | n + 1, k + 1, a, h => by
    rw [chs] at h
    rw [pLc_step]
    by_cases h1 : a < chs n (k + 1)
    · rw [if_pos h1]; exact choice_back n (k + 1) a h1
    · rw [if_neg h1]
      obtain ⟨hl, hp⟩ := choice_back n k (chs n (k + 1) + chs n k - 1 - a) (by omega)
      have hs := plF_snoc (L := chs) (pL chs n k (chs n (k + 1) + chs n k - 1 - a)) (n + 1)
      rw [hl] at hs
      rw [List.length_append, hl, List.length_singleton]
      refine ⟨rfl, ?_⟩
      rw [hs, hp, chs]
      omega
end Go.Proofs.Ytfeohcknopdamaa
/- Layer 10: TurnsChoiceSteps. -/
namespace Go.Proofs.Ytfeohcknopdamaa
open Go.RowKit
set_option linter.unusedVariables false

theorem choice_ok (N K a : Nat) (V : World) (hN : N ≤ 40) (hK : K ≤ N) (ha : a < chs N K) : Calls Try.prog 24 #[.int .i64 (N : Int), .int .i64 (K : Int), .int .i64 (a : Int)] V fun e w' =>
    (∃ A c, e = .returned (.tuple #[.slice A K c, .int .i64 0]) ∧ Sl w' A K c (pL chs N K a)) ∧ Below V.heap.size V w' := by
  refine (choiceP_any N K a V).mono ?_
  rintro e w' hh
  have h : ((in40 (N : Int) && upB (K : Int) (N : Int)) && posB (a : Int) ((chs (N : Int).toNat (K : Int).toNat : Nat) : Int)) = true := by
    rw [Int.toNat_natCast, Int.toNat_natCast, in40, upB, posB, decide_eq_true (by omega), decide_eq_true (by omega), decide_eq_true (by omega), decide_eq_true (by omega), decide_eq_true (by omega), decide_eq_true (by omega)]; rfl
  rw [if_pos h, Int.toNat_natCast, Int.toNat_natCast, Int.toNat_natCast] at hh
  obtain ⟨⟨v, rfl, hv⟩, hb⟩ := hh
  obtain ⟨A, c, rfl, hs⟩ := hv.sl (by have := pL_len chs N K a; omega)
  have hl := (choice_back N K a ha).1
  rw [hl] at hs ⊢
  exact ⟨⟨A, c, rfl, hs⟩, hb⟩
set_option maxRecDepth 100000 in
set_option maxHeartbeats 6400000 in
theorem choiceSteps_walk (n0 k0 a0 : Int) (w : World) :
    Calls Try.prog 9 #[.int .i64 n0, .int .i64 k0, .int .i64 a0] w fun e w' => e = .returned (.bool true) ∧ Below w.heap.size w w' := by
  go_enter Try.func9, Try.ntmps9
  go_upto_region 2 with (go_at_call 52; refine (mod_big n0 39 _ (by omega) (by omega)).mono ?_; rintro e w1 ⟨⟨r, rfl, hr⟩, rfl⟩)
  obtain ⟨N, hN⟩ : ∃ N : Nat, N = r + 2 := ⟨_, rfl⟩
  rw [show 2 + (r : Int) = (N : Int) by omega]
  have hN1 : 2 ≤ N := by omega
  have hN40 : N ≤ 40 := by omega
  clear hN hr
  obtain ⟨N1, hN1'⟩ : ∃ N1, N = N1 + 1 := ⟨N - 1, by omega⟩
  have V1 : Hid (IntKind.i64.wrap ((N : Int) - 1) = (N1 : Int)) := by rw [Hid, show (N : Int) - 1 = (N1 : Int) by omega]; exact IntWalk.i64_in _ (by omega)
  have v1 := V1.out
  have HMB := Lib.hid (mod_big k0 N1 w (by omega) (by omega))
  have HN1 := Lib.hid hN1'
  have hN139 : N1 ≤ 39 := by omega
  clear hN1'
  go_upto_region 3 with (go_at_call 52; (with_reducible refine HMB.out.mono ?_); rintro e w1 ⟨⟨r2, rfl, hr2⟩, rfl⟩)
  clear v1 V1
  have hN1' := HN1.out
  clear HN1
  obtain ⟨K, hK⟩ : ∃ K : Nat, K = r2 + 1 := ⟨_, rfl⟩
  rw [show 1 + (r2 : Int) = (K : Int) by omega]
  obtain ⟨K1, hK1⟩ : ∃ K1, K = K1 + 1 := ⟨r2, hK⟩
  have hKN : K ≤ N1 := by omega
  clear hK hr2 HMB
  have hq2 : 2 ≤ chs N K := by
    have h1 := chs_pos N1 K hKN
    have h2 := chs_pos N1 K1 (by omega)
    rw [hN1', hK1, chs, ← hK1]; omega
  have hq := Nat.le_trans (chs_le N K) (two_le hN40)
  have HM1 := Lib.hid (fun V => many_ok N K V hN40 (by omega))
  have HCO := Lib.hid (fun V a (ha : a < chs N K) => choice_ok N K a V hN40 (by omega) ha)
  have HCB := Lib.hid (fun a (ha : a < chs N K) => choice_back N K a ha)
  have HTU := Lib.hid (fun a (ha : a + 1 < chs N K) => turnC N K a ha)
  have HTL : Hid (cnt (pL chs N K (chs N K - 1)) (pL chs N K 0) = 1 ∧ cnt (pL chs N K 0) (pL chs N K (chs N K - 1)) = 1) := by
    rw [hN1', hK1]; exact turnC_last N1 K1 (by omega)
  obtain ⟨q, hqe⟩ : ∃ q, q = chs N K := ⟨_, rfl⟩
  rw [← hqe] at hq2 hq HM1 HCO HCB HTU HTL
  have hK40 : K ≤ 40 := by omega
  clear hqe hN1' hK1 hKN hN1
  have d2 : decide ((q : Int) < 2) = false := decide_eq_false (by omega)
  have d3 : decide (q < 2) = false := decide_eq_false (by omega)
  have d4 : ¬ q < 2 := by omega
  have HMA := Lib.hid (fun V => mod_big a0 q V (by omega) (by omega))
  have HALL : Hid (∀ a, a < q → ∃ (a2 : Nat) (zs1 zs2 : List Int), ((a : Int) + 1).tmod (q : Int) = (a2 : Int) ∧ ((a : Int) + 1) % (q : Int) = (a2 : Int) ∧ wrap64 (a2 : Int) = (a2 : Int) ∧
      Hid (∀ V, Calls Try.prog 24 #[.int .i64 (N : Int), .int .i64 (K : Int), .int .i64 (a : Int)] V fun e w' => (∃ A c, e = .returned (.tuple #[.slice A K c, .int .i64 0]) ∧ Sl w' A K c zs1) ∧ Below V.heap.size V w') ∧
      Hid (∀ V, Calls Try.prog 24 #[.int .i64 (N : Int), .int .i64 (K : Int), .int .i64 (a2 : Int)] V fun e w' => (∃ A c, e = .returned (.tuple #[.slice A K c, .int .i64 0]) ∧ Sl w' A K c zs2) ∧ Below V.heap.size V w') ∧
      Hid (setB (N : Int) zs1 = true) ∧ Hid (setB (N : Int) zs2 = true) ∧ Hid (plF chs zs1 K = a) ∧ Hid (cnt zs1 zs2 = 1 ∧ cnt zs2 zs1 = 1)) := by
    intro a ha
    obtain ⟨a2, ha2⟩ : ∃ a2, a2 = (a + 1) % q := ⟨_, rfl⟩
    have ha2l : a2 < q := by rw [ha2]; exact Nat.mod_lt _ (by omega)
    refine ⟨a2, pL chs N K a, pL chs N K a2, ?_, ?_, IntWalk.wrap64_in _ ⟨by omega, by omega⟩, fun V => HCO.out V a ha, fun V => HCO.out V a2 ha2l, pL_set chs N K a, pL_set chs N K a2, (HCB.out a ha).2, ?_⟩
    · rw [Int.tmod_eq_emod_of_nonneg (by omega), show (a : Int) + 1 = ((a + 1 : Nat) : Int) from rfl, ← Int.natCast_emod, ha2]
    · rw [show (a : Int) + 1 = ((a + 1 : Nat) : Int) from rfl, ← Int.natCast_emod, ha2]
    · by_cases h1 : a + 1 < q
      · have e : a2 = a + 1 := by rw [ha2, Nat.mod_eq_of_lt h1]
        rw [Hid, e]
        exact HTU.out a h1
      · have e0 : a + 1 = q := by omega
        have e : a2 = 0 := by rw [ha2, e0, Nat.mod_self]
        rw [Hid, e, show a = q - 1 by omega]
        exact HTL.out
  clear HCO HCB HTU HTL hq2
  go_wp2_with (first
    | (go_at_call 26; (with_reducible refine (HM1.out _).mono ?_); rintro e w1 ⟨rfl, hb⟩; have HB1 := Lib.hid hb; clear hb)
    | (go_at_call 52; (with_reducible refine (HMA.out _).mono ?_); rintro e w1' ⟨⟨a, rfl, ha⟩, rfl⟩; obtain ⟨a2, zs1, zs2, d1, d2', d3', HST1, HST2, HSB1, HSB2, HBK, HCN⟩ := HALL.out a ha)
    | (go_at_call 24; (with_reducible refine (HST1.out _).mono ?_); rintro e w2 ⟨⟨A1, c1, rfl, hs⟩, hb⟩; have HS1 := Lib.hid hs; have HB2 := Lib.hid (HB1.out.trans (hb.mono HB1.out.size)); clear hs hb)
    | (go_at_call 24; (with_reducible refine (HST2.out w2).mono ?_); rintro e w3 ⟨⟨A2, c2, rfl, hs⟩, hb⟩; have HS2 := Lib.hid hs; have HT1 := Lib.hid (HS1.out.below hb (Nat.le_refl _)); have HB3 := Lib.hid (HB2.out.trans (hb.mono HB2.out.size)); have HAT := Lib.hid (choiceAt_ok N zs1 A1 K c1 w3 hN40 HT1.out HSB1.out); clear hs hb)
    | (go_at_call 25; (with_reducible refine HAT.out.mono ?_); rintro e w4 ⟨rfl, hb⟩; rw [HBK.out]; have HU1 := Lib.hid (HT1.out.below hb (Nat.le_refl _)); have HU2 := Lib.hid (HS2.out.below hb (Nat.le_refl _)); have HB4 := Lib.hid (HB3.out.trans (hb.mono HB3.out.size)); have HRS1 := Lib.hid (fun V (hs : Sl V A1 K c1 zs1) => setsR_any zs1 (N : Int) A1 K c1 V hs); have HRS2 := Lib.hid (fun V (hs : Sl V A2 K c2 zs2) => setsR_any zs2 (N : Int) A2 K c2 V hs); rw [HSB1.out] at HRS1; rw [HSB2.out] at HRS2; clear hb)
    | (go_at_call 22; (with_reducible refine (HRS1.out _ HU1.out).mono ?_); rintro e w5 ⟨rfl, hd⟩; have HB5 := Lib.hid (HB4.out.trans ((hd.below w4.heap.size).mono HB4.out.size)); have HX1 := Lib.hid (HU1.out.dr hd); have HX2 := Lib.hid (HU2.out.dr hd); clear hd)
    | (go_at_call 22; (with_reducible refine (HRS2.out w5 HX2.out).mono ?_); rintro e w6 ⟨rfl, hd⟩; have HB6 := Lib.hid (HB5.out.trans ((hd.below w5.heap.size).mono HB5.out.size)); have HY1 := Lib.hid (HX1.out.dr hd); have HY2 := Lib.hid (HX2.out.dr hd); have HDF := Lib.hid (differ_any zs1 zs2 A1 A2 K K c1 c2 w6 HY1.out HY2.out (asc_of HSB1.out) (asc_of HSB2.out)); rw [HCN.out.1, HCN.out.2] at HDF; clear hd)
    | (go_at_call 53; (with_reducible refine HDF.out.mono ?_); rintro e w7 ⟨rfl, hd⟩; have HB7 := Lib.hid (HB6.out.trans ((hd.below w6.heap.size).mono HB6.out.size)); clear hd)
    | (go_at_call 19; (with_reducible refine (awake_here _).mono ?_); rintro e w8 ⟨rfl, hb⟩; have HB8 := Lib.hid (HB7.out.trans (hb.mono HB7.out.size)); clear hb))
  go_ret
  exact ⟨rfl, HB8.out⟩
end Go.Proofs.Ytfeohcknopdamaa
