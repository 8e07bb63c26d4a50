import Derived.Test.YtfeohcknopdamaaT08
/- Layer 10: the reference's Set, Sets, SetAt. -/
namespace Go.Proofs.Ytfeohcknopdamaa
open Go.RowKit
set_option linter.unusedVariables false

theorem pL_exp {n : Nat} : ∀ s t a, pL expL n s a = pL expL n t a := by
  induction n with
  | zero => intro s t a; rfl
  | succ n ih =>
    intro s t a
    rw [pL, pL]
    show (if a < 2 ^ n then _ else _) = (if a < 2 ^ n then _ else _)
    split
    · exact ih s t a
    · rw [show expL (n + 1) s = expL (n + 1) t from rfl, ih (s - 1) (t - 1)]
set_option maxHeartbeats 1600000 in
theorem setR_any : ∀ (n s a : Nat) (w : World), n ≤ 40 → a < 2 ^ n →
    Calls Try.prog 21 #[.int .i64 (n : Int), .int .i64 (a : Int)] w fun e w' => (∃ v, e = .returned v ∧ Ow w' w.heap.size 3 v (pL expL n s a)) ∧ Below w.heap.size w w'
  | 0, s, a, w, _, _ => by
    rw [pL]
    go_enter Try.func21, Try.ntmps21
    go_wp2
    go_ret
    exact ⟨⟨_, rfl, Ow.nil _ _ _⟩, Below.refl _ _⟩
  | n + 1, s, a, w, hn, ha => by
    have hsh := shl_nat n (by omega)
    have h2 := two_le (n := n) (by omega)
    have hps : pL expL (n + 1) s a = if a < 2 ^ n then pL expL n s a else pL expL n (s - 1) (2 * 2 ^ n - 1 - a) ++ [((n + 1 : Nat) : Int)] := by
      rw [pL, show expL (n + 1) s = 2 * 2 ^ n from by rw [expL, Nat.pow_succ, Nat.mul_comm]]; rfl
    rw [Nat.pow_succ] at ha
    by_cases hlt : a < 2 ^ n
    · rw [if_pos hlt] at hps
      rw [hps]
      have HR := Lib.hid (setR_any n s a w (by omega) hlt)
      clear hps
      generalize 2 ^ n = q at *
      have d0 : decide ((a : Int) < (q : Int)) = true := decide_eq_true (by omega)
      go_enter Try.func21, Try.ntmps21
      go_wp2_with (go_at_call 21; (with_reducible refine HR.out.mono ?_); rintro e w1 ⟨⟨v, rfl, hv⟩, hbw⟩; have HV := Lib.hid hv; have HBW := Lib.hid hbw; clear hv hbw)
      go_ret
      exact ⟨⟨v, rfl, HV.out⟩, HBW.out⟩
    · rw [if_neg hlt] at hps
      obtain ⟨i0, hi0, hz0, hz1, hz2⟩ := info_parts Try.infoInt
      have HI0 : Hid (Try.prog.info? 3 = some i0 ∧ i0.zero = some (.int .i64 0) ∧ i0.size = 1 ∧ i0.bytes = 8) := ⟨hi0, hz0, hz1, hz2⟩
      have HR := Lib.hid (setR_any n (s - 1) (2 * 2 ^ n - 1 - a) w (by omega) (by omega))
      have HLN : Hid ((pL expL n (s - 1) (2 * 2 ^ n - 1 - a)).length ≤ 1099511627776) := by
        have := pL_len expL n (s - 1) (2 * 2 ^ n - 1 - a)
        rw [Hid]; omega
      rw [hps]
      clear hps hi0 hz0 hz1 hz2
      generalize pL expL n (s - 1) (2 * 2 ^ n - 1 - a) = zs at *
      generalize 2 ^ n = q at *
      have d0 : decide ((a : Int) < (q : Int)) = false := decide_eq_false (by omega)
      rw [show ((2 * q - 1 - a : Nat) : Int) = 2 * (q : Int) - 1 - (a : Int) by omega] at HR
      have v1 : IntKind.i64.wrap (2 * (q : Int)) = 2 * (q : Int) := IntWalk.i64_in _ (by omega)
      have v2 : IntKind.i64.wrap (2 * (q : Int) - 1) = 2 * (q : Int) - 1 := IntWalk.i64_in _ (by omega)
      have v3 : IntKind.i64.wrap (2 * (q : Int) - 1 - (a : Int)) = 2 * (q : Int) - 1 - (a : Int) := IntWalk.i64_in _ (by omega)
      go_enter Try.func21, Try.ntmps21
      go_wp2_with (first | (go_at_call 21; (with_reducible refine HR.out.mono ?_); rintro e w1 ⟨⟨v, rfl, hv⟩, hbw⟩; have HV := Lib.hid hv; have HBW := Lib.hid hbw; clear hv hbw) | (at_builtin; go_must (refine push_law _ rfl (.tmp 25) (.tmp 27) 22 rfl w.heap.size 3 i0 Try.underlying22 HI0.out _ zs ((n : Int) + 1) rfl rfl HV.out HLN.out HBW.out.size ?_); intro v2 w2 hv2 hg2 _; have HV2 := Lib.hid hv2; have HB2 := Lib.hid (HBW.out.grown hg2 HBW.out.size (fun k e => (HV.out.lt e).1)); clear hv2 hg2))
      go_ret
      exact ⟨⟨v2, rfl, HV2.out⟩, HB2.out⟩
/-- What Sets asks of a number. -/
def refB (n : Int) (zs : List Int) (j : Nat) : Bool := (decide (1 ≤ atI zs j) && decide (atI zs j ≤ n)) && (decide (j = 0) || decide (atI zs (j - 1) < atI zs j))
theorem sets_eq (n : Int) (zs : List Int) : allB (refB n zs) zs.length = setB n zs := by
  rw [Bool.eq_iff_iff]
  constructor
  · intro h
    refine allB_iff.2 fun j hj => ?_
    have h1 := allB_iff.1 h j hj
    unfold refB at h1
    rw [oneB, Bool.and_eq_true, decide_eq_true_iff, decide_eq_true_iff]
    rw [Bool.and_eq_true, Bool.and_eq_true, Bool.or_eq_true, decide_eq_true_iff, decide_eq_true_iff, decide_eq_true_iff, decide_eq_true_iff] at h1
    unfold prevI
    split
    · omega
    · omega
  · intro h
    refine allB_iff.2 fun j hj => ?_
    have h1 := setB_at h hj
    have h2 := setB_ge h j hj
    unfold refB
    rw [Bool.and_eq_true, Bool.and_eq_true, Bool.or_eq_true, decide_eq_true_iff, decide_eq_true_iff, decide_eq_true_iff, decide_eq_true_iff]
    refine ⟨⟨by omega, h1.2⟩, ?_⟩
    by_cases e : j = 0
    · exact .inl e
    · right
      rw [prevI, if_neg e] at h1
      omega
set_option maxRecDepth 100000 in
set_option maxHeartbeats 3200000 in
theorem setsR_any (zs : List Int) (n : Int) (A : Option Addr) (m c : Nat) (w : World) (h : Sl w A m c zs) :
    Calls Try.prog 22 #[.int .i64 n, .slice A m c] w fun e w' => e = .returned (.bool (setB n zs)) ∧ Dr w w' := by
  have hbig := h.big
  have HL : Hid (zs.length = m) := h.len
  have HS := Lib.hid (fun V (hV : Dr w V) => h.below (hV.below w.heap.size) (Nat.le_refl _))
  have HBAD : Hid (∀ k, k < m → refB n zs k = false → false = setB n zs) := fun k hk h => by
    rw [← sets_eq]; exact allB_bad (p := refB n zs) (by rw [HL.out]; exact hk) h
  have HGOOD : Hid ((∀ k, k < m → refB n zs k = true) → true = setB n zs) := fun h => by
    rw [← sets_eq]; exact allB_good (p := refB n zs) (by rw [HL.out]; exact h)
  clear h
  go_enter Try.func22, Try.ntmps22
  go_wp2
  go_loopw [5] (fun i w' => ∃ k : Nat, k ≤ m ∧ i = .int .i64 (k : Int) ∧ Hid (∀ j, j < k → refB n zs j = true) ∧ Hid (Dr w w')) (fun i _ => m - (intOf i).toNat)
  case atStart => exact ⟨0, Nat.zero_le _, by go_num, fun j hj => absurd hj (Nat.not_lt_zero _), Dr.refl _⟩
  case round =>
    obtain ⟨k, hk, rfl, HK, HD⟩ := hrel
    obtain ⟨wo, rfl⟩ : ∃ wo : World, wo = wr := ⟨_, rfl⟩
    by_cases hlt : k < m
    · have i1 : (k : Int) < (m : Int) := by omega
      have HBK := Lib.hid (HBAD.out k hlt)
      have HKS : Hid (refB n zs k = true → ∀ j, j < k + 1 → refB n zs j = true) := fun h j hj => by
        by_cases e : j = k
        · rw [e]; exact h
        · exact HK.out j (by omega)
      have hdef : refB n zs k = ((decide (1 ≤ atI zs k) && decide (atI zs k ≤ n)) && (decide (k = 0) || decide (atI zs (k - 1) < atI zs k))) := rfl
      obtain ⟨b, off, rfl, hcell⟩ := (HS.out wo HD.out).at_ hlt
      rw [show zs[k]?.getD 0 = atI zs k from rfl] at hcell
      have hprev : 0 < k → wo.cell? ⟨b, off + (k - 1), none⟩ = some (.int .i64 (atI zs (k - 1))) := fun h0 => by
        obtain ⟨b', off', e, hc⟩ := (HS.out wo HD.out).at_ (k := k - 1) (by omega)
        cases e
        exact hc
      generalize atI zs (k - 1) = y at *
      generalize atI zs k = z at *
      by_cases h1 : z < 1
      · have HX := Lib.hid (HBK.out (by rw [hdef, decide_eq_false (show ¬ 1 ≤ z by omega)]; simp))
        have d1 : decide (z < 1) = true := decide_eq_true h1
        clear hdef HBK HKS hprev
        go_wp2
        go_quiet (fail)
        go_wp2
        go_ret
        exact ⟨bend HX.out, HD.out.more _⟩
      · have d1 : decide (z < 1) = false := decide_eq_false h1
        by_cases h2 : n < z
        · have HX := Lib.hid (HBK.out (by rw [hdef, decide_eq_false (show ¬ z ≤ n by omega)]; simp))
          have d2 : decide (z > n) = true := decide_eq_true h2
          have d2' : decide (n < z) = true := decide_eq_true h2
          clear hdef HBK HKS hprev
          go_wp2
          go_quiet (fail)
          go_wp2
          go_ret
          exact ⟨bend HX.out, HD.out.more _⟩
        · have d2 : decide (z > n) = false := decide_eq_false h2
          have d2' : decide (n < z) = false := decide_eq_false h2
          rcases Nat.eq_zero_or_pos k with rfl | hk0
          · have HX := Lib.hid (HKS.out (by rw [hdef, decide_eq_true (show 1 ≤ z by omega), decide_eq_true (show z ≤ n by omega)]; rfl))
            clear hdef HBK HKS hprev
            rw [Nat.add_zero] at hcell
            have d3 : decide ((0 : Int) > 0) = false := by decide
            go_wp2
            go_quiet (fail)
            go_wp2
            exact ⟨⟨1, by omega, by go_num, HX.out, HD.out.more _⟩, by simp [intOf]; omega⟩
          · obtain ⟨p, rfl⟩ : ∃ p, k = p + 1 := ⟨k - 1, by omega⟩
            have hp := hprev hk0
            rw [Nat.add_sub_cancel] at hp
            have v1 : IntKind.i64.wrap (((p + 1 : Nat) : Int) - 1) = (p : Int) := by rw [show ((p + 1 : Nat) : Int) - 1 = (p : Int) by omega]; exact IntWalk.i64_in _ (by omega)
            have v2 : IntKind.i64.wrap (p : Int) = (p : Int) := IntWalk.i64_in _ (by omega)
            have d3 : decide (((p + 1 : Nat) : Int) > 0) = true := decide_eq_true (by omega)
            have d3' : decide (0 < (p : Int) + 1) = true := decide_eq_true (by omega)
            have d3'' : decide (0 < p + 1) = true := decide_eq_true (by omega)
            have f1 : (p : Int) < (m : Int) := by omega
            have f2 : (p : Int) + 1 < (m : Int) := by omega
            by_cases h3 : y < z
            · have HX := Lib.hid (HKS.out (by rw [hdef, decide_eq_true (show 1 ≤ z by omega), decide_eq_true (show z ≤ n by omega), decide_eq_true h3]; simp))
              have d4 : decide (y ≥ z) = false := decide_eq_false (by omega)
              have d4' : decide (z ≤ y) = false := decide_eq_false (by omega)
              clear hdef HBK HKS hprev
              go_wp2
              go_quiet (fail)
              go_wp2
              exact ⟨⟨p + 1 + 1, by omega, by go_num, HX.out, HD.out.more _⟩, by simp [intOf]; omega⟩
            · have HX := Lib.hid (HBK.out (by rw [hdef, decide_eq_false h3, decide_eq_false (show ¬ p + 1 = 0 by omega)]; simp))
              have d4 : decide (y ≥ z) = true := decide_eq_true (by omega)
              have d4' : decide (z ≤ y) = true := decide_eq_true (by omega)
              clear hdef HBK HKS hprev
              go_wp2
              go_quiet (fail)
              go_wp2
              go_ret
              exact ⟨bend HX.out, HD.out.more _⟩
    · have hkn : k = m := by omega
      have HX := Lib.hid (HGOOD.out (by rw [← hkn]; exact HK.out))
      have i1 : ¬ (k : Int) < (m : Int) := by omega
      clear hkn
      go_wp2
      go_ret
      exact ⟨bend HX.out, HD.out⟩
end Go.Proofs.Ytfeohcknopdamaa
