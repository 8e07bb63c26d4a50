import Derived.Test.YtfeohcknopdamaaT10
/- Layer 10: the reference's Choice and ChoiceAt. -/
namespace Go.Proofs.Ytfeohcknopdamaa
open Go.RowKit
set_option linter.unusedVariables false

theorem pL_none : ∀ n, pL chs n 0 0 = []
  | 0 => rfl
  | n + 1 => by rw [pL, chs_zero, if_pos (by omega)]; exact pL_none n
set_option maxRecDepth 100000 in
set_option maxHeartbeats 3200000 in
theorem choiceR_any : ∀ (n s a : Nat) (w : World), n ≤ 40 → s ≤ n → a < chs n s →
    Calls Try.prog 28 #[.int .i64 (n : Int), .int .i64 (s : Int), .int .i64 (a : Int)] w fun e w' => (∃ v, e = .returned v ∧ Ow w' w.heap.size 3 v (pL chs n s a)) ∧ Below w.heap.size w w'
  | 0, s, a, w, _, hs, _ => by
    rw [pL]
    go_enter Try.func28, Try.ntmps28
    go_wp2
    go_ret
    exact ⟨⟨_, rfl, Ow.nil _ _ _⟩, Below.refl _ _⟩
  | n + 1, s, a, w, hn, hs, ha => by
    obtain ⟨i0, hi0, hz0, hz1, hz2⟩ := info_parts Try.infoInt
    have HI0 : Hid (Try.prog.info? 3 = some i0 ∧ i0.zero = some (.int .i64 0) ∧ i0.size = 1 ∧ i0.bytes = 8) := ⟨hi0, hz0, hz1, hz2⟩
    clear hi0 hz0 hz1 hz2
    by_cases h1 : s = n + 1
    · subst h1
      rw [chs_self] at ha
      obtain rfl : a = 0 := by omega
      have hps : pL chs (n + 1) (n + 1) 0 = pL chs n n 0 ++ [((n + 1 : Nat) : Int)] := by
        rw [pL, chs_over n (n + 1) (by omega), if_neg (by omega), chs_self]; rfl
      have HR : Hid (Calls Try.prog 28 #[.int .i64 (n : Int), .int .i64 (n : Int), .int .i64 0] w fun e w' => (∃ v, e = .returned v ∧ Ow w' w.heap.size 3 v (pL chs n n 0)) ∧ Below w.heap.size w w') := choiceR_any n n 0 w (by omega) (Nat.le_refl _) (by rw [chs_self]; omega)
      have HLN : Hid ((pL chs n n 0).length ≤ 1099511627776) := by have := pL_len chs n n 0; rw [Hid]; omega
      rw [hps]
      clear hps ha
      generalize pL chs n n 0 = zs at *
      go_enter Try.func28, Try.ntmps28
      go_wp2_with (first | (go_at_call 28; (with_reducible refine HR.out.mono ?_); rintro e w1 ⟨⟨v, rfl, hv⟩, hbw⟩; have HV := Lib.hid hv; have HBW := Lib.hid hbw; clear hv hbw) | (at_builtin; go_must (refine push_law _ rfl (.tmp 17) (.tmp 19) 22 rfl w.heap.size 3 i0 Try.underlying22 HI0.out _ zs ((n : Int) + 1) rfl rfl HV.out HLN.out HBW.out.size ?_); intro v2 w2 hv2 hg2 _; have HV2 := Lib.hid hv2; have HB2 := Lib.hid (HBW.out.grown hg2 HBW.out.size (fun k e => (HV.out.lt e).1)); clear hv2 hg2))
      go_ret
      exact ⟨⟨v2, rfl, HV2.out⟩, HB2.out⟩
    · have e1 : ((s : Int) == (n : Int) + 1) = false := by rw [beq_eq_false_iff_ne]; omega
      rcases s with _ | s
      · rw [chs_zero] at ha
        obtain rfl : a = 0 := by omega
        rw [pL_none]
        clear ha
        go_enter Try.func28, Try.ntmps28
        go_wp2
        go_ret
        exact ⟨⟨_, rfl, Ow.nil _ _ _⟩, Below.refl _ _⟩
      · have hm := Nat.le_trans (chs_le n (s + 1)) (two_le (by omega))
        have hm2 := Nat.le_trans (chs_le (n + 1) (s + 1)) (two_le hn)
        have HM1 : Hid (∀ V, Calls Try.prog 27 #[.int .i64 (n : Int), .int .i64 ((s : Int) + 1)] V fun e w' => e = .returned (.int .i64 ((chs n (s + 1) : Nat) : Int)) ∧ Below V.heap.size V w') := fun V => manyR_any n (s + 1) V (by omega) (by omega)
        have hps : pL chs (n + 1) (s + 1) a = if a < chs n (s + 1) then pL chs n (s + 1) a else pL chs n s (chs (n + 1) (s + 1) - 1 - a) ++ [((n + 1 : Nat) : Int)] := rfl
        by_cases hlt : a < chs n (s + 1)
        · rw [if_pos hlt] at hps
          have HR : Hid (∀ V, Calls Try.prog 28 #[.int .i64 (n : Int), .int .i64 ((s : Int) + 1), .int .i64 (a : Int)] V fun e w' => (∃ v, e = .returned v ∧ Ow w' V.heap.size 3 v (pL chs n (s + 1) a)) ∧ Below V.heap.size V w') := fun V => choiceR_any n (s + 1) a V (by omega) (by omega) hlt
          rw [hps]
          clear hps ha hm2
          generalize chs n (s + 1) = q at *
          have d0 : decide ((a : Int) < (q : Int)) = true := decide_eq_true (by omega)
          go_enter Try.func28, Try.ntmps28
          go_wp2_with (first | (go_at_call 27; (with_reducible refine (HM1.out _).mono ?_); rintro e w1 ⟨rfl, hb⟩; have HB1 := Lib.hid hb; clear hb) | (go_at_call 28; (with_reducible refine (HR.out _).mono ?_); rintro e w2 ⟨⟨v, rfl, hv⟩, hbw⟩; have HV := Lib.hid (Ow.base hv HB1.out.size); have HBW := Lib.hid (HB1.out.trans (hbw.mono HB1.out.size)); clear hv hbw))
          go_ret
          exact ⟨⟨v, rfl, HV.out⟩, HBW.out⟩
        · rw [if_neg hlt] at hps
          obtain ⟨a2, ha2⟩ : ∃ a2, a2 = chs (n + 1) (s + 1) - 1 - a := ⟨_, rfl⟩
          have ha3 : a2 < chs n s := by rw [chs] at ha ha2; omega
          rw [← ha2] at hps
          have HM2 : Hid (∀ V, Calls Try.prog 27 #[.int .i64 ((n : Int) + 1), .int .i64 ((s : Int) + 1)] V fun e w' => e = .returned (.int .i64 ((chs (n + 1) (s + 1) : Nat) : Int)) ∧ Below V.heap.size V w') := fun V => manyR_any (n + 1) (s + 1) V hn (by omega)
          have HR : Hid (∀ V, Calls Try.prog 28 #[.int .i64 (n : Int), .int .i64 (s : Int), .int .i64 (a2 : Int)] V fun e w' => (∃ v, e = .returned v ∧ Ow w' V.heap.size 3 v (pL chs n s a2)) ∧ Below V.heap.size V w') := fun V => choiceR_any n s a2 V (by omega) (by omega) ha3
          have HLN : Hid ((pL chs n s a2).length ≤ 1099511627776) := by have := pL_len chs n s a2; rw [Hid]; omega
          rw [hps]
          clear hps ha3
          generalize pL chs n s a2 = zs at *
          generalize chs n (s + 1) = q at *
          generalize chs (n + 1) (s + 1) = q2 at *
          have d0 : decide ((a : Int) < (q : Int)) = false := decide_eq_false (by omega)
          have d1 : decide (a < q) = false := decide_eq_false hlt
          have V1 : Hid (IntKind.i64.wrap ((q2 : Int) - 1) = (q2 : Int) - 1) := IntWalk.i64_in _ (by omega)
          have V2 : Hid (IntKind.i64.wrap ((q2 : Int) - 1 - (a : Int)) = (a2 : Int)) := by rw [Hid, show (q2 : Int) - 1 - (a : Int) = (a2 : Int) by omega]; exact IntWalk.i64_in _ (by omega)
          have v1 := V1.out
          have v2 := V2.out
          clear ha2 ha
          go_enter Try.func28, Try.ntmps28
          go_wp2_with (first | (go_at_call 27; (with_reducible refine (HM1.out _).mono ?_); rintro e w1 ⟨rfl, hb⟩; have HB1 := Lib.hid hb; clear hb) | (go_at_call 27; (with_reducible refine (HM2.out _).mono ?_); rintro e w2 ⟨rfl, hb⟩; have HB2 := Lib.hid (HB1.out.trans (hb.mono HB1.out.size)); clear hb) | (go_at_call 28; (with_reducible refine (HR.out _).mono ?_); rintro e w3 ⟨⟨v, rfl, hv⟩, hbw⟩; have HV := Lib.hid (Ow.base hv HB2.out.size); have HBW := Lib.hid (HB2.out.trans (hbw.mono HB2.out.size)); clear hv hbw) | (at_builtin; go_must (refine push_law _ rfl (.tmp 45) (.tmp 47) 22 rfl w.heap.size 3 i0 Try.underlying22 HI0.out _ zs ((n : Int) + 1) rfl rfl HV.out HLN.out HBW.out.size ?_); intro v4 w4 hv4 hg4 _; have HV4 := Lib.hid hv4; have HB4 := Lib.hid (HBW.out.grown hg4 HBW.out.size (fun k e => (HV.out.lt e).1)); clear hv4 hg4))
          go_ret
          exact ⟨⟨v4, rfl, HV4.out⟩, HB4.out⟩
end Go.Proofs.Ytfeohcknopdamaa
/- Layer 10: the reference's Choice and ChoiceAt. -/
namespace Go.Proofs.Ytfeohcknopdamaa
open Go.RowKit
set_option linter.unusedVariables false

/-- The set of all numbers has the position 0. -/
theorem plC_all : ∀ (n : Nat) (zs : List Int), setB (n : Int) zs = true → zs.length = n → plF chs zs n = 0
  | 0, _, _, _ => rfl
  | n + 1, zs, h, hl => by
    have hat : ∀ j, j < zs.length → atI zs j = ((j + 1 : Nat) : Int) := fun j hj => by
      have h1 := setB_ge h j hj
      rcases Nat.lt_or_ge (j + 1) zs.length with h5 | h5
      · have h2 := setB_lt h (zs.length - 1 - j - 1) j (by omega)
        have h3 := setB_ge h (zs.length - 1) (by omega)
        have h4 := (setB_at h (j := zs.length - 1) (by omega)).2
        have hb : ∀ d, d < zs.length → atI zs (zs.length - 1 - d) ≤ ((zs.length - d : Nat) : Int) := fun d => by
          induction d with
          | zero => intro _; rw [Nat.sub_zero]; omega
          | succ d ih =>
            intro hd
            have h6 := ih (by omega)
            have h7 := setB_lt h 0 (zs.length - 1 - (d + 1)) (by omega)
            rw [show zs.length - 1 - (d + 1) + 0 + 1 = zs.length - 1 - d by omega] at h7
            omega
        have h8 := hb (zs.length - 1 - j) (by omega)
        rw [show zs.length - 1 - (zs.length - 1 - j) = j by omega] at h8
        omega
      · have h4 := (setB_at h hj).2
        omega
    have hk : ∀ k, k ≤ zs.length → plF chs zs k = 0 := fun k => by
      induction k with
      | zero => intro _; rfl
      | succ k ih =>
        intro hk
        rw [plF, hat k (by omega), Int.toNat_natCast, chs_self, ih (by omega)]
    exact hk (n + 1) (by omega)
set_option maxRecDepth 100000 in
set_option maxHeartbeats 3200000 in
theorem choiceAtR_any : ∀ (n : Nat) (zs : List Int) (A : Option Addr) (m c : Nat) (w : World), n ≤ 40 → Sl w A m c zs → setB (n : Int) zs = true →
    Calls Try.prog 29 #[.int .i64 (n : Int), .slice A m c] w fun e w' => e = .returned (.int .i64 ((plF chs zs m : Nat) : Int)) ∧ Below w.heap.size w w' := by
  intro n
  induction n with
  | zero =>
    intro zs A m c w _ h hs
    have hl := setB_len hs
    have hm := h.len
    obtain rfl : m = 0 := by omega
    rw [plF]
    clear h hs hl
    go_enter Try.func29, Try.ntmps29
    go_wp2
    go_ret
    exact ⟨rfl, Below.refl _ _⟩
  | succ n ih =>
    intro zs A m c w hn h hs
    have hl := setB_len hs
    have hm := h.len
    rcases m with _ | m
    · rw [plF]
      clear h hs hl
      go_enter Try.func29, Try.ntmps29
      go_wp2
      go_ret
      exact ⟨rfl, Below.refl _ _⟩
    · by_cases hall : m = n
      · subst hall
        rw [plC_all (m + 1) zs hs hm]
        have hbig := h.big
        clear h hs hl hm ih
        go_enter Try.func29, Try.ntmps29
        go_wp2
        go_ret
        exact ⟨rfl, Below.refl _ _⟩
      · have hbig := h.big
        have hcap := h.cap
        have e0 : ((m : Int) + 1 == (n : Int) + 1) = false := by rw [beq_eq_false_iff_ne]; omega
        have e0' : ((m : Int) == (n : Int)) = false := by rw [beq_eq_false_iff_ne]; omega
        obtain ⟨b, off, rfl, hcell⟩ := h.at_ (k := m) (by omega)
        rw [show zs[m]?.getD 0 = atI zs m from rfl] at hcell
        have V0 : Hid (IntKind.i64.wrap ((m : Int) + 1 - 1) = (m : Int)) := by rw [Hid, show (m : Int) + 1 - 1 = (m : Int) by omega]; exact IntWalk.i64_in _ (by omega)
        have f0 : (m : Int) < (m : Int) + 1 := by omega
        by_cases hla : atI zs m = (n : Int) + 1
        · have hP := plC_lt hs m (by omega)
          have hstep : plF chs zs (m + 1) = chs (n + 1) (m + 1) - 1 - plF chs zs m := by rw [plF, hla]; rfl
          rw [hla] at hP hcell
          have hP2 : plF chs zs m < chs (n + 1) (m + 1) := hP
          have hml : m + 1 ≤ n + 1 := by omega
          have HR : Hid (∀ V, Below w.heap.size w V → Calls Try.prog 29 #[.int .i64 (n : Int), .slice (some ⟨b, off, none⟩) m c] V fun e w' => e = .returned (.int .i64 ((plF chs zs m : Nat) : Int)) ∧ Below V.heap.size V w') := fun V hV => by
            have := ih (zs.take m) (some ⟨b, off, none⟩) m c V (by omega) ((h.below hV (Nat.le_refl _)).take (by omega)) (setB_pop hs hm hla)
            rw [plF_take] at this
            exact this
          have HM : Hid (∀ V, Calls Try.prog 27 #[.int .i64 ((n : Int) + 1), .int .i64 ((m : Int) + 1)] V fun e w' => e = .returned (.int .i64 ((chs (n + 1) (m + 1) : Nat) : Int)) ∧ Below V.heap.size V w') := fun V => manyR_any (n + 1) (m + 1) V hn hml
          have h2 := Nat.le_trans (chs_le (n + 1) (m + 1)) (two_le hn)
          rw [hstep, show ((chs (n + 1) (m + 1) - 1 - plF chs zs m : Nat) : Int) = ((chs (n + 1) (m + 1) : Nat) : Int) - 1 - ((plF chs zs m : Nat) : Int) by omega]
          have HD1 : Hid (Below w.heap.size w w.drew) := (Below.refl _ w).drew
          clear hstep hP h hs hl ih hla hm
          generalize plF chs zs m = p at *
          generalize chs (n + 1) (m + 1) = q at *
          have v1 : IntKind.i64.wrap ((q : Int) - 1) = (q : Int) - 1 := IntWalk.i64_in _ (by omega)
          have v2 : IntKind.i64.wrap ((q : Int) - 1 - (p : Int)) = (q : Int) - 1 - (p : Int) := IntWalk.i64_in _ (by omega)
          have v3 : wrap64 ((q : Int) - 1) = (q : Int) - 1 := IntWalk.wrap64_in _ ⟨by omega, by omega⟩
          have v4 : wrap64 ((q : Int) - 1 - (p : Int)) = (q : Int) - 1 - (p : Int) := IntWalk.wrap64_in _ ⟨by omega, by omega⟩
          have v0 := V0.out
          have v0' : IntKind.i64.wrap (m : Int) = (m : Int) := IntWalk.i64_in _ (by omega)
          go_enter Try.func29, Try.ntmps29
          go_wp2
          go_region_with (first | (go_at_call 27; (with_reducible refine (HM.out _).mono ?_); rintro e w1 ⟨rfl, hb⟩; have HB1 := Lib.hid (HD1.out.trans (hb.mono HD1.out.size)); clear hb) | (go_at_call 29; (with_reducible refine (HR.out _ HB1.out).mono ?_); rintro e w2 ⟨rfl, hb⟩; have HB2 := Lib.hid (HB1.out.trans (hb.mono HB1.out.size)); clear hb))
          all_goals
            go_wp2
            go_ret
            exact ⟨rfl, HB2.out⟩
        · have HR := Lib.hid (ih zs (some ⟨b, off, none⟩) (m + 1) c w (by omega) h (setB_keep hs (fun k e => by rw [show k = m by omega]; exact hla)))
          have e1 : (atI zs m == (n : Int) + 1) = false := by rw [beq_eq_false_iff_ne]; exact hla
          clear h hs hl ih
          generalize atI zs m = z at *
          have v0 := V0.out
          go_enter Try.func29, Try.ntmps29
          go_wp2_with (go_at_call 29; (with_reducible refine HR.out.mono ?_); rintro e w1 ⟨rfl, hb⟩; have HB := Lib.hid hb; clear hb)
          go_ret
          exact ⟨rfl, HB.out⟩
end Go.Proofs.Ytfeohcknopdamaa
