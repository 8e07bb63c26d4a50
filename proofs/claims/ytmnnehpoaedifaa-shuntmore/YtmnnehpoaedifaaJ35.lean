import Derived.Test.YtmnnehpoaedifaaJ34
import Derived.Test.YtmnnehpoaedifaaJ29
import Derived.Test.YtmnnehpoaedifaaJ18
/- The law ShuntMore, from what the program's functions promise. -/
namespace Go.Proofs.Ytmnnehpoaedifaa
open Go.RowKit
set_option linter.unusedVariables false

theorem part_two {p o : List Int} {g : Nat → Nat} (h : Part p o g) (ho : twoB o = true) : twoB p = true := by
  obtain ⟨f, hf⟩ := twoB_iff.1 ho
  refine twoB_iff.2 ⟨fun i => f (g i), fun a b ha hb hl => ?_⟩
  obtain ⟨hne, hc⟩ := link_iff.1 hl
  refine hf _ _ (h.lt a ha) (h.lt b hb) (link_iff.2 ?_)
  have hc' := h.conf hc
  rcases Nat.lt_or_ge a b with hab | hab
  · have hm := h.mono a b hab hb
    rw [Nat.min_eq_left (by omega), Nat.max_eq_right (by omega)] at hc' ⊢
    exact ⟨by omega, hc'⟩
  · have hm := h.mono b a (by omega) ha
    rw [Nat.min_eq_right (by omega), Nat.max_eq_left (by omega)] at hc' ⊢
    exact ⟨by omega, hc'⟩
theorem two_of_good {o : List Int} (h : Good o) : twoB o = true :=
  twoB_iff.2 ⟨fun _ => true, fun a b _ _ hl => by
    obtain ⟨_, _, c, hb⟩ := link_iff.1 hl
    exact absurd hb (h _ _ _)⟩
theorem desc_short {o : List Int} {l : List Nat} (h : Desc o l) : l.length ≤ o.length := nodup_le _ _ (h.1.imp fun ⟨h, _⟩ => by omega) h.2
theorem least_rng (o : List Int) : 0 ≤ leastOf o ∧ leastOf o ≤ o.length + 1 := by
  rcases Nat.eq_zero_or_pos o.length with h0 | h0
  · rw [List.eq_nil_of_length_eq_zero h0]; decide
  · obtain ⟨l, h1, h2⟩ := desc_least o h0
    have := desc_short h1
    omega
theorem least_one {o : List Int} (h : 0 < o.length) : 1 ≤ leastOf o := by
  have h1 : Desc o [0] := ⟨List.pairwise_singleton _ _, fun i hi => by rw [List.mem_singleton.1 hi]; exact h⟩
  exact desc_le o [0] h1
theorem Sl.dropK {w : World} {b off n c : Nat} {zs : List Int} (h : Sl w (some ⟨b, off, none⟩) n c zs) {k : Nat} (hk : k ≤ n) : Sl w (some ⟨b, off + k, none⟩) (n - k) (c - k) (zs.drop k) := by
  refine ⟨by rw [List.length_drop, h.len], by have := h.cap; omega, by have := h.big; omega, fun e => (by cases e), fun j hj => ?_, fun b' off' e hn => ?_⟩
  · rw [List.length_drop] at hj
    obtain ⟨b', off', e, hc⟩ := h.rd (k + j) (by omega)
    injection e with e
    injection e with e1 e2 _
    subst e1; subst e2
    refine ⟨_, _, rfl, ?_⟩
    rw [List.getElem?_drop, Nat.add_assoc]
    exact hc
  · injection e with e
    injection e with e1 _ _
    subst e1
    exact h.old b off rfl (by omega)
theorem Sl.dropEnd {w : World} {b off n c : Nat} {zs : List Int} (h : Sl w (some ⟨b, off, none⟩) n c zs) {k : Nat} (hk : n ≤ k) : Sl w (some ⟨b, off, none⟩) (n - k) 0 (zs.drop k) := by
  refine ⟨by rw [List.length_drop, h.len], by omega, by omega, fun e => (by cases e), fun j hj => ?_, fun b' off' e hn => by omega⟩
  rw [List.length_drop, h.len] at hj
  omega

theorem Below.of_grown {w w' : World} {r : Option Nat} (h : w.grownBy w' r) (hr : r = none) : Below w.heap.size w w' := by
  subst hr
  exact ⟨h.os, h.tape, h.output, h.size, fun k hk => h.block k hk (by simp)⟩
theorem more_none (hA : AwakeOk) (hP : StackOk) (hS : StacksOk) (hM : LeastOk) (A : Option Addr) (n c : Nat) (zs : List Int) (k : Int) (w : World) (hs : Sl w A n c zs) (hz : min n 25 = 0) :
    Calls Try.prog 13 #[.slice A n c, .int .i64 k] w fun e w' => e = .returned (.bool true) ∧ Below w.heap.size w w' := by
  have hlen := tameOf_len zs 0
  have HA := Lib.hid hA
  have HT : Hid (Calls Try.prog 48 #[.slice A n c, .int .i64 (25 : Nat)] w fun e w' => ∃ B d, e = .returned (.slice B 0 d) ∧ Kp w w') := by
    refine (tame_any A n c zs 25 w hs (by omega)).mono ?_
    rintro e w1 ⟨v, rfl, hv, hb⟩
    rw [hz] at hv
    obtain ⟨B, d, rfl, _⟩ := hv.sl_len hlen (by omega)
    exact ⟨B, d, rfl, hb⟩
  clear hA hP hS hM hs hz hlen
  go_enter Try.func13, Try.ntmps13
  go_wp2_with (first | (go_at_call 48; refine HT.out.mono ?_; rintro e w1 ⟨B, d, rfl, k1⟩) | (go_at_call 22; refine (HA.out _).mono ?_; rintro e w2 ⟨rfl, hb2⟩))
  go_ret
  exact ⟨rfl, k1.call hb2⟩
set_option maxHeartbeats 3200000 in
theorem more_one (hA : AwakeOk) (hP : StackOk) (hS : StacksOk) (hM : LeastOk) (A : Option Addr) (n c : Nat) (zs : List Int) (k : Int) (w : World) (hs : Sl w A n c zs)
    (N : Nat) (o : List Int) (hN : min n 25 = N) (hoe : tameOf zs N = o) (h0 : 0 < N) (r : Nat) (hmod : ∀ W, Calls Try.prog 49 #[.int .i64 k, .int .i64 (N : Int)] W fun e w' => e = .returned (.int .i64 r) ∧ W = w') (hr : r < N)
    (hp : ascB (passOf o) = true) :
    Calls Try.prog 13 #[.slice A n c, .int .i64 k] w fun e w' => e = .returned (.bool true) ∧ Below w.heap.size w w' := by
  have hol : o.length = N := by rw [← hoe, tameOf_len]
  have hord : Ord o := by rw [← hoe]; exact ord_tame zs N
  have hN25 : N ≤ 25 := by omega
  have hob : ordB o 60 = true := ordB_iff.2 ⟨hord, by omega⟩
  obtain ⟨q, hq⟩ : ∃ q, q = o.take r ++ o.drop (r + 1) := ⟨_, rfl⟩
  obtain ⟨s, hse⟩ : ∃ s, s = tameOf q (N - 1) := ⟨_, rfl⟩
  have hpart : Part s o (skip r) := by
    have := part_less hord.diff (k := r) (by omega)
    rw [hse, hq, ← hol]; exact this
  have hsl : s.length = N - 1 := by rw [hse, tameOf_len]
  have hql : q.length = N - 1 := by rw [hq, List.length_append, List.length_take, List.length_drop]; omega
  have hob' : ordB s 60 = true := ordB_iff.2 ⟨by rw [hse]; exact ord_tame q _, by omega⟩
  obtain ⟨tn, htn⟩ : ∃ t, leastOf o = t := ⟨_, rfl⟩
  obtain ⟨tm, htm⟩ : ∃ t, leastOf s = t := ⟨_, rfl⟩
  have hrn := least_rng o
  have hge : tn ≤ tm + 1 := by rw [← htn, ← htm]; exact hpart.least_ge (by omega) (by omega)
  have hle : tm ≤ tn := by
    rw [← htn, ← htm]
    rcases Nat.eq_zero_or_pos s.length with h | h
    · rw [List.eq_nil_of_length_eq_zero h]; exact least_one (o := o) (by omega)
    · exact hpart.least_le h
  rw [htn] at hrn
  have hrn1 : 0 ≤ tn := hrn.1
  have hrn2 : tn ≤ 26 := by have := hrn.2; omega
  clear hrn
  have hg : Good o := (oneStack_iff hord.diff).1 hp
  have htwo : twoB o = true := two_of_good hg
  have hp' : ascB (passOf s) = true := (oneStack_iff (ordB_iff.1 hob').1.diff).2 (hpart.good hg)
  have h2' : twoB s = true := part_two hpart htwo
  have HP : Hid (∀ B d W, Sl W B N d o → Calls Try.prog 19 #[.slice B N d] W fun e w' => ∃ (P : ByteArray) (U : Option Addr) (u' : Nat), e = .returned (.tuple #[.string P, .slice U 0 u', .int .i64 0]) ∧ Below W.heap.size W w') := fun B d W hsl => by
    refine (hP B _ d o W hsl).mono ?_
    rintro e w' ⟨P, v, x, t, rfl, hv, _, h3, _, h1, h2, hb⟩
    obtain ⟨_, rfl, rfl⟩ := h1 hob hp
    obtain ⟨U, u', rfl, _⟩ := hv.sl_len (n := 0) rfl (by omega)
    exact ⟨P, U, u', rfl, hb⟩
  have HS : Hid (∀ B d W, Sl W B N d o → Calls Try.prog 32 #[.slice B N d] W fun e w' => ∃ (v : Value) (U : Option Addr) (u' : Nat), e = .returned (.tuple #[v, .slice U 0 u', .int .i64 0]) ∧ Below W.heap.size W w') := fun B d W hsl => by
    refine (hS B _ d o W hsl).mono ?_
    rintro e w' ⟨u, v, x, t, b, rfl, _, hv, _, h3, _, h1, h2, hb⟩
    obtain ⟨_, rfl, rfl⟩ := h1 hob htwo
    obtain ⟨U, u', rfl, _⟩ := hv.sl_len (n := 0) rfl (by omega)
    exact ⟨u, U, u', rfl, hb⟩
  have HM : Hid (∀ B d W, Sl W B N d o → Calls Try.prog 27 #[.slice B N d] W fun e w' => e = .returned (.tuple #[.int .i64 tn, .int .i64 0]) ∧ Below W.heap.size W w') := fun B d W hsl => by
    refine (hM B _ d o W hsl).mono ?_
    rintro e w' ⟨m, x, rfl, _, h1, hb⟩
    obtain ⟨rfl, rfl⟩ := h1 hob
    exact ⟨by rw [htn], hb⟩
  have HP' : Hid (∀ B d W, Sl W B (N - 1) d s → Calls Try.prog 19 #[.slice B (N - 1) d] W fun e w' => ∃ (P : ByteArray) (U : Option Addr) (u' : Nat), e = .returned (.tuple #[.string P, .slice U 0 u', .int .i64 0]) ∧ Below W.heap.size W w') := fun B d W hsl => by
    refine (hP B _ d s W hsl).mono ?_
    rintro e w' ⟨P, v, x, t, rfl, hv, _, h3, _, h1, h2, hb⟩
    obtain ⟨_, rfl, rfl⟩ := h1 hob' hp'
    obtain ⟨U, u', rfl, _⟩ := hv.sl_len (n := 0) rfl (by omega)
    exact ⟨P, U, u', rfl, hb⟩
  have HS' : Hid (∀ B d W, Sl W B (N - 1) d s → Calls Try.prog 32 #[.slice B (N - 1) d] W fun e w' => ∃ (v : Value) (U : Option Addr) (u' : Nat), e = .returned (.tuple #[v, .slice U 0 u', .int .i64 0]) ∧ Below W.heap.size W w') := fun B d W hsl => by
    refine (hS B _ d s W hsl).mono ?_
    rintro e w' ⟨u, v, x, t, b, rfl, _, hv, _, h3, _, h1, h2, hb⟩
    obtain ⟨_, rfl, rfl⟩ := h1 hob' h2'
    obtain ⟨U, u', rfl, _⟩ := hv.sl_len (n := 0) rfl (by omega)
    exact ⟨u, U, u', rfl, hb⟩
  have HM' : Hid (∀ B d W, Sl W B (N - 1) d s → Calls Try.prog 27 #[.slice B (N - 1) d] W fun e w' => e = .returned (.tuple #[.int .i64 tm, .int .i64 0]) ∧ Below W.heap.size W w') := fun B d W hsl => by
    refine (hM B _ d s W hsl).mono ?_
    rintro e w' ⟨m, x, rfl, _, h1, hb⟩
    obtain ⟨rfl, rfl⟩ := h1 hob'
    exact ⟨by rw [htm], hb⟩
  have HA := Lib.hid hA
  have HT : Hid (Calls Try.prog 48 #[.slice A n c, .int .i64 (25 : Nat)] w fun e w' => ∃ B d, e = .returned (.slice B N d) ∧ Sl w' B N d o ∧ Below w.heap.size w w') := by
    refine (tame_any A n c zs 25 w hs (by omega)).mono ?_
    rintro e w1 ⟨v, rfl, hv, hb⟩
    rw [hN, hoe] at hv
    obtain ⟨B, d, rfl, hsl⟩ := hv.sl_len hol (by omega)
    exact ⟨B, d, rfl, hsl, hb⟩
  have HT' : Hid (∀ R rc W, Sl W R (N - 1) rc q → Calls Try.prog 48 #[.slice R (N - 1) rc, .int .i64 (25 : Nat)] W fun e w' => ∃ B d, e = .returned (.slice B (N - 1) d) ∧ Sl w' B (N - 1) d s ∧ Below W.heap.size W w') := fun R rc W hR => by
    refine (tame_any R (N - 1) rc q 25 W hR (by omega)).mono ?_
    rintro e w1 ⟨v, rfl, hv, hb⟩
    rw [Nat.min_eq_left (by omega), ← hse] at hv
    obtain ⟨B, d, rfl, hsl'⟩ := hv.sl_len hsl (by omega)
    exact ⟨B, d, rfl, hsl', hb⟩
  have HMOD := Lib.hid hmod
  have HQ : Hid (∀ (W : World) (B' : Nat) (v : Value), W.ownsRow B' 3 1 v (0 + r + (N - (r + 1))) ([] ++ ints (o.take r) ++ ints (o.drop (r + 1))) → ∃ R rc, v = .slice R (N - 1) rc ∧ Sl W R (N - 1) rc q) := fun W B' v h => by
    have ho : Ow W B' 3 v q := by
      unfold Ow
      rw [hql, show N - 1 = 0 + r + (N - (r + 1)) from by omega, hq]
      simpa using h
    exact ho.sl_len hql (by omega)
  have HOL := Lib.hid hol
  have g0 : ((N : Int) == 0) = false := by simp; omega
  obtain ⟨i0, hi, hz0, hz1, hz2⟩ := info_parts Try.infoInt
  have HI : Hid (Try.prog.info? 3 = some i0 ∧ i0.zero = some (.int .i64 0) ∧ i0.size = 1 ∧ i0.bytes = 8) := ⟨hi, hz0, hz1, hz2⟩
  clear hi hz0 hz1 hz2 hA hP hS hM hs hN hoe hol hord hob hob' hmod hp hpart hsl hql hq hse htn htm htwo hp' hg h2'
  go_enter Try.func13, Try.ntmps13
  go_wp2_with fail
  refine HT.out.mono ?_
  clear HT
  rintro e w1 ⟨B, d, rfl, hsl, hb1⟩
  have hcap := hsl.cap
  obtain ⟨b0, off0, rfl, _⟩ := hsl.cells h0
  have HSL := Lib.hid hsl; clear hsl
  have q1 : (r : Int) ≤ (d : Int) := by omega
  have q2 : (r : Int) + 1 ≤ (N : Int) := by omega
  by_cases hd : d = r + 1
  · subst hd
    have hz : N - (r + 1) = 0 := by omega
    have HQE : Hid (∀ (W : World) (B' : Nat) (v : Value), W.ownsRow B' 3 1 v (0 + r + 0) ([] ++ ints (o.take r) ++ ints (o.drop (r + 1))) → ∃ R rc, v = .slice R (N - 1) rc ∧ Sl W R (N - 1) rc q) := by
      have h := HQ.out
      rw [hz] at h
      exact h
    have HSE : Hid (Sl w1 (some ⟨b0, off0, none⟩) 0 0 (o.drop (r + 1))) := by
      have h := HSL.out.dropEnd (k := r + 1) (by omega)
      rw [hz] at h
      exact h
    clear hz
    go_wp2_with (first
      | (go_at_call 49; refine (HMOD.out _).mono ?_; rintro e w2 ⟨rfl, rfl⟩)
      | (at_builtin; refine app_any _ rfl (.tmp 35) (.tmp 38) 22 rfl w1.heap.size 3 i0 Try.underlying22 HI.out.1 HI.out.2.1 HI.out.2.2.1 HI.out.2.2.2 (.slice none 0 0) 0 [] rfl (World.ownsRow_nil _ _ _ _) (some ⟨b0, off0, none⟩) r (r + 1) (o.take r) rfl (HSL.out.take (by omega)) (by omega) (Nat.le_refl _) ?_; intro v1 w2 hown hg; have HO := Lib.hid hown; clear hown; have HG := Lib.hid hg; clear hg)
      | (at_builtin; (refine app_any _ rfl (.tmp 40) (.tmp 44) 22 rfl w1.heap.size 3 i0 Try.underlying22 HI.out.1 HI.out.2.1 HI.out.2.2.1 HI.out.2.2.2 v1 (0 + r) ([] ++ ints (o.take r)) rfl HO.out (some ⟨b0, off0, none⟩) 0 0 (o.drop (r + 1)) rfl (HSE.out.below (Below.of_grown HG.out rfl) (Nat.le_refl _)) (by omega) HG.out.size ?_); intro v2 w3 hown hg; obtain ⟨R, rc, rfl, hq3⟩ := HQE.out _ _ _ hown; have HQ3 := Lib.hid hq3; clear hq3; have hb3 : Below w1.heap.size w1 w3 := ((Below.refl _ _).grown HG.out (Nat.le_refl _) (by simp [Value.ownBlock])).grown hg HG.out.size (fun j e => (HO.out.lt j e).1); clear hown hg)
      | (go_at_call 48; refine (HT'.out _ _ _ HQ3.out).mono ?_; clear HT'; rintro e w4 ⟨B4, d4, rfl, hs4, hb4⟩))
    have k3 := Kp.call hb1 hb3
    have o3 := HSL.out.below hb3 (Nat.le_refl _)
    have k4 := k3.call hb4
    have o4 := o3.below hb4 (Nat.le_refl _)
    clear k3 o3 hb1 hb3 hb4
    go_wp2_with (go_at_call 19; refine (HP.out _ _ _ o4).mono ?_; clear HP; rintro e w5 ⟨P1, U1, u1, rfl, hb⟩; have o5 := o4.below hb (Nat.le_refl _); have s5 := hs4.below hb (Nat.le_refl _); have k5 := k4.call hb; clear hb o4 hs4 k4)
    go_wp2_with (go_at_call 32; refine (HS.out _ _ _ o5).mono ?_; clear HS; rintro e w6 ⟨v2, U2, u2, rfl, hb⟩; have o6 := o5.below hb (Nat.le_refl _); have s6 := s5.below hb (Nat.le_refl _); have k6 := k5.call hb; clear hb o5 s5 k5)
    go_wp2_with (go_at_call 27; refine (HM.out _ _ _ o6).mono ?_; clear HM; rintro e w7 ⟨rfl, hb⟩; have s7 := s6.below hb (Nat.le_refl _); have k7 := k6.call hb; clear hb o6 s6 k6)
    go_wp2_with (go_at_call 19; refine (HP'.out _ _ _ s7).mono ?_; clear HP'; rintro e w8 ⟨P3, U3, u3, rfl, hb⟩; have s8 := s7.below hb (Nat.le_refl _); have k8 := k7.call hb; clear hb s7 k7)
    go_wp2_with (go_at_call 32; refine (HS'.out _ _ _ s8).mono ?_; clear HS'; rintro e w9 ⟨v4, U4, u4, rfl, hb⟩; have s9 := s8.below hb (Nat.le_refl _); have k9 := k8.call hb; clear hb s8 k8)
    have hge2 : tn - 1 ≤ tm := by omega
    go_wp2_with (first | (go_at_call 27; refine (HM'.out _ _ _ s9).mono ?_; clear HM'; rintro e w10 ⟨rfl, hb⟩; have k10 := k9.call hb; clear hb s9 k9) | (go_at_call 22; refine (HA.out _).mono ?_; rintro e w11 ⟨rfl, hb⟩))
    go_ret
    exact ⟨rfl, k10.call hb⟩
  · have hd2 : ¬ (d : Int) = (r : Int) + 1 := by omega
    go_wp2_with (first
      | (go_at_call 49; refine (HMOD.out _).mono ?_; rintro e w2 ⟨rfl, rfl⟩)
      | (at_builtin; refine app_any _ rfl (.tmp 35) (.tmp 38) 22 rfl w1.heap.size 3 i0 Try.underlying22 HI.out.1 HI.out.2.1 HI.out.2.2.1 HI.out.2.2.2 (.slice none 0 0) 0 [] rfl (World.ownsRow_nil _ _ _ _) (some ⟨b0, off0, none⟩) r d (o.take r) rfl (HSL.out.take (by omega)) (by omega) (Nat.le_refl _) ?_; intro v1 w2 hown hg; have HO := Lib.hid hown; clear hown; have HG := Lib.hid hg; clear hg)
      | (at_builtin; (refine app_any _ rfl (.tmp 40) (.tmp 44) 22 rfl w1.heap.size 3 i0 Try.underlying22 HI.out.1 HI.out.2.1 HI.out.2.2.1 HI.out.2.2.2 v1 (0 + r) ([] ++ ints (o.take r)) rfl HO.out (some ⟨b0, off0 + (r + 1), none⟩) (N - (r + 1)) (d - (r + 1)) (o.drop (r + 1)) rfl ((HSL.out.dropK (by omega)).below (Below.of_grown HG.out rfl) (Nat.le_refl _)) (by omega) HG.out.size ?_); intro v2 w3 hown hg; obtain ⟨R, rc, rfl, hq3⟩ := HQ.out _ _ _ hown; have HQ3 := Lib.hid hq3; clear hq3; have hb3 : Below w1.heap.size w1 w3 := ((Below.refl _ _).grown HG.out (Nat.le_refl _) (by simp [Value.ownBlock])).grown hg HG.out.size (fun j e => (HO.out.lt j e).1); clear hown hg)
      | (go_at_call 48; refine (HT'.out _ _ _ HQ3.out).mono ?_; clear HT'; rintro e w4 ⟨B4, d4, rfl, hs4, hb4⟩))
    have k3 := Kp.call hb1 hb3
    have o3 := HSL.out.below hb3 (Nat.le_refl _)
    have k4 := k3.call hb4
    have o4 := o3.below hb4 (Nat.le_refl _)
    clear k3 o3 hb1 hb3 hb4
    go_wp2_with (go_at_call 19; refine (HP.out _ _ _ o4).mono ?_; clear HP; rintro e w5 ⟨P1, U1, u1, rfl, hb⟩; have o5 := o4.below hb (Nat.le_refl _); have s5 := hs4.below hb (Nat.le_refl _); have k5 := k4.call hb; clear hb o4 hs4 k4)
    go_wp2_with (go_at_call 32; refine (HS.out _ _ _ o5).mono ?_; clear HS; rintro e w6 ⟨v2, U2, u2, rfl, hb⟩; have o6 := o5.below hb (Nat.le_refl _); have s6 := s5.below hb (Nat.le_refl _); have k6 := k5.call hb; clear hb o5 s5 k5)
    go_wp2_with (go_at_call 27; refine (HM.out _ _ _ o6).mono ?_; clear HM; rintro e w7 ⟨rfl, hb⟩; have s7 := s6.below hb (Nat.le_refl _); have k7 := k6.call hb; clear hb o6 s6 k6)
    go_wp2_with (go_at_call 19; refine (HP'.out _ _ _ s7).mono ?_; clear HP'; rintro e w8 ⟨P3, U3, u3, rfl, hb⟩; have s8 := s7.below hb (Nat.le_refl _); have k8 := k7.call hb; clear hb s7 k7)
    go_wp2_with (go_at_call 32; refine (HS'.out _ _ _ s8).mono ?_; clear HS'; rintro e w9 ⟨v4, U4, u4, rfl, hb⟩; have s9 := s8.below hb (Nat.le_refl _); have k9 := k8.call hb; clear hb s8 k8)
    have hge2 : tn - 1 ≤ tm := by omega
    go_wp2_with (first | (go_at_call 27; refine (HM'.out _ _ _ s9).mono ?_; clear HM'; rintro e w10 ⟨rfl, hb⟩; have k10 := k9.call hb; clear hb s9 k9) | (go_at_call 22; refine (HA.out _).mono ?_; rintro e w11 ⟨rfl, hb⟩))
    go_ret
    exact ⟨rfl, k10.call hb⟩
set_option maxHeartbeats 3200000 in
theorem more_two (hA : AwakeOk) (hP : StackOk) (hS : StacksOk) (hM : LeastOk) (A : Option Addr) (n c : Nat) (zs : List Int) (k : Int) (w : World) (hs : Sl w A n c zs)
    (N : Nat) (o : List Int) (hN : min n 25 = N) (hoe : tameOf zs N = o) (h0 : 0 < N) (r : Nat) (hmod : ∀ W, Calls Try.prog 49 #[.int .i64 k, .int .i64 (N : Int)] W fun e w' => e = .returned (.int .i64 r) ∧ W = w') (hr : r < N)
    (hp : ascB (passOf o) = false) (htwo : twoB o = true) :
    Calls Try.prog 13 #[.slice A n c, .int .i64 k] w fun e w' => e = .returned (.bool true) ∧ Below w.heap.size w w' := by
  have hol : o.length = N := by rw [← hoe, tameOf_len]
  have hord : Ord o := by rw [← hoe]; exact ord_tame zs N
  have hN25 : N ≤ 25 := by omega
  have hob : ordB o 60 = true := ordB_iff.2 ⟨hord, by omega⟩
  obtain ⟨q, hq⟩ : ∃ q, q = o.take r ++ o.drop (r + 1) := ⟨_, rfl⟩
  obtain ⟨s, hse⟩ : ∃ s, s = tameOf q (N - 1) := ⟨_, rfl⟩
  have hpart : Part s o (skip r) := by
    have := part_less hord.diff (k := r) (by omega)
    rw [hse, hq, ← hol]; exact this
  have hsl : s.length = N - 1 := by rw [hse, tameOf_len]
  have hql : q.length = N - 1 := by rw [hq, List.length_append, List.length_take, List.length_drop]; omega
  have hob' : ordB s 60 = true := ordB_iff.2 ⟨by rw [hse]; exact ord_tame q _, by omega⟩
  obtain ⟨tn, htn⟩ : ∃ t, leastOf o = t := ⟨_, rfl⟩
  obtain ⟨tm, htm⟩ : ∃ t, leastOf s = t := ⟨_, rfl⟩
  have hrn := least_rng o
  have hge : tn ≤ tm + 1 := by rw [← htn, ← htm]; exact hpart.least_ge (by omega) (by omega)
  have hle : tm ≤ tn := by
    rw [← htn, ← htm]
    rcases Nat.eq_zero_or_pos s.length with h | h
    · rw [List.eq_nil_of_length_eq_zero h]; exact least_one (o := o) (by omega)
    · exact hpart.least_le h
  rw [htn] at hrn
  have hrn1 : 0 ≤ tn := hrn.1
  have hrn2 : tn ≤ 26 := by have := hrn.2; omega
  clear hrn
  have h2' : twoB s = true := part_two hpart htwo
  have HP : Hid (∀ B d W, Sl W B N d o → Calls Try.prog 19 #[.slice B N d] W fun e w' => ∃ (P : ByteArray) (U : Option Addr) (u' : Nat), e = .returned (.tuple #[.string P, .slice U 3 u', .int .i64 0]) ∧ Below W.heap.size W w') := fun B d W hsl => by
    refine (hP B _ d o W hsl).mono ?_
    rintro e w' ⟨P, v, x, t, rfl, hv, _, h3, _, h1, h2, hb⟩
    obtain ⟨_, hbk, rfl⟩ := h2 hob hp
    obtain ⟨U, u', rfl, _⟩ := hv.sl_len (sblock_len hbk).1 (by omega)
    exact ⟨P, U, u', rfl, hb⟩
  have HS : Hid (∀ B d W, Sl W B N d o → Calls Try.prog 32 #[.slice B N d] W fun e w' => ∃ (v : Value) (U : Option Addr) (u' : Nat), e = .returned (.tuple #[v, .slice U 0 u', .int .i64 0]) ∧ Below W.heap.size W w') := fun B d W hsl => by
    refine (hS B _ d o W hsl).mono ?_
    rintro e w' ⟨u, v, x, t, b, rfl, _, hv, _, h3, _, h1, h2, hb⟩
    obtain ⟨_, rfl, rfl⟩ := h1 hob htwo
    obtain ⟨U, u', rfl, _⟩ := hv.sl_len (n := 0) rfl (by omega)
    exact ⟨u, U, u', rfl, hb⟩
  have HM : Hid (∀ B d W, Sl W B N d o → Calls Try.prog 27 #[.slice B N d] W fun e w' => e = .returned (.tuple #[.int .i64 tn, .int .i64 0]) ∧ Below W.heap.size W w') := fun B d W hsl => by
    refine (hM B _ d o W hsl).mono ?_
    rintro e w' ⟨m, x, rfl, _, h1, hb⟩
    obtain ⟨rfl, rfl⟩ := h1 hob
    exact ⟨by rw [htn], hb⟩
  have HP' : Hid (∀ B d W, Sl W B (N - 1) d s → Calls Try.prog 19 #[.slice B (N - 1) d] W fun e w' => ∃ (P : ByteArray) (U : Option Addr) (l u' : Nat), e = .returned (.tuple #[.string P, .slice U l u', .int .i64 0]) ∧ Below W.heap.size W w') := fun B d W hsl => by
    refine (hP B _ d s W hsl).mono ?_
    rintro e w' ⟨P, v, x, t, rfl, hv, _, h3, _, h1, h2, hb⟩
    obtain ⟨U, u', rfl, _⟩ := hv.sl_len rfl (by omega)
    have hx : x = 0 := by
      cases hh : ascB (passOf s) with
      | true => exact (h1 hob' hh).2.2
      | false => exact (h2 hob' hh).2.2
    subst hx
    exact ⟨P, U, _, u', rfl, hb⟩
  have HS' : Hid (∀ B d W, Sl W B (N - 1) d s → Calls Try.prog 32 #[.slice B (N - 1) d] W fun e w' => ∃ (v : Value) (U : Option Addr) (u' : Nat), e = .returned (.tuple #[v, .slice U 0 u', .int .i64 0]) ∧ Below W.heap.size W w') := fun B d W hsl => by
    refine (hS B _ d s W hsl).mono ?_
    rintro e w' ⟨u, v, x, t, b, rfl, _, hv, _, h3, _, h1, h2, hb⟩
    obtain ⟨_, rfl, rfl⟩ := h1 hob' h2'
    obtain ⟨U, u', rfl, _⟩ := hv.sl_len (n := 0) rfl (by omega)
    exact ⟨u, U, u', rfl, hb⟩
  have HM' : Hid (∀ B d W, Sl W B (N - 1) d s → Calls Try.prog 27 #[.slice B (N - 1) d] W fun e w' => e = .returned (.tuple #[.int .i64 tm, .int .i64 0]) ∧ Below W.heap.size W w') := fun B d W hsl => by
    refine (hM B _ d s W hsl).mono ?_
    rintro e w' ⟨m, x, rfl, _, h1, hb⟩
    obtain ⟨rfl, rfl⟩ := h1 hob'
    exact ⟨by rw [htm], hb⟩
  have HA := Lib.hid hA
  have HT : Hid (Calls Try.prog 48 #[.slice A n c, .int .i64 (25 : Nat)] w fun e w' => ∃ B d, e = .returned (.slice B N d) ∧ Sl w' B N d o ∧ Below w.heap.size w w') := by
    refine (tame_any A n c zs 25 w hs (by omega)).mono ?_
    rintro e w1 ⟨v, rfl, hv, hb⟩
    rw [hN, hoe] at hv
    obtain ⟨B, d, rfl, hsl⟩ := hv.sl_len hol (by omega)
    exact ⟨B, d, rfl, hsl, hb⟩
  have HT' : Hid (∀ R rc W, Sl W R (N - 1) rc q → Calls Try.prog 48 #[.slice R (N - 1) rc, .int .i64 (25 : Nat)] W fun e w' => ∃ B d, e = .returned (.slice B (N - 1) d) ∧ Sl w' B (N - 1) d s ∧ Below W.heap.size W w') := fun R rc W hR => by
    refine (tame_any R (N - 1) rc q 25 W hR (by omega)).mono ?_
    rintro e w1 ⟨v, rfl, hv, hb⟩
    rw [Nat.min_eq_left (by omega), ← hse] at hv
    obtain ⟨B, d, rfl, hsl'⟩ := hv.sl_len hsl (by omega)
    exact ⟨B, d, rfl, hsl', hb⟩
  have HMOD := Lib.hid hmod
  have HQ : Hid (∀ (W : World) (B' : Nat) (v : Value), W.ownsRow B' 3 1 v (0 + r + (N - (r + 1))) ([] ++ ints (o.take r) ++ ints (o.drop (r + 1))) → ∃ R rc, v = .slice R (N - 1) rc ∧ Sl W R (N - 1) rc q) := fun W B' v h => by
    have ho : Ow W B' 3 v q := by
      unfold Ow
      rw [hql, show N - 1 = 0 + r + (N - (r + 1)) from by omega, hq]
      simpa using h
    exact ho.sl_len hql (by omega)
  have HOL := Lib.hid hol
  have g0 : ((N : Int) == 0) = false := by simp; omega
  obtain ⟨i0, hi, hz0, hz1, hz2⟩ := info_parts Try.infoInt
  have HI : Hid (Try.prog.info? 3 = some i0 ∧ i0.zero = some (.int .i64 0) ∧ i0.size = 1 ∧ i0.bytes = 8) := ⟨hi, hz0, hz1, hz2⟩
  clear hi hz0 hz1 hz2 hA hP hS hM hs hN hoe hol hord hob hob' hmod hp hpart hsl hql hq hse htn htm htwo h2'
  go_enter Try.func13, Try.ntmps13
  go_wp2_with fail
  refine HT.out.mono ?_
  clear HT
  rintro e w1 ⟨B, d, rfl, hsl, hb1⟩
  have hcap := hsl.cap
  obtain ⟨b0, off0, rfl, _⟩ := hsl.cells h0
  have HSL := Lib.hid hsl; clear hsl
  have q1 : (r : Int) ≤ (d : Int) := by omega
  have q2 : (r : Int) + 1 ≤ (N : Int) := by omega
  by_cases hd : d = r + 1
  · subst hd
    have hz : N - (r + 1) = 0 := by omega
    have HQE : Hid (∀ (W : World) (B' : Nat) (v : Value), W.ownsRow B' 3 1 v (0 + r + 0) ([] ++ ints (o.take r) ++ ints (o.drop (r + 1))) → ∃ R rc, v = .slice R (N - 1) rc ∧ Sl W R (N - 1) rc q) := by
      have h := HQ.out
      rw [hz] at h
      exact h
    have HSE : Hid (Sl w1 (some ⟨b0, off0, none⟩) 0 0 (o.drop (r + 1))) := by
      have h := HSL.out.dropEnd (k := r + 1) (by omega)
      rw [hz] at h
      exact h
    clear hz
    go_wp2_with (first
      | (go_at_call 49; refine (HMOD.out _).mono ?_; rintro e w2 ⟨rfl, rfl⟩)
      | (at_builtin; refine app_any _ rfl (.tmp 35) (.tmp 38) 22 rfl w1.heap.size 3 i0 Try.underlying22 HI.out.1 HI.out.2.1 HI.out.2.2.1 HI.out.2.2.2 (.slice none 0 0) 0 [] rfl (World.ownsRow_nil _ _ _ _) (some ⟨b0, off0, none⟩) r (r + 1) (o.take r) rfl (HSL.out.take (by omega)) (by omega) (Nat.le_refl _) ?_; intro v1 w2 hown hg; have HO := Lib.hid hown; clear hown; have HG := Lib.hid hg; clear hg)
      | (at_builtin; (refine app_any _ rfl (.tmp 40) (.tmp 44) 22 rfl w1.heap.size 3 i0 Try.underlying22 HI.out.1 HI.out.2.1 HI.out.2.2.1 HI.out.2.2.2 v1 (0 + r) ([] ++ ints (o.take r)) rfl HO.out (some ⟨b0, off0, none⟩) 0 0 (o.drop (r + 1)) rfl (HSE.out.below (Below.of_grown HG.out rfl) (Nat.le_refl _)) (by omega) HG.out.size ?_); intro v2 w3 hown hg; obtain ⟨R, rc, rfl, hq3⟩ := HQE.out _ _ _ hown; have HQ3 := Lib.hid hq3; clear hq3; have hb3 : Below w1.heap.size w1 w3 := ((Below.refl _ _).grown HG.out (Nat.le_refl _) (by simp [Value.ownBlock])).grown hg HG.out.size (fun j e => (HO.out.lt j e).1); clear hown hg)
      | (go_at_call 48; refine (HT'.out _ _ _ HQ3.out).mono ?_; clear HT'; rintro e w4 ⟨B4, d4, rfl, hs4, hb4⟩))
    have k3 := Kp.call hb1 hb3
    have o3 := HSL.out.below hb3 (Nat.le_refl _)
    have k4 := k3.call hb4
    have o4 := o3.below hb4 (Nat.le_refl _)
    clear k3 o3 hb1 hb3 hb4
    go_wp2_with (go_at_call 19; refine (HP.out _ _ _ o4).mono ?_; clear HP; rintro e w5 ⟨P1, U1, u1, rfl, hb⟩; have o5 := o4.below hb (Nat.le_refl _); have s5 := hs4.below hb (Nat.le_refl _); have k5 := k4.call hb; clear hb o4 hs4 k4)
    go_wp2_with (go_at_call 32; refine (HS.out _ _ _ o5).mono ?_; clear HS; rintro e w6 ⟨v2, U2, u2, rfl, hb⟩; have o6 := o5.below hb (Nat.le_refl _); have s6 := s5.below hb (Nat.le_refl _); have k6 := k5.call hb; clear hb o5 s5 k5)
    go_wp2_with (go_at_call 27; refine (HM.out _ _ _ o6).mono ?_; clear HM; rintro e w7 ⟨rfl, hb⟩; have s7 := s6.below hb (Nat.le_refl _); have k7 := k6.call hb; clear hb o6 s6 k6)
    go_wp2_with (go_at_call 19; refine (HP'.out _ _ _ s7).mono ?_; clear HP'; rintro e w8 ⟨P3, U3, l3, u3, rfl, hb⟩; have s8 := s7.below hb (Nat.le_refl _); have k8 := k7.call hb; clear hb s7 k7)
    go_wp2_with (go_at_call 32; refine (HS'.out _ _ _ s8).mono ?_; clear HS'; rintro e w9 ⟨v4, U4, u4, rfl, hb⟩; have s9 := s8.below hb (Nat.le_refl _); have k9 := k8.call hb; clear hb s8 k8)
    have hge2 : tn - 1 ≤ tm := by omega
    go_wp2_with (first | (go_at_call 27; refine (HM'.out _ _ _ s9).mono ?_; clear HM'; rintro e w10 ⟨rfl, hb⟩; have k10 := k9.call hb; clear hb s9 k9) | (go_at_call 22; refine (HA.out _).mono ?_; rintro e w11 ⟨rfl, hb⟩))
    go_ret
    exact ⟨rfl, k10.call hb⟩
  · have hd2 : ¬ (d : Int) = (r : Int) + 1 := by omega
    go_wp2_with (first
      | (go_at_call 49; refine (HMOD.out _).mono ?_; rintro e w2 ⟨rfl, rfl⟩)
      | (at_builtin; refine app_any _ rfl (.tmp 35) (.tmp 38) 22 rfl w1.heap.size 3 i0 Try.underlying22 HI.out.1 HI.out.2.1 HI.out.2.2.1 HI.out.2.2.2 (.slice none 0 0) 0 [] rfl (World.ownsRow_nil _ _ _ _) (some ⟨b0, off0, none⟩) r d (o.take r) rfl (HSL.out.take (by omega)) (by omega) (Nat.le_refl _) ?_; intro v1 w2 hown hg; have HO := Lib.hid hown; clear hown; have HG := Lib.hid hg; clear hg)
      | (at_builtin; (refine app_any _ rfl (.tmp 40) (.tmp 44) 22 rfl w1.heap.size 3 i0 Try.underlying22 HI.out.1 HI.out.2.1 HI.out.2.2.1 HI.out.2.2.2 v1 (0 + r) ([] ++ ints (o.take r)) rfl HO.out (some ⟨b0, off0 + (r + 1), none⟩) (N - (r + 1)) (d - (r + 1)) (o.drop (r + 1)) rfl ((HSL.out.dropK (by omega)).below (Below.of_grown HG.out rfl) (Nat.le_refl _)) (by omega) HG.out.size ?_); intro v2 w3 hown hg; obtain ⟨R, rc, rfl, hq3⟩ := HQ.out _ _ _ hown; have HQ3 := Lib.hid hq3; clear hq3; have hb3 : Below w1.heap.size w1 w3 := ((Below.refl _ _).grown HG.out (Nat.le_refl _) (by simp [Value.ownBlock])).grown hg HG.out.size (fun j e => (HO.out.lt j e).1); clear hown hg)
      | (go_at_call 48; refine (HT'.out _ _ _ HQ3.out).mono ?_; clear HT'; rintro e w4 ⟨B4, d4, rfl, hs4, hb4⟩))
    have k3 := Kp.call hb1 hb3
    have o3 := HSL.out.below hb3 (Nat.le_refl _)
    have k4 := k3.call hb4
    have o4 := o3.below hb4 (Nat.le_refl _)
    clear k3 o3 hb1 hb3 hb4
    go_wp2_with (go_at_call 19; refine (HP.out _ _ _ o4).mono ?_; clear HP; rintro e w5 ⟨P1, U1, u1, rfl, hb⟩; have o5 := o4.below hb (Nat.le_refl _); have s5 := hs4.below hb (Nat.le_refl _); have k5 := k4.call hb; clear hb o4 hs4 k4)
    go_wp2_with (go_at_call 32; refine (HS.out _ _ _ o5).mono ?_; clear HS; rintro e w6 ⟨v2, U2, u2, rfl, hb⟩; have o6 := o5.below hb (Nat.le_refl _); have s6 := s5.below hb (Nat.le_refl _); have k6 := k5.call hb; clear hb o5 s5 k5)
    go_wp2_with (go_at_call 27; refine (HM.out _ _ _ o6).mono ?_; clear HM; rintro e w7 ⟨rfl, hb⟩; have s7 := s6.below hb (Nat.le_refl _); have k7 := k6.call hb; clear hb o6 s6 k6)
    go_wp2_with (go_at_call 19; refine (HP'.out _ _ _ s7).mono ?_; clear HP'; rintro e w8 ⟨P3, U3, l3, u3, rfl, hb⟩; have s8 := s7.below hb (Nat.le_refl _); have k8 := k7.call hb; clear hb s7 k7)
    go_wp2_with (go_at_call 32; refine (HS'.out _ _ _ s8).mono ?_; clear HS'; rintro e w9 ⟨v4, U4, u4, rfl, hb⟩; have s9 := s8.below hb (Nat.le_refl _); have k9 := k8.call hb; clear hb s8 k8)
    have hge2 : tn - 1 ≤ tm := by omega
    go_wp2_with (first | (go_at_call 27; refine (HM'.out _ _ _ s9).mono ?_; clear HM'; rintro e w10 ⟨rfl, hb⟩; have k10 := k9.call hb; clear hb s9 k9) | (go_at_call 22; refine (HA.out _).mono ?_; rintro e w11 ⟨rfl, hb⟩))
    go_ret
    exact ⟨rfl, k10.call hb⟩
set_option maxHeartbeats 3200000 in
theorem more_block (hA : AwakeOk) (hP : StackOk) (hS : StacksOk) (hM : LeastOk) (A : Option Addr) (n c : Nat) (zs : List Int) (k : Int) (w : World) (hs : Sl w A n c zs)
    (N : Nat) (o : List Int) (hN : min n 25 = N) (hoe : tameOf zs N = o) (h0 : 0 < N) (r : Nat) (hmod : ∀ W, Calls Try.prog 49 #[.int .i64 k, .int .i64 (N : Int)] W fun e w' => e = .returned (.int .i64 r) ∧ W = w') (hr : r < N)
    (hp : ascB (passOf o) = false) (htwo : twoB o = false) :
    Calls Try.prog 13 #[.slice A n c, .int .i64 k] w fun e w' => e = .returned (.bool true) ∧ Below w.heap.size w w' := by
  have hol : o.length = N := by rw [← hoe, tameOf_len]
  have hord : Ord o := by rw [← hoe]; exact ord_tame zs N
  have hN25 : N ≤ 25 := by omega
  have hob : ordB o 60 = true := ordB_iff.2 ⟨hord, by omega⟩
  obtain ⟨q, hq⟩ : ∃ q, q = o.take r ++ o.drop (r + 1) := ⟨_, rfl⟩
  obtain ⟨s, hse⟩ : ∃ s, s = tameOf q (N - 1) := ⟨_, rfl⟩
  have hpart : Part s o (skip r) := by
    have := part_less hord.diff (k := r) (by omega)
    rw [hse, hq, ← hol]; exact this
  have hsl : s.length = N - 1 := by rw [hse, tameOf_len]
  have hql : q.length = N - 1 := by rw [hq, List.length_append, List.length_take, List.length_drop]; omega
  have hob' : ordB s 60 = true := ordB_iff.2 ⟨by rw [hse]; exact ord_tame q _, by omega⟩
  obtain ⟨tn, htn⟩ : ∃ t, leastOf o = t := ⟨_, rfl⟩
  obtain ⟨tm, htm⟩ : ∃ t, leastOf s = t := ⟨_, rfl⟩
  have hrn := least_rng o
  have hge : tn ≤ tm + 1 := by rw [← htn, ← htm]; exact hpart.least_ge (by omega) (by omega)
  have hle : tm ≤ tn := by
    rw [← htn, ← htm]
    rcases Nat.eq_zero_or_pos s.length with h | h
    · rw [List.eq_nil_of_length_eq_zero h]; exact least_one (o := o) (by omega)
    · exact hpart.least_le h
  rw [htn] at hrn
  have hrn1 : 0 ≤ tn := hrn.1
  have hrn2 : tn ≤ 26 := by have := hrn.2; omega
  clear hrn
  have HP : Hid (∀ B d W, Sl W B N d o → Calls Try.prog 19 #[.slice B N d] W fun e w' => ∃ (P : ByteArray) (U : Option Addr) (u' : Nat), e = .returned (.tuple #[.string P, .slice U 3 u', .int .i64 0]) ∧ Below W.heap.size W w') := fun B d W hsl => by
    refine (hP B _ d o W hsl).mono ?_
    rintro e w' ⟨P, v, x, t, rfl, hv, _, h3, _, h1, h2, hb⟩
    obtain ⟨_, hbk, rfl⟩ := h2 hob hp
    obtain ⟨U, u', rfl, _⟩ := hv.sl_len (sblock_len hbk).1 (by omega)
    exact ⟨P, U, u', rfl, hb⟩
  have HS : Hid (∀ B d W, Sl W B N d o → Calls Try.prog 32 #[.slice B N d] W fun e w' => ∃ (v : Value) (U : Option Addr) (l u' : Nat), e = .returned (.tuple #[v, .slice U l u', .int .i64 0]) ∧ 0 < l ∧ Below W.heap.size W w') := fun B d W hsl => by
    refine (hS B _ d o W hsl).mono ?_
    rintro e w' ⟨u, v, x, t, b, rfl, _, hv, _, h3, _, h1, h2, hb⟩
    obtain ⟨_, hbk, rfl⟩ := h2 hob htwo
    obtain ⟨U, u', rfl, _⟩ := hv.sl_len rfl (by omega)
    exact ⟨u, U, _, u', rfl, by have := tblock_len hbk; omega, hb⟩
  have HM : Hid (∀ B d W, Sl W B N d o → Calls Try.prog 27 #[.slice B N d] W fun e w' => e = .returned (.tuple #[.int .i64 tn, .int .i64 0]) ∧ Below W.heap.size W w') := fun B d W hsl => by
    refine (hM B _ d o W hsl).mono ?_
    rintro e w' ⟨m, x, rfl, _, h1, hb⟩
    obtain ⟨rfl, rfl⟩ := h1 hob
    exact ⟨by rw [htn], hb⟩
  have HP' : Hid (∀ B d W, Sl W B (N - 1) d s → Calls Try.prog 19 #[.slice B (N - 1) d] W fun e w' => ∃ (P : ByteArray) (U : Option Addr) (l u' : Nat), e = .returned (.tuple #[.string P, .slice U l u', .int .i64 0]) ∧ Below W.heap.size W w') := fun B d W hsl => by
    refine (hP B _ d s W hsl).mono ?_
    rintro e w' ⟨P, v, x, t, rfl, hv, _, h3, _, h1, h2, hb⟩
    obtain ⟨U, u', rfl, _⟩ := hv.sl_len rfl (by omega)
    have hx : x = 0 := by
      cases hh : ascB (passOf s) with
      | true => exact (h1 hob' hh).2.2
      | false => exact (h2 hob' hh).2.2
    subst hx
    exact ⟨P, U, _, u', rfl, hb⟩
  have HS' : Hid (∀ B d W, Sl W B (N - 1) d s → Calls Try.prog 32 #[.slice B (N - 1) d] W fun e w' => ∃ (v : Value) (U : Option Addr) (l u' : Nat), e = .returned (.tuple #[v, .slice U l u', .int .i64 0]) ∧ Below W.heap.size W w') := fun B d W hsl => by
    refine (hS B _ d s W hsl).mono ?_
    rintro e w' ⟨u, v, x, t, b, rfl, _, hv, _, h3, _, h1, h2, hb⟩
    obtain ⟨U, u', rfl, _⟩ := hv.sl_len rfl (by omega)
    have hx : x = 0 := by
      cases hh : twoB s with
      | true => exact (h1 hob' hh).2.2
      | false => exact (h2 hob' hh).2.2
    subst hx
    exact ⟨u, U, _, u', rfl, hb⟩
  have HM' : Hid (∀ B d W, Sl W B (N - 1) d s → Calls Try.prog 27 #[.slice B (N - 1) d] W fun e w' => e = .returned (.tuple #[.int .i64 tm, .int .i64 0]) ∧ Below W.heap.size W w') := fun B d W hsl => by
    refine (hM B _ d s W hsl).mono ?_
    rintro e w' ⟨m, x, rfl, _, h1, hb⟩
    obtain ⟨rfl, rfl⟩ := h1 hob'
    exact ⟨by rw [htm], hb⟩
  have HA := Lib.hid hA
  have HT : Hid (Calls Try.prog 48 #[.slice A n c, .int .i64 (25 : Nat)] w fun e w' => ∃ B d, e = .returned (.slice B N d) ∧ Sl w' B N d o ∧ Below w.heap.size w w') := by
    refine (tame_any A n c zs 25 w hs (by omega)).mono ?_
    rintro e w1 ⟨v, rfl, hv, hb⟩
    rw [hN, hoe] at hv
    obtain ⟨B, d, rfl, hsl⟩ := hv.sl_len hol (by omega)
    exact ⟨B, d, rfl, hsl, hb⟩
  have HT' : Hid (∀ R rc W, Sl W R (N - 1) rc q → Calls Try.prog 48 #[.slice R (N - 1) rc, .int .i64 (25 : Nat)] W fun e w' => ∃ B d, e = .returned (.slice B (N - 1) d) ∧ Sl w' B (N - 1) d s ∧ Below W.heap.size W w') := fun R rc W hR => by
    refine (tame_any R (N - 1) rc q 25 W hR (by omega)).mono ?_
    rintro e w1 ⟨v, rfl, hv, hb⟩
    rw [Nat.min_eq_left (by omega), ← hse] at hv
    obtain ⟨B, d, rfl, hsl'⟩ := hv.sl_len hsl (by omega)
    exact ⟨B, d, rfl, hsl', hb⟩
  have HMOD := Lib.hid hmod
  have HQ : Hid (∀ (W : World) (B' : Nat) (v : Value), W.ownsRow B' 3 1 v (0 + r + (N - (r + 1))) ([] ++ ints (o.take r) ++ ints (o.drop (r + 1))) → ∃ R rc, v = .slice R (N - 1) rc ∧ Sl W R (N - 1) rc q) := fun W B' v h => by
    have ho : Ow W B' 3 v q := by
      unfold Ow
      rw [hql, show N - 1 = 0 + r + (N - (r + 1)) from by omega, hq]
      simpa using h
    exact ho.sl_len hql (by omega)
  have HOL := Lib.hid hol
  have g0 : ((N : Int) == 0) = false := by simp; omega
  obtain ⟨i0, hi, hz0, hz1, hz2⟩ := info_parts Try.infoInt
  have HI : Hid (Try.prog.info? 3 = some i0 ∧ i0.zero = some (.int .i64 0) ∧ i0.size = 1 ∧ i0.bytes = 8) := ⟨hi, hz0, hz1, hz2⟩
  clear hi hz0 hz1 hz2 hA hP hS hM hs hN hoe hol hord hob hob' hmod hp hpart hsl hql hq hse htn htm htwo
  go_enter Try.func13, Try.ntmps13
  go_wp2_with fail
  refine HT.out.mono ?_
  clear HT
  rintro e w1 ⟨B, d, rfl, hsl, hb1⟩
  have hcap := hsl.cap
  obtain ⟨b0, off0, rfl, _⟩ := hsl.cells h0
  have HSL := Lib.hid hsl; clear hsl
  have q1 : (r : Int) ≤ (d : Int) := by omega
  have q2 : (r : Int) + 1 ≤ (N : Int) := by omega
  by_cases hd : d = r + 1
  · subst hd
    have hz : N - (r + 1) = 0 := by omega
    have HQE : Hid (∀ (W : World) (B' : Nat) (v : Value), W.ownsRow B' 3 1 v (0 + r + 0) ([] ++ ints (o.take r) ++ ints (o.drop (r + 1))) → ∃ R rc, v = .slice R (N - 1) rc ∧ Sl W R (N - 1) rc q) := by
      have h := HQ.out
      rw [hz] at h
      exact h
    have HSE : Hid (Sl w1 (some ⟨b0, off0, none⟩) 0 0 (o.drop (r + 1))) := by
      have h := HSL.out.dropEnd (k := r + 1) (by omega)
      rw [hz] at h
      exact h
    clear hz
    go_wp2_with (first
      | (go_at_call 49; refine (HMOD.out _).mono ?_; rintro e w2 ⟨rfl, rfl⟩)
      | (at_builtin; refine app_any _ rfl (.tmp 35) (.tmp 38) 22 rfl w1.heap.size 3 i0 Try.underlying22 HI.out.1 HI.out.2.1 HI.out.2.2.1 HI.out.2.2.2 (.slice none 0 0) 0 [] rfl (World.ownsRow_nil _ _ _ _) (some ⟨b0, off0, none⟩) r (r + 1) (o.take r) rfl (HSL.out.take (by omega)) (by omega) (Nat.le_refl _) ?_; intro v1 w2 hown hg; have HO := Lib.hid hown; clear hown; have HG := Lib.hid hg; clear hg)
      | (at_builtin; (refine app_any _ rfl (.tmp 40) (.tmp 44) 22 rfl w1.heap.size 3 i0 Try.underlying22 HI.out.1 HI.out.2.1 HI.out.2.2.1 HI.out.2.2.2 v1 (0 + r) ([] ++ ints (o.take r)) rfl HO.out (some ⟨b0, off0, none⟩) 0 0 (o.drop (r + 1)) rfl (HSE.out.below (Below.of_grown HG.out rfl) (Nat.le_refl _)) (by omega) HG.out.size ?_); intro v2 w3 hown hg; obtain ⟨R, rc, rfl, hq3⟩ := HQE.out _ _ _ hown; have HQ3 := Lib.hid hq3; clear hq3; have hb3 : Below w1.heap.size w1 w3 := ((Below.refl _ _).grown HG.out (Nat.le_refl _) (by simp [Value.ownBlock])).grown hg HG.out.size (fun j e => (HO.out.lt j e).1); clear hown hg)
      | (go_at_call 48; refine (HT'.out _ _ _ HQ3.out).mono ?_; clear HT'; rintro e w4 ⟨B4, d4, rfl, hs4, hb4⟩))
    have k3 := Kp.call hb1 hb3
    have o3 := HSL.out.below hb3 (Nat.le_refl _)
    have k4 := k3.call hb4
    have o4 := o3.below hb4 (Nat.le_refl _)
    clear k3 o3 hb1 hb3 hb4
    go_wp2_with (go_at_call 19; refine (HP.out _ _ _ o4).mono ?_; clear HP; rintro e w5 ⟨P1, U1, u1, rfl, hb⟩; have o5 := o4.below hb (Nat.le_refl _); have s5 := hs4.below hb (Nat.le_refl _); have k5 := k4.call hb; clear hb o4 hs4 k4)
    go_wp2_with (go_at_call 32; refine (HS.out _ _ _ o5).mono ?_; clear HS; rintro e w6 ⟨v2, U2, l2, u2, rfl, hl2, hb⟩; have o6 := o5.below hb (Nat.le_refl _); have s6 := s5.below hb (Nat.le_refl _); have k6 := k5.call hb; clear hb o5 s5 k5)
    go_wp2_with (go_at_call 27; refine (HM.out _ _ _ o6).mono ?_; clear HM; rintro e w7 ⟨rfl, hb⟩; have s7 := s6.below hb (Nat.le_refl _); have k7 := k6.call hb; clear hb o6 s6 k6)
    go_wp2_with (go_at_call 19; refine (HP'.out _ _ _ s7).mono ?_; clear HP'; rintro e w8 ⟨P3, U3, l3, u3, rfl, hb⟩; have s8 := s7.below hb (Nat.le_refl _); have k8 := k7.call hb; clear hb s7 k7)
    go_wp2_with (go_at_call 32; refine (HS'.out _ _ _ s8).mono ?_; clear HS'; rintro e w9 ⟨v4, U4, l4, u4, rfl, hb⟩; have s9 := s8.below hb (Nat.le_refl _); have k9 := k8.call hb; clear hb s8 k8)
    have hge2 : tn - 1 ≤ tm := by omega
    go_wp2_with (first | (go_at_call 27; refine (HM'.out _ _ _ s9).mono ?_; clear HM'; rintro e w10 ⟨rfl, hb⟩; have k10 := k9.call hb; clear hb s9 k9) | (go_at_call 22; refine (HA.out _).mono ?_; rintro e w11 ⟨rfl, hb⟩))
    go_ret
    exact ⟨rfl, k10.call hb⟩
  · have hd2 : ¬ (d : Int) = (r : Int) + 1 := by omega
    go_wp2_with (first
      | (go_at_call 49; refine (HMOD.out _).mono ?_; rintro e w2 ⟨rfl, rfl⟩)
      | (at_builtin; refine app_any _ rfl (.tmp 35) (.tmp 38) 22 rfl w1.heap.size 3 i0 Try.underlying22 HI.out.1 HI.out.2.1 HI.out.2.2.1 HI.out.2.2.2 (.slice none 0 0) 0 [] rfl (World.ownsRow_nil _ _ _ _) (some ⟨b0, off0, none⟩) r d (o.take r) rfl (HSL.out.take (by omega)) (by omega) (Nat.le_refl _) ?_; intro v1 w2 hown hg; have HO := Lib.hid hown; clear hown; have HG := Lib.hid hg; clear hg)
      | (at_builtin; (refine app_any _ rfl (.tmp 40) (.tmp 44) 22 rfl w1.heap.size 3 i0 Try.underlying22 HI.out.1 HI.out.2.1 HI.out.2.2.1 HI.out.2.2.2 v1 (0 + r) ([] ++ ints (o.take r)) rfl HO.out (some ⟨b0, off0 + (r + 1), none⟩) (N - (r + 1)) (d - (r + 1)) (o.drop (r + 1)) rfl ((HSL.out.dropK (by omega)).below (Below.of_grown HG.out rfl) (Nat.le_refl _)) (by omega) HG.out.size ?_); intro v2 w3 hown hg; obtain ⟨R, rc, rfl, hq3⟩ := HQ.out _ _ _ hown; have HQ3 := Lib.hid hq3; clear hq3; have hb3 : Below w1.heap.size w1 w3 := ((Below.refl _ _).grown HG.out (Nat.le_refl _) (by simp [Value.ownBlock])).grown hg HG.out.size (fun j e => (HO.out.lt j e).1); clear hown hg)
      | (go_at_call 48; refine (HT'.out _ _ _ HQ3.out).mono ?_; clear HT'; rintro e w4 ⟨B4, d4, rfl, hs4, hb4⟩))
    have k3 := Kp.call hb1 hb3
    have o3 := HSL.out.below hb3 (Nat.le_refl _)
    have k4 := k3.call hb4
    have o4 := o3.below hb4 (Nat.le_refl _)
    clear k3 o3 hb1 hb3 hb4
    go_wp2_with (go_at_call 19; refine (HP.out _ _ _ o4).mono ?_; clear HP; rintro e w5 ⟨P1, U1, u1, rfl, hb⟩; have o5 := o4.below hb (Nat.le_refl _); have s5 := hs4.below hb (Nat.le_refl _); have k5 := k4.call hb; clear hb o4 hs4 k4)
    go_wp2_with (go_at_call 32; refine (HS.out _ _ _ o5).mono ?_; clear HS; rintro e w6 ⟨v2, U2, l2, u2, rfl, hl2, hb⟩; have o6 := o5.below hb (Nat.le_refl _); have s6 := s5.below hb (Nat.le_refl _); have k6 := k5.call hb; clear hb o5 s5 k5)
    go_wp2_with (go_at_call 27; refine (HM.out _ _ _ o6).mono ?_; clear HM; rintro e w7 ⟨rfl, hb⟩; have s7 := s6.below hb (Nat.le_refl _); have k7 := k6.call hb; clear hb o6 s6 k6)
    go_wp2_with (go_at_call 19; refine (HP'.out _ _ _ s7).mono ?_; clear HP'; rintro e w8 ⟨P3, U3, l3, u3, rfl, hb⟩; have s8 := s7.below hb (Nat.le_refl _); have k8 := k7.call hb; clear hb s7 k7)
    go_wp2_with (go_at_call 32; refine (HS'.out _ _ _ s8).mono ?_; clear HS'; rintro e w9 ⟨v4, U4, l4, u4, rfl, hb⟩; have s9 := s8.below hb (Nat.le_refl _); have k9 := k8.call hb; clear hb s8 k8)
    have hge2 : tn - 1 ≤ tm := by omega
    go_wp2_with (first | (go_at_call 27; refine (HM'.out _ _ _ s9).mono ?_; clear HM'; rintro e w10 ⟨rfl, hb⟩; have k10 := k9.call hb; clear hb s9 k9) | (go_at_call 22; refine (HA.out _).mono ?_; rintro e w11 ⟨rfl, hb⟩))
    go_ret
    exact ⟨rfl, k10.call hb⟩
theorem more_law (hA : AwakeOk) (hP : StackOk) (hS : StacksOk) (hM : LeastOk) (A : Option Addr) (n c : Nat) (zs : List Int) (k : Int) (w : World) (hs : Sl w A n c zs) :
    Calls Try.prog 13 #[.slice A n c, .int .i64 k] w fun e w' => e = .returned (.bool true) ∧ Below w.heap.size w w' := by
  obtain ⟨N, hN⟩ : ∃ N, min n 25 = N := ⟨_, rfl⟩
  rcases Nat.eq_zero_or_pos N with h0 | h0
  · exact more_none hA hP hS hM A n c zs k w hs (hN.trans h0)
  · obtain ⟨r, hr, hrN⟩ := mod_val k N (by omega) (by omega)
    have hmod : ∀ W, Calls Try.prog 49 #[.int .i64 k, .int .i64 (N : Int)] W fun e w' => e = .returned (.int .i64 r) ∧ W = w' := fun W => mod_is k N W (by omega) (by omega) r hr
    have hr' : r < N := by omega
    cases hp : ascB (passOf (tameOf zs N)) with
    | true => exact more_one hA hP hS hM A n c zs k w hs N _ hN rfl h0 r hmod hr' hp
    | false =>
      cases h2 : twoB (tameOf zs N) with
      | true => exact more_two hA hP hS hM A n c zs k w hs N _ hN rfl h0 r hmod hr' hp h2
      | false => exact more_block hA hP hS hM A n c zs k w hs N _ hN rfl h0 r hmod hr' hp h2
end Go.Proofs.Ytmnnehpoaedifaa
