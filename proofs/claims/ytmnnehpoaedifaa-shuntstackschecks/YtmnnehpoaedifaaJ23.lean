import Derived.Test.YtmnnehpoaedifaaJ10
import Derived.Test.YtmnnehpoaedifaaJ19
import Derived.Test.YtmnnehpoaedifaaJ16
/- The law ShuntQueuesChecks, from what the program's functions promise. -/
namespace Go.Proofs.Ytmnnehpoaedifaa
open Go.RowKit

/-- Three slices of ints that stand, and what was there in w0. -/
structure Tri (w0 : World) (B B1 B2 : Option Addr) (m d q d1 r d2 : Nat) (o l b : List Int) (W : World) : Prop where
  kp : Kp w0 W
  so : Sl W B m d o
  sl : Sl W B1 q d1 l
  sb : Sl W B2 r d2 b
theorem Tri.call {w0 : World} {B B1 B2 : Option Addr} {m d q d1 r d2 : Nat} {o l b : List Int} {W W' : World} (h : Tri w0 B B1 B2 m d q d1 r d2 o l b W) (hb : Below W.heap.size W W') : Tri w0 B B1 B2 m d q d1 r d2 o l b W' :=
  ⟨h.kp.call hb, h.so.below hb (Nat.le_refl _), h.sl.below hb (Nat.le_refl _), h.sb.below hb (Nat.le_refl _)⟩
theorem Tri.drew {w0 : World} {B B1 B2 : Option Addr} {m d q d1 r d2 : Nat} {o l b : List Int} {W : World} (h : Tri w0 B B1 B2 m d q d1 r d2 o l b W) : Tri w0 B B1 B2 m d q d1 r d2 o l b W.drew :=
  ⟨Kp.drew h.kp, h.so.dr ⟨1, rfl⟩, h.sl.dr ⟨1, rfl⟩, h.sb.dr ⟨1, rfl⟩⟩
theorem tri_order {w0 : World} {B B1 B2 : Option Addr} {m d q d1 r d2 : Nat} {o l b : List Int} {W : World} (h : Tri w0 B B1 B2 m d q d1 r d2 o l b W) (hm : m ≤ 61) (v : Bool) (hv : v = ordB o 60) :
    Calls Try.prog 20 #[.slice B m d, .int .i64 60] W fun e w' => e = .returned (.bool v) ∧ Tri w0 B B1 B2 m d q d1 r d2 o l b w' :=
  (order_sl B m d o W h.so (by omega) v hv).mono fun _ _ ⟨he, hb⟩ => ⟨he, h.call hb⟩
theorem tri_awake (hA : AwakeOk) {w0 : World} {B B1 B2 : Option Addr} {m d q d1 r d2 : Nat} {o l b : List Int} {W : World} (h : Tri w0 B B1 B2 m d q d1 r d2 o l b W) :
    Calls Try.prog 22 #[] W fun e w' => e = .returned (.bool true) ∧ Tri w0 B B1 B2 m d q d1 r d2 o l b w' :=
  (hA W).mono fun _ _ ⟨he, hb⟩ => ⟨he, h.call hb⟩
theorem tri_checkQ (hC : CheckQueuesOk) {w0 : World} {B B1 B2 : Option Addr} {m d q d1 r d2 : Nat} {o l b : List Int} {W : World} (h : Tri w0 B B1 B2 m d q d1 r d2 o l b W) (hq : q ≤ 61) (hr : r ≤ 61) (k : Int) :
    Calls Try.prog 28 #[.slice B m d, .int .i64 k, .slice B1 q d1, .slice B2 r d2] W fun e w' => e = .returned (.int .i64 (checkQueuesOf o k l b)) ∧ Tri w0 B B1 B2 m d q d1 r d2 o l b w' :=
  (hC B B1 B2 m d q d1 r d2 o l b k W h.so h.sl h.sb (by omega) (by omega)).mono fun _ _ ⟨he, hb⟩ => ⟨he, h.call hb⟩
theorem tri_lanes {w0 : World} {B B1 B2 : Option Addr} {m d q d1 r d2 : Nat} {o l b : List Int} {W : World} (h : Tri w0 B B1 B2 m d q d1 r d2 o l b W) (hm : m ≤ 61) (hq : q ≤ 61) (k : Int) (v : Bool) (hv : v = lanesB o k l) :
    Calls Try.prog 30 #[.slice B m d, .int .i64 k, .slice B1 q d1] W fun e w' => e = .returned (.bool v) ∧ Tri w0 B B1 B2 m d q d1 r d2 o l b w' := by
  rw [hv]
  exact (lanesSort_any B B1 m d q d1 o l k W h.so h.sl (by omega) (by omega)).mono fun _ _ ⟨he, hb⟩ => ⟨he, h.call (hb.below _)⟩
theorem tri_qblock {w0 : World} {B B1 B2 : Option Addr} {m d q d1 r d2 : Nat} {o l b : List Int} {W : World} (h : Tri w0 B B1 B2 m d q d1 r d2 o l b W) (hm : m ≤ 61) (hr : r ≤ 61) (k : Int) (hk0 : 0 ≤ k) (hk1 : k ≤ 60) (v : Bool) (hv : v = qblockB o k b) :
    Calls Try.prog 31 #[.slice B m d, .int .i64 k, .slice B2 r d2] W fun e w' => e = .returned (.bool v) ∧ Tri w0 B B1 B2 m d q d1 r d2 o l b w' := by
  rw [hv]
  exact (queuesBlock_any B B2 m d r d2 o b k W h.so h.sb (by omega) (by omega) hk0 (by omega)).mono fun _ _ ⟨he, hb⟩ => ⟨he, h.call (hb.below _)⟩

set_option maxHeartbeats 3200000 in
theorem queuesChecks_law (hA : AwakeOk) (hC : CheckQueuesOk) (A A1 A2 : Option Addr) (n c n1 c1 n2 c2 : Nat) (zs za zb : List Int) (k : Int) (w : World) (hs : Sl w A n c zs) (hs1 : Sl w A1 n1 c1 za) (hs2 : Sl w A2 n2 c2 zb) :
    Calls Try.prog 6 #[.slice A n c, .int .i64 k, .agg #[.slice A1 n1 c1, .slice A2 n2 c2]] w fun e w' => e = .returned (.bool true) ∧ Below w.heap.size w w' := by
  obtain ⟨m, o, hm, hoe, hlen, hm61⟩ := list_has hs
  obtain ⟨q, l, hq, hle, hllen, hq61⟩ := list_has hs1
  obtain ⟨r, b, hr, hbe, hblen, hr61⟩ := list_has hs2
  have HA := Lib.hid hA; clear hA
  have HC := Lib.hid hC; clear hC
  obtain ⟨w0, hw0⟩ : ∃ w0, w0 = w.alloc (.cells #[.slice A1 n1 c1, .slice A2 n2 c2] 42) := ⟨_, rfl⟩
  have HS := Lib.hid (hs.alloc (.cells #[.slice A1 n1 c1, .slice A2 n2 c2] 42))
  have HS1 := Lib.hid (hs1.alloc (.cells #[.slice A1 n1 c1, .slice A2 n2 c2] 42))
  have HS2 := Lib.hid (hs2.alloc (.cells #[.slice A1 n1 c1, .slice A2 n2 c2] 42))
  have HW0 : Hid (Below w.heap.size w w0) := by rw [hw0]; exact (Below.refl _ _).alloc (Nat.le_refl _) _
  have HCL : Hid (∀ W, Kp w0 W → W.cell? ⟨w.heap.size, 0, none⟩ = some (.slice A1 n1 c1) ∧ W.cell? ⟨w.heap.size, 1, none⟩ = some (.slice A2 n2 c2)) := fun W h => by
    have hlt : w.heap.size < w0.heap.size := by rw [hw0]; simp
    exact ⟨(Below.cell h hlt).trans (by rw [hw0]; simp), (Below.cell h hlt).trans (by rw [hw0]; simp)⟩
  rw [← hw0] at HS HS1 HS2
  clear hs hs1 hs2
  have HL0 : Hid (∀ W, Kp w0 W → Calls Try.prog 18 #[.slice A n c] W fun e w' => ∃ (B : Option Addr) (d : Nat), e = .returned (.slice B m d) ∧ Sl w' B m d o ∧ Kp w0 w' ∧ Below W.heap.size W w') := fun W h => (list_sl A n c zs W (HS.out.below h (Nat.le_refl _)) m o hm hoe).mono fun e w' ⟨B, d, he, hs, hb⟩ => ⟨B, d, he, hs, h.call hb, hb⟩
  have HL1 : Hid (∀ W, Kp w0 W → Calls Try.prog 18 #[.slice A1 n1 c1] W fun e w' => ∃ (B : Option Addr) (d : Nat), e = .returned (.slice B q d) ∧ Sl w' B q d l ∧ Kp w0 w' ∧ Below W.heap.size W w') := fun W h => (list_sl A1 n1 c1 za W (HS1.out.below h (Nat.le_refl _)) q l hq hle).mono fun e w' ⟨B, d, he, hs, hb⟩ => ⟨B, d, he, hs, h.call hb, hb⟩
  have HL2 : Hid (∀ W, Kp w0 W → Calls Try.prog 18 #[.slice A2 n2 c2] W fun e w' => ∃ (B : Option Addr) (d : Nat), e = .returned (.slice B r d) ∧ Sl w' B r d b ∧ Kp w0 w' ∧ Below W.heap.size W w') := fun W h => (list_sl A2 n2 c2 zb W (HS2.out.below h (Nat.le_refl _)) r b hr hbe).mono fun e w' ⟨B, d, he, hs, hb⟩ => ⟨B, d, he, hs, h.call hb, hb⟩
  clear hm hoe hq hle hr hbe
  have HK0 : Hid (Kp w0 w0) := Below.refl _ _
  go_enter Try.func6, Try.ntmps6
  go_wp2_with fail
  rw [← hw0]
  have HW := Lib.hid hw0; clear hw0
  rename_i K hK
  have REST : ∀ (B : Option Addr) (d : Nat) (B1 : Option Addr) (d1 : Nat) (B2 : Option Addr) (d2 : Nat) (w3 : World), Tri w0 B B1 B2 m d q d1 r d2 o l b w3 →
      K { tmps := #[.slice A n c, .int .i64 k, .agg #[.slice A1 n1 c1, .slice A2 n2 c2], undef, undef, .pointer (some ⟨w.heap.size, 0, none⟩), .bool false, .slice B m d, .slice B1 q d1, .slice B2 r d2, undef, .slice A n c, .slice B m d, .pointer (some ⟨w.heap.size, 0, none⟩), .slice A1 n1 c1, .slice B1 q d1, .pointer (some ⟨w.heap.size, 1, none⟩), .slice A2 n2 c2, .slice B2 r d2, undef, undef, undef, undef, undef, undef, undef, undef, undef, undef, undef, undef, undef, undef, undef, undef, undef, undef, undef, undef, undef, undef, undef, undef, undef, undef, undef, undef, undef, undef, undef, undef, undef, undef, undef, undef, undef, undef, undef, undef, undef, undef, undef, undef, undef, undef, undef, undef, undef, undef, undef, undef, undef, undef, undef, undef], defers := [] } w3 := by
    intro B d B1 d1 B2 d2 w3 HT0
    refine hK _ _ ?_
    clear hK
    have HLN := Lib.hid hlen; clear hlen
    have HLL := Lib.hid hllen; clear hllen
    have HBN := Lib.hid hblen; clear hblen
    go_wp2_with (go_at_call 28; refine (tri_checkQ HC.out HT0 hq61 hr61 k).mono ?_; clear HT0; rintro e w4 ⟨rfl, hT1⟩)
    cases hob : ordB o 60 with
    | false =>
      have HOB : Hid (false = ordB o 60) := hob.symm
      clear hob
      have HV : Hid (checkQueuesOf o k l b = 2) := by
        unfold checkQueuesOf; rw [Hid, if_neg (fun h => by rw [← HOB.out] at h; cases h.1)]
      rw [HV.out]
      go_wp2_with (first | (go_at_call 20; refine (tri_order hT1 hm61 _ HOB.out).mono ?_; rintro e w5 ⟨rfl, hT2⟩) | (go_at_call 22; refine (tri_awake HA.out hT2).mono ?_; rintro e w8 ⟨rfl, hT9⟩))
      go_ret
      exact ⟨rfl, HW0.out.trans (hT9.kp.mono HW0.out.size)⟩
    | true =>
      have HOB : Hid (true = ordB o 60) := hob.symm
      clear hob
      by_cases hk1 : k < 1
      · have g1 : decide (k < 1) = true := by simpa using hk1
        have HV : Hid (checkQueuesOf o k l b = 2) := by
          unfold checkQueuesOf; rw [Hid, if_neg (fun h => by have := h.2.1; omega)]
        rw [HV.out]
        go_wp2_with (first | (go_at_call 20; refine (tri_order hT1 hm61 _ HOB.out).mono ?_; rintro e w5 ⟨rfl, hT2⟩) | (go_at_call 22; refine (tri_awake HA.out hT2).mono ?_; rintro e w8 ⟨rfl, hT9⟩))
        go_ret
        exact ⟨rfl, HW0.out.trans (hT9.kp.mono HW0.out.size)⟩
      · have g1 : decide (k < 1) = false := by simpa using hk1
        by_cases hk2 : 60 < k
        · have g2 : decide (60 < k) = true := by simpa using hk2
          have HV : Hid (checkQueuesOf o k l b = 2) := by
            unfold checkQueuesOf; rw [Hid, if_neg (fun h => by have := h.2.2; omega)]
          rw [HV.out]
          go_wp2_with (first | (go_at_call 20; refine (tri_order hT1 hm61 _ HOB.out).mono ?_; rintro e w5 ⟨rfl, hT2⟩) | (go_at_call 22; refine (tri_awake HA.out hT2).mono ?_; rintro e w8 ⟨rfl, hT9⟩))
          go_ret
          exact ⟨rfl, HW0.out.trans (hT9.kp.mono HW0.out.size)⟩
        · have g2 : decide (60 < k) = false := by simpa using hk2
          have HK1 : Hid (0 ≤ k) := by rw [Hid]; omega
          have HK2 : Hid (k ≤ 60) := by rw [Hid]; omega
          have HKK : Hid (1 ≤ k ∧ k ≤ 60) := by rw [Hid]; omega
          clear hk1 hk2
          cases hpl : lanesB o k l with
          | true =>
            have HPB : Hid (true = lanesB o k l) := hpl.symm
            have HLE : Hid (l.length = o.length) := by
              unfold lanesB at hpl
              rw [Bool.and_eq_true, decide_eq_true_eq] at hpl
              exact hpl.1
            clear hpl
            by_cases hr0 : r = 0
            · have gr : ((r : Int) == 0) = true := by simp; omega
              have HR0 := Lib.hid hr0; clear hr0
              have HV : Hid (checkQueuesOf o k l b = 0) := by
                unfold checkQueuesOf; rw [Hid, if_pos ⟨HOB.out.symm, HKK.out⟩]
                rw [if_pos (.inl ⟨HPB.out.symm, by rw [HBN.out]; exact HR0.out⟩)]
              rw [HV.out]
              go_wp2_with (first | (go_at_call 20; refine (tri_order hT1 hm61 _ HOB.out).mono ?_; rintro e w5 ⟨rfl, hT2⟩) | (go_at_call 30; refine (tri_lanes hT2 hm61 hq61 k _ HPB.out).mono ?_; rintro e w6 ⟨rfl, hT3⟩) | (go_at_call 22; refine (tri_awake HA.out hT3).mono ?_; rintro e w8 ⟨rfl, hT9⟩))
              go_ret
              exact ⟨rfl, HW0.out.trans (hT9.kp.mono HW0.out.size)⟩
            · have gr : ((r : Int) == 0) = false := by simp; omega
              by_cases hq0 : q = 0
              · have gq : ((q : Int) == 0) = true := by simp; omega
                have hm0 : m = 0 := by have h1 := HLE.out; have h2 := HLN.out; have h3 := HLL.out; omega
                have HQ0 := Lib.hid hq0; clear hq0
                subst hm0
                have HV : Hid (checkQueuesOf o k l b = 10) := by
                  unfold checkQueuesOf; rw [Hid, if_pos ⟨HOB.out.symm, HKK.out⟩]
                  rw [if_neg (by rintro (h | h); exact hr0 (by rw [← HBN.out]; exact h.2); have h1 := h.2.1; have h2 := HLN.out; omega)]
                rw [HV.out]
                go_wp2_with (first | (go_at_call 20; refine (tri_order hT1 hm61 _ HOB.out).mono ?_; rintro e w5 ⟨rfl, hT2⟩) | (go_at_call 30; refine (tri_lanes hT2 hm61 hq61 k _ HPB.out).mono ?_; rintro e w6 ⟨rfl, hT3⟩) | (go_at_call 22; refine (tri_awake HA.out hT3).mono ?_; rintro e w8 ⟨rfl, hT9⟩))
                go_ret
                exact ⟨rfl, HW0.out.trans (hT9.kp.mono HW0.out.size)⟩
              · have gq : ((q : Int) == 0) = false := by simp; omega
                have HV : Hid (checkQueuesOf o k l b = 10) := by
                  unfold checkQueuesOf; rw [Hid, if_pos ⟨HOB.out.symm, HKK.out⟩]
                  rw [if_neg (by rintro (h | h); exact hr0 (by rw [← HBN.out]; exact h.2); exact hq0 (by rw [← HLL.out]; exact h.1))]
                rw [HV.out]
                go_wp2_with (first | (go_at_call 20; refine (tri_order hT1 hm61 _ HOB.out).mono ?_; rintro e w5 ⟨rfl, hT2⟩) | (go_at_call 30; refine (tri_lanes hT2 hm61 hq61 k _ HPB.out).mono ?_; rintro e w6 ⟨rfl, hT3⟩) | (go_at_call 22; refine (tri_awake HA.out hT3).mono ?_; rintro e w8 ⟨rfl, hT9⟩))
                go_ret
                exact ⟨rfl, HW0.out.trans (hT9.kp.mono HW0.out.size)⟩
          | false =>
            have HPB : Hid (false = lanesB o k l) := hpl.symm
            by_cases hq0 : q = 0
            · have gq : ((q : Int) == 0) = true := by simp; omega
              have hm0 : 0 < m := by
                rcases Nat.eq_zero_or_pos m with h | h
                · exfalso
                  rw [List.eq_nil_of_length_eq_zero (HLN.out.trans h), List.eq_nil_of_length_eq_zero (HLL.out.trans hq0)] at hpl
                  exact absurd hpl (by simp [lanesB, allB])
                · exact h
              have gm : decide (0 < (m : Int)) = true := by simp; omega
              have HM0 := Lib.hid hm0; clear hm0
              have HQ0 := Lib.hid hq0; clear hq0
              clear hpl
              cases hsb : qblockB o k b with
              | true =>
                have HBB : Hid (true = qblockB o k b) := hsb.symm
                clear hsb
                have HV : Hid (checkQueuesOf o k l b = 0) := by
                  unfold checkQueuesOf; rw [Hid, if_pos ⟨HOB.out.symm, HKK.out⟩]
                  rw [if_pos (.inr ⟨by rw [HLL.out]; exact HQ0.out, by rw [HLN.out]; exact HM0.out, HBB.out.symm⟩)]
                rw [HV.out]
                go_wp2_with (first | (go_at_call 20; refine (tri_order hT1 hm61 _ HOB.out).mono ?_; rintro e w5 ⟨rfl, hT2⟩) | (go_at_call 30; refine (tri_lanes hT2 hm61 hq61 k _ HPB.out).mono ?_; rintro e w6 ⟨rfl, hT3⟩) | (go_at_call 31; refine (tri_qblock hT3 hm61 hr61 k HK1.out HK2.out _ HBB.out).mono ?_; rintro e w7 ⟨rfl, hT4⟩) | (go_at_call 22; refine (tri_awake HA.out hT4).mono ?_; rintro e w8 ⟨rfl, hT9⟩))
                go_ret
                exact ⟨rfl, HW0.out.trans (hT9.kp.mono HW0.out.size)⟩
              | false =>
                have HBB : Hid (false = qblockB o k b) := hsb.symm
                clear hsb
                have HV : Hid (checkQueuesOf o k l b = 10) := by
                  unfold checkQueuesOf; rw [Hid, if_pos ⟨HOB.out.symm, HKK.out⟩]
                  rw [if_neg (by rintro (h | h); rw [← HPB.out] at h; cases h.1; rw [← HBB.out] at h; cases h.2.2)]
                rw [HV.out]
                go_wp2_with (first | (go_at_call 20; refine (tri_order hT1 hm61 _ HOB.out).mono ?_; rintro e w5 ⟨rfl, hT2⟩) | (go_at_call 30; refine (tri_lanes hT2 hm61 hq61 k _ HPB.out).mono ?_; rintro e w6 ⟨rfl, hT3⟩) | (go_at_call 31; refine (tri_qblock hT3 hm61 hr61 k HK1.out HK2.out _ HBB.out).mono ?_; rintro e w7 ⟨rfl, hT4⟩) | (go_at_call 22; refine (tri_awake HA.out hT4).mono ?_; rintro e w8 ⟨rfl, hT9⟩))
                go_ret
                exact ⟨rfl, HW0.out.trans (hT9.kp.mono HW0.out.size)⟩
            · have gq : ((q : Int) == 0) = false := by simp; omega
              clear hpl
              have HV : Hid (checkQueuesOf o k l b = 10) := by
                unfold checkQueuesOf; rw [Hid, if_pos ⟨HOB.out.symm, HKK.out⟩]
                rw [if_neg (by rintro (h | h); rw [← HPB.out] at h; cases h.1; exact hq0 (by rw [← HLL.out]; exact h.1))]
              rw [HV.out]
              go_wp2_with (first | (go_at_call 20; refine (tri_order hT1 hm61 _ HOB.out).mono ?_; rintro e w5 ⟨rfl, hT2⟩) | (go_at_call 30; refine (tri_lanes hT2 hm61 hq61 k _ HPB.out).mono ?_; rintro e w6 ⟨rfl, hT3⟩) | (go_at_call 22; refine (tri_awake HA.out hT3).mono ?_; rintro e w8 ⟨rfl, hT9⟩))
              go_ret
              exact ⟨rfl, HW0.out.trans (hT9.kp.mono HW0.out.size)⟩
  obtain ⟨f0, f1⟩ := HCL.out _ HK0.out
  go_region_with (first
    | (go_at_call 18; (with_reducible refine (HL0.out _ ?_).mono ?_); (first | exact HK0.out | exact Kp.drew HK0.out); rintro e w1 ⟨B, d, rfl, hsl0, hk1, hb1⟩; obtain ⟨f2, f3⟩ := HCL.out _ hk1; clear hb1)
    | (go_at_call 18; (with_reducible refine (HL1.out _ ?_).mono ?_); (first | exact hk1 | exact Kp.drew hk1); rintro e w2 ⟨B1, d1, rfl, hsl1, hk2, hb2⟩; obtain ⟨f4, f5⟩ := HCL.out _ hk2; (first | have s0 := hsl0.below hb2 (Nat.le_refl _) | have s0 := (hsl0.dr ⟨1, rfl⟩).below hb2 (Nat.le_refl _)); clear hb2)
    | (go_at_call 18; (with_reducible refine (HL2.out _ ?_).mono ?_); (first | exact hk2 | exact Kp.drew hk2); rintro e w3 ⟨B2, d2, rfl, hsl2, hk3, hb3⟩; (first | have t0 := s0.below hb3 (Nat.le_refl _) | have t0 := (s0.dr ⟨1, rfl⟩).below hb3 (Nat.le_refl _)); (first | have t1 := hsl1.below hb3 (Nat.le_refl _) | have t1 := (hsl1.dr ⟨1, rfl⟩).below hb3 (Nat.le_refl _)); have HT0 : Hid (Tri w0 B B1 B2 m d q d1 r d2 o l b w3) := ⟨hk3, t0, t1, hsl2⟩; clear hb3 t0 t1 hsl2 hk3))
  all_goals (first | exact REST _ _ _ _ _ _ _ HT0.out | exact REST _ _ _ _ _ _ _ HT0.out.drew | exact REST _ _ _ _ _ _ _ HT0.out.drew.drew)
end Go.Proofs.Ytmnnehpoaedifaa
