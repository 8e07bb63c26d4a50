import Derived.Test.YtcnjkdkkflpgnaaT39
import Derived.Test.YtcnjkdkkflpgnaaT21
import Derived.Deep.RegionWith
import Derived.Deep.Cut
import Derived.Deep.RegionHeldLaw
/- Layer 8: the walk of ShelfPairs. -/
namespace Go.Proofs.Ytcnjkdkkflpgnaa
open Go.RowKit Go.Maps
set_option linter.unusedVariables false

theorem sll_three (w : World) (t : TypeId) (A0 A1 A2 : Option Addr) (n0 n1 n2 c0 c1 c2 : Nat) (z0 z1 z2 : List Int) (h0 : Sl w A0 n0 c0 z0) (h1 : Sl w A1 n1 c1 z1) (h2 : Sl w A2 n2 c2 z2) :
    Sll (w.alloc (.cells #[.slice A0 n0 c0, .slice A1 n1 c1, .slice A2 n2 c2] t)) (some ⟨w.heap.size, 0, none⟩) 3 3 [z0, z1, z2] := by
  have hb := (Below.refl w.heap.size w).alloc (Nat.le_refl _) (.cells #[.slice A0 n0 c0, .slice A1 n1 c1, .slice A2 n2 c2] t)
  refine ⟨rfl, by omega, fun k hk => ⟨w.heap.size, 0, rfl, by rw [World.size_alloc]; omega, ?_⟩⟩
  rcases (by omega : k = 0 ∨ k = 1 ∨ k = 2) with rfl | rfl | rfl
  · exact ⟨_, _, _, cell_in (heap_alloc_new w _) rfl, h0.below hb (Nat.le_refl _)⟩
  · exact ⟨_, _, _, cell_in (heap_alloc_new w _) rfl, h1.below hb (Nat.le_refl _)⟩
  · exact ⟨_, _, _, cell_in (heap_alloc_new w _) rfl, h2.below hb (Nat.le_refl _)⟩
theorem turned_perm (xs ys : List Int) (A B : Option Addr) (m c d : Nat) (w : World) (hx : Sl w A m c xs) (hy : Sl w B m d ys) (h1 : 1 ≤ m) (h6 : m ≤ 6) (px : List.Perm xs (startL m)) (py : List.Perm ys (startL m)) :
    Calls Try.prog 36 #[.slice A m c, .slice B m d] w fun e w' => e = .returned (.tuple #[.int .i64 (turnN xs ys : Int), .int .i64 0]) ∧ Below w.heap.size w w' := by
  refine (turnedT_any xs ys A B m c m d w hx hy).mono ?_
  have ho := perm_okO px
  have ho2 := perm_okO py
  have ht : trnB xs ys = true := by
    unfold trnB
    rw [hx.len, ho, ho2, decide_eq_true h1, decide_eq_true h6]; rfl
  rintro e w' ⟨⟨_, rfl⟩ | ⟨e1, _⟩, hb⟩
  · rw [turn_pad ho ho2 h6]
    exact ⟨rfl, hb⟩
  · rw [ht] at e1; cases e1
theorem turn_small {xs ys : List Int} {m : Nat} (hl : xs.length = m) (h6 : m ≤ 6) : turnN xs ys ≤ 36 := by
  have := totT_le xs ys xs.length xs.length
  unfold turnN
  have h2 : xs.length * xs.length ≤ 6 * 6 := Nat.mul_le_mul (by omega) (by omega)
  omega
set_option maxRecDepth 100000 in
set_option maxHeartbeats 12800000 in
theorem pairs_walk (A0 A1 A2 : Option Addr) (n0 n1 n2 c0 c1 c2 : Nat) (z0 z1 z2 : List Int) (x : Int) (w : World) (h0 : Sl w A0 n0 c0 z0) (h1 : Sl w A1 n1 c1 z1) (h2 : Sl w A2 n2 c2 z2) :
    Calls Try.prog 14 #[.agg #[.slice A0 n0 c0, .slice A1 n1 c1, .slice A2 n2 c2], .int .i64 x] w fun e w' => e = .returned (.bool true) ∧ Below w.heap.size w w' := by
  obtain ⟨i0, hi, hz0, hz1, hz2⟩ := info_parts Try.infoInt
  have HI : Hid (Try.prog.info? 3 = some i0 ∧ i0.zero = some (.int .i64 0) ∧ i0.size = 1 ∧ i0.bytes = 8) := ⟨hi, hz0, hz1, hz2⟩
  have HM6 := Lib.hid (fun V => mod_any x 6 V (by omega) (by omega))
  obtain ⟨W1, hW1⟩ : ∃ W, W = w.alloc (.cells #[.slice A0 n0 c0, .slice A1 n1 c1, .slice A2 n2 c2] 62) := ⟨_, rfl⟩
  have hb1 : Below w.heap.size w W1 := by rw [hW1]; exact (Below.refl _ w).alloc (Nat.le_refl _) _
  have hce : W1.heap[w.heap.size]? = some (.cells #[.slice A0 n0 c0, .slice A1 n1 c1, .slice A2 n2 c2] 62 (0, 0)) := by rw [hW1]; exact heap_alloc_new w _
  have d0 : W1.cell? ⟨w.heap.size, 0, none⟩ = some (.slice A0 n0 c0) := cell_in hce rfl
  have d1 : W1.cell? ⟨w.heap.size, 1, none⟩ = some (.slice A1 n1 c1) := cell_in hce rfl
  have d2 : W1.cell? ⟨w.heap.size, 2, none⟩ = some (.slice A2 n2 c2) := cell_in hce rfl
  have HLL := Lib.hid (sll_three W1 22 A0 A1 A2 n0 n1 n2 c0 c1 c2 z0 z1 z2 (h0.below hb1 (Nat.le_refl _)) (h1.below hb1 (Nat.le_refl _)) (h2.below hb1 (Nat.le_refl _)))
  have HB1 := Lib.hid hb1
  have HB2 : Hid (Below w.heap.size w (W1.alloc (.cells #[.slice A0 n0 c0, .slice A1 n1 c1, .slice A2 n2 c2] 22))) := hb1.alloc hb1.size _
  clear hi hz0 hz1 hz2 hb1 hce h0 h1 h2
  go_enter Try.func14, Try.ntmps14
  go_upto_region 1 with (fail)
  rw [← hW1]
  clear hW1
  go_upto_region 2 with (go_at_call 40; go_must (with_reducible refine (HM6.out _).mono ?_); rintro e v1 ⟨⟨r, rfl, hr⟩, rfl⟩; have HR := Lib.hid hr; have v0 : IntKind.i64.wrap (1 + (r : Int)) = 1 + (r : Int) := IntWalk.i64_in _ (by omega); clear hr)
  obtain ⟨m, hm⟩ : ∃ m : Nat, m = 1 + r := ⟨_, rfl⟩
  have hm1 : 1 ≤ m := by omega
  have hm6 : m ≤ 6 := by have := HR.out; omega
  rw [show 1 + (r : Int) = (m : Int) by omega]
  clear hm v0 HR HM6
  have HHI : Hid (Calls Try.prog 42 #[.slice (some ⟨W1.heap.size, 0, none⟩) 3 3, .int .i64 (m : Int), .int .i64 3] (W1.alloc (.cells #[.slice A0 n0 c0, .slice A1 n1 c1, .slice A2 n2 c2] 22)) _) := histories_any _ _ 3 3 m 3 _ HLL.out hm1 hm6 (by omega)
  go_upto_region 3 with (go_at_call 42; go_must (with_reducible refine HHI.out.mono ?_); rintro e w2 ⟨⟨v, rows, rfl, hh, hl, hp⟩, hb⟩; have HH2 := Lib.hid hh; have HPP := Lib.hid hp; have HLR := Lib.hid hl; have HB3 := Lib.hid (HB2.out.trans (hb.mono HB2.out.size)); clear hh hl hp hb)
  obtain ⟨A5, c5, rfl, hs⟩ := HH2.out.sll HLR.out (by omega) (fun k hk => by rw [(HPP.out k hk).length_eq, startL_len]; omega)
  have HSP : Hid (∃ b off p0 p1 p2, A5 = some ⟨b, off, none⟩ ∧ List.Perm p0 (startL m) ∧ List.Perm p1 (startL m) ∧ List.Perm p2 (startL m) ∧ ∃ B0 B1 B2 e0 e1 e2, (∀ V, Below w2.heap.size w2 V → (V.cell? ⟨b, off, none⟩ = some (.slice B0 m e0) ∧ V.cell? ⟨b, off + 1, none⟩ = some (.slice B1 m e1) ∧ V.cell? ⟨b, off + 2, none⟩ = some (.slice B2 m e2)) ∧ Sl V B0 m e0 p0 ∧ Sl V B1 m e1 p1 ∧ Sl V B2 m e2 p2)) := by
    obtain ⟨b, off, rfl, hlt, B0, k0, e0, q0, s0⟩ := hs.rows 0 (by omega)
    obtain ⟨b', off', e', _, B1, k1, e1, q1, s1⟩ := hs.rows 1 (by omega)
    obtain ⟨b'', off'', e'', _, B2, k2, e2, q2, s2⟩ := hs.rows 2 (by omega)
    have e' := Option.some.inj e'
    injection e' with e' e9 _
    subst e' e9
    have e'' := Option.some.inj e''
    injection e'' with e'' e9 _
    subst e'' e9
    have l0 : k0 = m := by rw [← s0.len, (HPP.out 0 (by omega)).length_eq, startL_len]
    have l1 : k1 = m := by rw [← s1.len, (HPP.out 1 (by omega)).length_eq, startL_len]
    have l2 : k2 = m := by rw [← s2.len, (HPP.out 2 (by omega)).length_eq, startL_len]
    subst l0
    subst l1
    subst l2
    exact ⟨b, off, _, _, _, rfl, HPP.out 0 (by omega), HPP.out 1 (by omega), HPP.out 2 (by omega), B0, B1, B2, e0, e1, e2, fun V hV => ⟨⟨(hV.cell (p := ⟨b, off, none⟩) hlt).trans q0, (hV.cell (p := ⟨b, off + 1, none⟩) hlt).trans q1, (hV.cell (p := ⟨b, off + 2, none⟩) hlt).trans q2⟩, s0.below hV (Nat.le_refl _), s1.below hV (Nat.le_refl _), s2.below hV (Nat.le_refl _)⟩⟩
  obtain ⟨b, off, p0, p1, p2, rfl, hp0, hp1, hp2, B0, B1, B2, e0, e1, e2, hcs⟩ := HSP.out
  have HCS := Lib.hid hcs
  have HP0 := Lib.hid hp0
  have HP1 := Lib.hid hp1
  have HP2 := Lib.hid hp2
  have HT : Hid (∀ V, Below w2.heap.size w2 V → Calls Try.prog 36 #[.slice B0 m e0, .slice B1 m e1] V fun e w' => e = .returned (.tuple #[.int .i64 (turnN p0 p1 : Int), .int .i64 0]) ∧ Below V.heap.size V w') := fun V hV => turned_perm p0 p1 B0 B1 m e0 e1 V (HCS.out V hV).2.1 (HCS.out V hV).2.2.1 hm1 hm6 HP0.out HP1.out
  have HT2 : Hid (∀ V, Below w2.heap.size w2 V → Calls Try.prog 36 #[.slice B1 m e1, .slice B0 m e0] V fun e w' => e = .returned (.tuple #[.int .i64 (turnN p0 p1 : Int), .int .i64 0]) ∧ Below V.heap.size V w') := fun V hV => by
    rw [turn_symm (HP0.out.nodup_iff.2 (startL_nodup m)) (HP0.out.trans HP1.out.symm)]
    exact turned_perm p1 p0 B1 B0 m e1 e0 V (HCS.out V hV).2.2.1 (HCS.out V hV).2.1 hm1 hm6 HP1.out HP0.out
  have HT3 : Hid (∀ V, Below w2.heap.size w2 V → Calls Try.prog 36 #[.slice B1 m e1, .slice B2 m e2] V fun e w' => e = .returned (.tuple #[.int .i64 (turnN p1 p2 : Int), .int .i64 0]) ∧ Below V.heap.size V w') := fun V hV => turned_perm p1 p2 B1 B2 m e1 e2 V (HCS.out V hV).2.2.1 (HCS.out V hV).2.2.2 hm1 hm6 HP1.out HP2.out
  have HT4 : Hid (∀ V, Below w2.heap.size w2 V → Calls Try.prog 36 #[.slice B0 m e0, .slice B2 m e2] V fun e w' => e = .returned (.tuple #[.int .i64 (turnN p0 p2 : Int), .int .i64 0]) ∧ Below V.heap.size V w') := fun V hV => turned_perm p0 p2 B0 B2 m e0 e2 V (HCS.out V hV).2.1 (HCS.out V hV).2.2.2 hm1 hm6 HP0.out HP2.out
  have hA := turn_small (xs := p0) (ys := p1) (by rw [hp0.length_eq, startL_len]) hm6
  have hC := turn_small (xs := p1) (ys := p2) (by rw [hp1.length_eq, startL_len]) hm6
  have hTR := turn_tri (c := p2) (hp0.nodup_iff.2 (startL_nodup m)) (hp0.trans hp1.symm)
  have HZR : Hid (((turnN p0 p1 : Int) == 0) = eqlB p0 p1) := by
    have h1 := turn_zero (hp0.nodup_iff.2 (startL_nodup m)) (hp0.trans hp1.symm)
    have h2 := turn_self (hp0.nodup_iff.2 (startL_nodup m))
    unfold Hid eqlB
    by_cases e : p0 = p1
    · rw [e] at h2 ⊢
      rw [h2]; simp
    · have h3 : ¬ turnN p0 p1 = 0 := fun e2 => e (h1 e2)
      rw [beq_eq_false_iff_ne.2 e]; simp; omega
  clear hs HSP hcs hp0 hp1 hp2 HPP HH2 HLR HHI
  -- regions
  have HB4 : Hid (Below w2.heap.size w2 w2) := Below.refl _ _
  obtain ⟨d0, d1, d2⟩ := (HCS.out _ HB4.out.drew).1
  have HD2 : Hid (Below w2.heap.size w2 w2.drew) := HB4.out.drew
  go_upto_region 3 with (fail)
  go_cut [6, 7] from 18 (fun a b wx => a = .int .i64 (turnN p0 p1 : Int) ∧ b = .int .i64 0 ∧ Hid (Below w2.heap.size w2 wx))
  case first =>
    go_region_with (go_at_call 36; (with_reducible refine (HT.out _ HD2.out).mono ?_); rintro e w3 ⟨rfl, hb⟩; have HB5 := Lib.hid (HD2.out.trans (hb.mono HD2.out.size)); clear hb)
    all_goals (go_wp2_with fail; go_meet; exact ⟨rfl, rfl, HB5.out⟩)
  case rest =>
  clear d0 d1 d2 HB4 HD2
  obtain ⟨rfl, rfl, HB4⟩ := hcut
  obtain ⟨V3, rfl⟩ : ∃ V, V = wc := ⟨_, rfl⟩
  obtain ⟨d0, d1, d2⟩ := (HCS.out _ HB4.out.drew).1
  have HD2 : Hid (Below w2.heap.size w2 V3.drew) := HB4.out.drew
  go_upto_region 4 with (fail)
  go_cut [8, 9] from 18 (fun a b wx => a = .int .i64 (turnN p0 p1 : Int) ∧ b = .int .i64 0 ∧ Hid (Below w2.heap.size w2 wx))
  case first =>
    go_region_with (go_at_call 36; (with_reducible refine (HT2.out _ HD2.out).mono ?_); rintro e w3 ⟨rfl, hb⟩; have HB5 := Lib.hid (HD2.out.trans (hb.mono HD2.out.size)); clear hb)
    all_goals (go_wp2_with fail; go_meet; exact ⟨rfl, rfl, HB5.out⟩)
  case rest =>
  clear d0 d1 d2 HB4 HD2
  obtain ⟨rfl, rfl, HB4⟩ := hcut
  obtain ⟨V4, rfl⟩ : ∃ V, V = wc := ⟨_, rfl⟩
  obtain ⟨d0, d1, d2⟩ := (HCS.out _ HB4.out.drew).1
  have HD2 : Hid (Below w2.heap.size w2 V4.drew) := HB4.out.drew
  go_upto_region 5 with (fail)
  go_cut [10, 11] from 18 (fun a b wx => a = .int .i64 (turnN p1 p2 : Int) ∧ b = .int .i64 0 ∧ Hid (Below w2.heap.size w2 wx))
  case first =>
    go_region_with (go_at_call 36; (with_reducible refine (HT3.out _ HD2.out).mono ?_); rintro e w3 ⟨rfl, hb⟩; have HB5 := Lib.hid (HD2.out.trans (hb.mono HD2.out.size)); clear hb)
    all_goals (go_wp2_with fail; go_meet; exact ⟨rfl, rfl, HB5.out⟩)
  case rest =>
  clear d0 d1 d2 HB4 HD2
  obtain ⟨rfl, rfl, HB4⟩ := hcut
  obtain ⟨V5, rfl⟩ : ∃ V, V = wc := ⟨_, rfl⟩
  obtain ⟨d0, d1, d2⟩ := (HCS.out _ HB4.out.drew).1
  have HD2 : Hid (Below w2.heap.size w2 V5.drew) := HB4.out.drew
  go_upto_region 6 with (fail)
  go_cut [12, 13] from 18 (fun a b wx => a = .int .i64 (turnN p0 p2 : Int) ∧ b = .int .i64 0 ∧ Hid (Below w2.heap.size w2 wx))
  case first =>
    go_region_with (go_at_call 36; (with_reducible refine (HT4.out _ HD2.out).mono ?_); rintro e w3 ⟨rfl, hb⟩; have HB5 := Lib.hid (HD2.out.trans (hb.mono HD2.out.size)); clear hb)
    all_goals (go_wp2_with fail; go_meet; exact ⟨rfl, rfl, HB5.out⟩)
  case rest =>
  clear d0 d1 d2 HB4 HD2
  obtain ⟨rfl, rfl, HB4⟩ := hcut
  obtain ⟨V6, rfl⟩ : ∃ V, V = wc := ⟨_, rfl⟩
  clear HT HT2 HT3 HT4
  generalize turnN p1 p2 = C at *
  generalize turnN p0 p2 = D at *
  generalize turnN p0 p1 = A at *
  have HND : Hid (p0.Nodup ∧ p0.length = m) := ⟨HP0.out.nodup_iff.2 (startL_nodup m), by rw [HP0.out.length_eq, startL_len]⟩
  have v1 : IntKind.i64.wrap ((m : Int) - 1) = (m : Int) - 1 := IntWalk.i64_in _ (by omega)
  have HB2Z : Hid (w2.heap.size ≤ V6.heap.size) := HB4.out.size
  go_upto_region 8 with (fail)
  go_wp2
  go_loopw [14, 15] (fun v r w' => ∃ k : Nat, k ≤ m ∧ r = .int .i64 ((m : Int) - 1 - (k : Int)) ∧ Hid (Ow w' w2.heap.size 3 v (p0.reverse.take k)) ∧ Hid (Below w2.heap.size w2 w')) (fun _ r _ => (intOf r + 1).toNat)
  case atStart => exact ⟨0, Nat.zero_le _, by simp, Ow.nil _ _ _, HB4.out⟩
  case round =>
    clear HB4 HB2Z
    obtain ⟨k, hk, rfl, HO, HB4⟩ := hrel
    obtain ⟨wo, rfl⟩ : ∃ wo : World, wo = wr := ⟨_, rfl⟩
    have HZ4 : Hid (w2.heap.size ≤ wo.heap.size) := HB4.out.size
    by_cases hlt : k < m
    · obtain ⟨q, hq⟩ : ∃ q, q + k + 1 = m := ⟨m - k - 1, by omega⟩
      have hqe : (m : Int) - 1 - (k : Int) = (q : Int) := by omega
      have HTK : Hid (p0.reverse.take (k + 1) = p0.reverse.take k ++ [atI p0 q]) := by
        rw [Hid, takeI (by rw [List.length_reverse, HND.out.2]; exact hlt)]
        have := atI_rev (a := p0) (k := q) (by rw [HND.out.2]; omega)
        rw [HND.out.2, show m - 1 - q = k by omega] at this
        rw [this]
      obtain ⟨⟨d0, _, _⟩, s0, _, _⟩ := HCS.out _ HB4.out
      obtain ⟨b0, o0, rfl, hc0⟩ := s0.at_ (k := q) (by omega)
      rw [show p0[q]?.getD 0 = atI p0 q from rfl] at hc0
      have HLP : Hid ((p0.reverse.take k).length ≤ 1099511627776) := by rw [Hid, List.length_take]; omega
      generalize atI p0 q = z at *
      rw [hqe]
      have i1 : (q : Int) ≥ 0 := by omega
      have i2 : (q : Int) < (m : Int) := by omega
      have i3 : (0 : Int) < 3 := by omega
      have v3 : IntKind.i64.wrap ((q : Int) - 1) = (m : Int) - 1 - ((k + 1 : Nat) : Int) := by rw [IntWalk.i64_in _ (by omega)]; omega
      clear s0 hqe HZR hTR
      go_wp2_with (at_builtin; go_must (refine push_law _ rfl (.tmp 76) (.tmp 83) 22 rfl w2.heap.size 3 i0 Try.underlying22 HI.out _ (p0.reverse.take k) z rfl rfl HO.out HLP.out HZ4.out ?_); intro v6 w6 hv6 hg6 _; have HO6 := Lib.hid hv6; have HB6 := Lib.hid (HB4.out.grown hg6 HZ4.out (fun j e => (HO.out.lt e).1)); clear hv6 hg6)
      exact ⟨⟨k + 1, by omega, rfl, by rw [HTK.out]; exact HO6.out, HB6.out⟩, by simp [intOf]; omega⟩
    · have hkm : k = m := by omega
      subst hkm
      have htl : p0.reverse.take k = p0.reverse := List.take_of_length_le (by rw [List.length_reverse, HND.out.2]; exact Nat.le_refl _)
      rw [htl] at HO
      rw [show (k : Int) - 1 - (k : Int) = -1 by omega]
      obtain ⟨A9, c9, rfl, hs9⟩ := HO.out.sl_len (n := k) (by rw [List.length_reverse, HND.out.2]) (by omega)
      obtain ⟨⟨d0, d1, _⟩, s0, s1, _⟩ := HCS.out _ HB4.out
      have HTN := Lib.hid (turned_perm p0 p0.reverse B0 A9 k e0 c9 wo s0 hs9 hm1 hm6 HP0.out ((List.reverse_perm p0).trans HP0.out))
      have hrev := turn_rev HND.out.1
      rw [HND.out.2] at hrev
      have hsm := turn_small (xs := p0) (ys := p0.reverse) HND.out.2 hm6
      generalize turnN p0 p0.reverse = N at *
      clear htl s0 s1 hs9
      go_upto_region 13 with (go_at_call 36; (with_reducible refine HTN.out.mono ?_); rintro e w3 ⟨rfl, hb⟩; have HB5 := Lib.hid (HB4.out.trans (hb.mono HB4.out.size)); clear hb)
      obtain ⟨⟨d0', d1', _⟩, s0, s1, _⟩ := HCS.out _ HB5.out.drew
      have HIN : Hid (∀ V, Below w2.heap.size w2 V → Calls Try.prog 24 #[.slice B0 k e0, .slice B1 k e1] V fun e w' => e = .returned (.bool (eqlB p0 p1)) ∧ Dr V w') := fun V hV => by
        obtain ⟨_, s0, s1, _⟩ := HCS.out _ hV
        exact ints_any B0 B1 k e0 k e1 p0 p1 V s0.len s1.len (by omega) (by omega) s0.rd s1.rd
      have HZR2 := HZR.out
      generalize eqlB p0 p1 = bb at *
      have v4 : IntKind.i64.wrap ((A : Int) + (C : Int)) = (A : Int) + (C : Int) := IntWalk.i64_in _ (by omega)
      have g1 : decide ((D : Int) ≤ (A : Int) + (C : Int)) = true := decide_eq_true (by omega)
      obtain ⟨M, hM⟩ : ∃ M : Int, M = (k : Int) * ((k : Int) - 1) := ⟨_, rfl⟩
      have v5 : IntKind.i64.wrap ((k : Int) * ((k : Int) - 1)) = M := by
        rw [← hM]
        refine IntWalk.i64_in _ ?_
        rcases (by omega : k = 1 ∨ k = 2 ∨ k = 3 ∨ k = 4 ∨ k = 5 ∨ k = 6) with e | e | e | e | e | e <;> subst e <;> omega
      have v6 : IntKind.i64.wrap (M.tdiv 2) = (N : Int) := by
        have : N = k * (k - 1) / 2 := by rcases (by omega : k = 1 ∨ k = 2 ∨ k = 3 ∨ k = 4 ∨ k = 5 ∨ k = 6) with e | e | e | e | e | e <;> subst e <;> omega
        rw [hM, this]
        rcases (by omega : k = 1 ∨ k = 2 ∨ k = 3 ∨ k = 4 ∨ k = 5 ∨ k = 6) with e | e | e | e | e | e <;> subst e <;> rfl
      have g2 : ((A : Int) == (A : Int)) = true := by simp
      have g3 : ((N : Int) == (N : Int)) = true := by simp
      have g4 : (bb == bb) = true := by simp
      clear hM hrev hsm hTR s0 s1
      have HBD : Hid (Below w2.heap.size w2 w3.drew) := HB5.out.drew
      have HS5 : Hid (w3.drew.cell? ⟨b, off, none⟩ = some (.slice B0 k e0) ∧ w3.drew.cell? ⟨b, off + 1, none⟩ = some (.slice B1 k e1)) := ⟨(HCS.out _ HBD.out).1.1, (HCS.out _ HBD.out).1.2.1⟩
      clear d0' d1'
      go_region_held_law (fun V => V.cell? ⟨b, off, none⟩ = some (.slice B0 k e0) ∧ V.cell? ⟨b, off + 1, none⟩ = some (.slice B1 k e1)) (first | assumption | exact HS5.out | exact HS6.out | exact HS7.out) (first
        | (go_at_call 24; go_must (with_reducible refine (HIN.out _ HBD.out).mono ?_); rintro e w4 ⟨rfl, hd⟩; have HB6 := Lib.hid (HBD.out.trans (hd.below _)); have HS6 : Hid (w4.cell? ⟨b, off, none⟩ = some (.slice B0 k e0) ∧ w4.cell? ⟨b, off + 1, none⟩ = some (.slice B1 k e1)) := ⟨(HCS.out _ HB6.out).1.1, (HCS.out _ HB6.out).1.2.1⟩; clear hd)
        | (go_at_call 21; go_must (with_reducible refine (awake_here _).mono ?_); rintro e w5 ⟨rfl, hb⟩; have HB7 := Lib.hid (HB6.out.trans (hb.mono HB6.out.size)); have HS7 : Hid (w5.cell? ⟨b, off, none⟩ = some (.slice B0 k e0) ∧ w5.cell? ⟨b, off + 1, none⟩ = some (.slice B1 k e1)) := ⟨(HCS.out _ HB7.out).1.1, (HCS.out _ HB7.out).1.2.1⟩; clear hb))
      go_goals
      all_goals (go_wp2; go_ret; exact ⟨rfl, HB3.out.trans (HB7.out.mono HB3.out.size)⟩)
end Go.Proofs.Ytcnjkdkkflpgnaa
