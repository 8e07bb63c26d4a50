import Derived.Test.YtfeohcknopdamaaT37
import Derived.Test.YtfeohcknopdamaaT19
/- Layer 10: TurnsOrderSteps. -/
namespace Go.Proofs.Ytfeohcknopdamaa
open Go.RowKit
set_option linter.unusedVariables false

theorem order_ow (N a : Nat) (w : World) (hN : N ≤ 18) (ha : a < fac N) : Calls Try.prog 30 #[.int .i64 (N : Int), .int .i64 (a : Int)] w fun e w' => (∃ A' c', e = .returned (.tuple #[.slice A' N c', .int .i64 0]) ∧ Ow w' w.heap.size 3 (.slice A' N c') (oN N a)) ∧ Below w.heap.size w w' := by
  refine (orderP_any N a w).mono ?_
  rintro e w' hh
  rw [Int.toNat_natCast, if_pos (by rw [in18, posB, decide_eq_true (by omega), decide_eq_true (by omega), decide_eq_true (by omega), decide_eq_true (by omega)]; rfl), Int.toNat_natCast] at hh
  obtain ⟨⟨v, rfl, hv⟩, hb⟩ := hh
  obtain ⟨A', c', rfl, hs⟩ := hv.sl_len (oN_len N a) (by omega)
  exact ⟨⟨A', c', rfl, hv⟩, hb⟩
theorem ow_shape {w : World} {B e n c : Nat} {A : Option Addr} {zs : List Int} (h : Ow w B e (.slice A n c) zs) (hl : zs.length = n) (hn : 0 < n) : ∃ g, A = some ⟨g, 0, none⟩ := by
  rcases h.2 with ⟨h1, h2⟩ | ⟨g, cap, cur, h1, _⟩
  · injection h1 with h1 h3 h4
    omega
  · injection h1 with h1 _ _
    exact ⟨g, h1⟩
theorem swp_set {xs ys : List Int} {t : Nat} (h : Swp xs ys t) : (xs.set t (atI xs (t + 1))).set (t + 1) (atI xs t) = ys := by
  obtain ⟨h1, h2, h3, h4, h5⟩ := h
  refine atI_ext (by rw [List.length_set, List.length_set, h1]) fun j hj => ?_
  rw [List.length_set, List.length_set] at hj
  rw [atI_set (by rw [List.length_set]; exact hj), atI_set hj]
  by_cases e1 : t + 1 = j
  · subst e1; rw [if_pos rfl, h4]
  · rw [if_neg e1]
    by_cases e2 : t = j
    · subst e2; rw [if_pos rfl, h3]
    · rw [if_neg e2, h5 j (fun e => e2 e.symm) (fun e => e1 e.symm)]
set_option maxRecDepth 100000 in
set_option maxHeartbeats 6400000 in
theorem orderSteps_walk (n0 a0 : Int) (w : World) :
    Calls Try.prog 10 #[.int .i64 n0, .int .i64 a0] w fun e w' => e = .returned (.bool true) ∧ Below w.heap.size w w' := by
  go_enter Try.func10, Try.ntmps10
  go_upto_region 2 with (go_at_call 52; refine (mod_big n0 19 _ (by omega) (by omega)).mono ?_; rintro e w1 ⟨⟨N, rfl, hN⟩, rfl⟩)
  have hN18 : N ≤ 18 := by omega
  clear hN
  have hfp := fac_pos N
  have hfl := fac_le hN18
  have HRF := Lib.hid (fun V => factorialR_any N V hN18)
  have HMA := Lib.hid (fun V => mod_big a0 (fac N) V hfp (by omega))
  go_upto_region 4 with (first | (go_at_call 33; (with_reducible refine (HRF.out _).mono ?_); rintro e w1 ⟨rfl, rfl⟩) | (go_at_call 52; (with_reducible refine (HMA.out _).mono ?_); rintro e w1 ⟨⟨b, rfl, hb0⟩, rfl⟩))
  have hor := oN_or N b
  have hrk := rkO_oN N b hb0
  have HOL : Hid ((oN N b).length = N) := oN_len _ _
  have HOR := Lib.hid (order_ow N b w hN18 hb0)
  have HOA : Hid (∀ V A c, Sl V A N c (oN N b) → Calls Try.prog 31 #[.slice A N c] V fun e w' => e = .returned (.tuple #[.int .i64 (b : Int), .int .i64 0]) ∧ Below V.heap.size V w') := fun V A c hs => by
    have := orderAt_ok (oN N b) A N c V hs hor hN18
    rw [hrk] at this
    exact this
  have HRB : Hid (∀ V A c, Sl V A N c (oN N b) → Calls Try.prog 35 #[.slice A N c] V fun e w' => e = .returned (.bool true) ∧ Dr V w') := fun V A c hs => by
    have := ordersR_any (oN N b) A N c V hs
    rw [or_ordB hor hN18] at this
    exact this
  by_cases hb1 : b + 1 < fac N
  · obtain ⟨t, ht⟩ := oN_step N b hb1
    have hT := turns_next (t := t) hor hN18 (by rw [hrk]; exact hb1) (by rw [hrk]; exact ht)
    have HTU := Lib.hid hT.1
    have ht1 : t + 1 < N := by have := ht.2.1; have := HOL.out; omega
    have HOR2 : Hid (∀ V, Calls Try.prog 30 #[.int .i64 (N : Int), .int .i64 ((b : Int) + 1)] V fun e w' => (∃ A' c', e = .returned (.tuple #[.slice A' N c', .int .i64 0]) ∧ Ow w' V.heap.size 3 (.slice A' N c') (oN N (b + 1))) ∧ Below V.heap.size V w') := fun V => order_ow N (b + 1) V hN18 hb1
    have HSW := Lib.hid (swp_set ht)
    have HOL2 : Hid ((oN N (b + 1)).length = N) := oN_len _ _
    clear hT ht hor hrk HRF HMA hfp
    generalize oN N (b + 1) = ys at *
    generalize oN N b = xs at *
    generalize fac N = q at *
    have d1 : ((b : Int) == (q : Int) - 1) = false := by rw [beq_eq_false_iff_ne]; omega
    go_upto_region 6 with (first
      | (go_at_call 30; (with_reducible refine HOR.out.mono ?_); rintro e w1 ⟨⟨A1, c1, rfl, ho⟩, hb⟩; obtain ⟨g1, hg1⟩ := ow_shape ho HOL.out (by omega); subst hg1; have HO1 := Lib.hid ho; have HS1 : Hid (Sl w1 (some ⟨g1, 0, none⟩) N c1 xs) := (by have h9 := ho.sl_len HOL.out (by omega); obtain ⟨A9, c9, e9, hs9⟩ := h9; injection e9 with e9 _ e10; rw [e9, e10]; exact hs9); have HB1 := Lib.hid hb; clear ho hb)
      | (go_at_call 32; (with_reducible refine (HTU.out _ _ _ HS1.out).mono ?_); rintro e w2 ⟨rfl, hb⟩; have HO2 := Lib.hid (HO1.out.below hb (Nat.le_refl _)); have HS2 := Lib.hid (HS1.out.below hb (Nat.le_refl _)); have HB2 := Lib.hid (HB1.out.trans (hb.mono HB1.out.size)); have HG2 : Hid (g1 < w2.heap.size) := Nat.lt_of_lt_of_le (HO1.out.lt rfl).2 hb.size; clear hb))
    have HQ3 := Lib.hid (Bx2.new w2 (t : Int) ((t : Int) + 1))
    have hbx := below_one w2 (.cells #[.int .i64 (t : Int), .int .i64 ((t : Int) + 1)] 35)
    have HO3 := Lib.hid (HO2.out.below hbx (Nat.le_refl _))
    have HS3 := Lib.hid (HS2.out.below hbx (Nat.le_refl _))
    have HB3 := Lib.hid (HB2.out.trans (hbx.mono HB2.out.size))
    clear hbx
    generalize w2.alloc (.cells #[.int .i64 (t : Int), .int .i64 ((t : Int) + 1)] 35) = w3 at HQ3 HO3 HS3 HB3 ⊢
    generalize w2.heap.size = g at HQ3 HG2 ⊢
    go_upto_region 9 with (first
      | (go_at_call 31; (with_reducible refine (HOA.out _ _ _ HS3.out).mono ?_); rintro e w4 ⟨rfl, hb⟩; have HO4 := Lib.hid (HO3.out.below hb (Nat.le_refl _)); have HS4 := Lib.hid (HS3.out.below hb (Nat.le_refl _)); have HB4 := Lib.hid (HB3.out.trans (hb.mono HB3.out.size)); have HQ4 := Lib.hid (HQ3.out.below hb HQ3.out.lt); clear hb)
      | (go_at_call 35; (with_reducible refine (HRB.out _ _ _ HS4.out).mono ?_); rintro e w5 ⟨rfl, hd⟩; have hb := hd.below w4.heap.size; have HO5 := Lib.hid (HO4.out.below hb (Nat.le_refl _)); have HB5 := Lib.hid (HB4.out.trans (hb.mono HB4.out.size)); have HQ5 := Lib.hid (HQ4.out.below hb HQ4.out.lt); clear hb hd))
    have e0 := HQ5.out.c0
    have e1 := HQ5.out.c1
    have v1 : IntKind.i64.wrap ((N : Int) - 1) = (N : Int) - 1 := IntWalk.i64_in _ (by omega)
    have f1 : decide ((t : Int) < 0) = false := decide_eq_false (by omega)
    have f2 : decide ((t : Int) ≥ (N : Int) - 1) = false := decide_eq_false (by omega)
    have f3 : decide ((N : Int) - 1 ≤ (t : Int)) = false := decide_eq_false (by omega)
    have f4 : decide ((N : Int) ≤ (t : Int) + 1) = false := decide_eq_false (by omega)
    go_upto_region 13 with (fail)
    clear e0 e1 f1 f2 f3 f4
    go_upto_region 14 with (go_at_call 30; (with_reducible refine (HOR2.out w5).mono ?_); rintro e w6 ⟨⟨A2, c2, rfl, ho⟩, hb⟩; have HP6 := Lib.hid ho; have HO6 := Lib.hid (HO5.out.below hb (Nat.le_refl _)); have HB6 := Lib.hid (HB5.out.trans (hb.mono HB5.out.size)); have HQ6 := Lib.hid (HQ5.out.below hb HQ5.out.lt); have HZ5 : Hid (g1 < w5.heap.size) := (HO5.out.lt rfl).2; clear ho hb)
    obtain ⟨x, hx⟩ : ∃ x, x = atI xs t := ⟨_, rfl⟩
    obtain ⟨y, hy⟩ : ∃ y, y = atI xs (t + 1) := ⟨_, rfl⟩
    have HXS : Hid ((xs.set t y).set (t + 1) x = ys) := by rw [Hid, hx, hy]; exact HSW.out
    have e0 := HQ6.out.c0
    have e1 := HQ6.out.c1
    have a1 := cellI HO6.out HOL.out (k := t) (by omega)
    have a2 := cellI HO6.out HOL.out (k := t + 1) (by omega)
    rw [← hx] at a1
    rw [← hy] at a2
    have k1 : (t : Int) < (N : Int) := by omega
    have k2 : (t : Int) + 1 < (N : Int) := by omega
    have k3 : (0 : Int) ≤ (t : Int) + 1 := by omega
    have k4 : ((t : Int) + 1).toNat = t + 1 := by omega
    clear hx hy
    go_quiet (fail)
    clear k4
    have HQ7 : Hid (Bx2 (w6.drewN nq) g (t : Int) ((t : Int) + 1)) := HQ6.out
    have HO7 : Hid (Ow (w6.drewN nq) w.heap.size 3 (.slice (some ⟨g1, 0, none⟩) N c1) xs) := HO6.out
    have HP7 : Hid (Ow (w6.drewN nq) w5.heap.size 3 (.slice A2 N c2) ys) := HP6.out
    have HB7 : Hid (Below w.heap.size w (w6.drewN nq)) := below_dn HB6.out nq
    clear e0 e1 a1 a2 HQ6 HO6 HP6 HB6
    generalize w6.drewN nq = w7 at *
    have e0 := HQ7.out.c0
    have e1 := HQ7.out.c1
    have a1 := HO7.out.cellAt HOL.out (k := t) (by omega)
    have b1 := HO7.out.free HOL.out t
    have HGG : Hid (g1 ≠ g) := Nat.ne_of_lt HG2.out
    have hq8 : Bx2 (w7.setCell ⟨g1, t, none⟩ (.int .i64 y)) g (t : Int) ((t : Int) + 1) := (Below.heap_setCell w7 ⟨g1, t, none⟩ (.int .i64 y) g (fun e => HGG.out e.symm)).trans HQ7.out
    have HQ8 := Lib.hid hq8
    have HO8 : Hid (Ow (w7.setCell ⟨g1, t, none⟩ (.int .i64 y)) w.heap.size 3 (.slice (some ⟨g1, 0, none⟩) N c1) (xs.set t y)) := HO7.out.put HOL.out t y
    have HP8 : Hid (Ow (w7.setCell ⟨g1, t, none⟩ (.int .i64 y)) w5.heap.size 3 (.slice A2 N c2) ys) := HP7.out.setBelow (a := ⟨g1, t, none⟩) HZ5.out _
    have HB8 : Hid (Below w.heap.size w (w7.setCell ⟨g1, t, none⟩ (.int .i64 y))) := HB7.out.setCell (p := ⟨g1, t, none⟩) (HO7.out.lt rfl).1 _
    clear hq8
    go_upto_region 16 with (fail)
    clear e0 e1 a1 b1
    generalize w7.setCell ⟨g1, t, none⟩ (.int .i64 y) = w8 at HQ8 HO8 HP8 HB8 ⊢
    have HOL8 : Hid ((xs.set t y).length = N) := by rw [Hid, List.length_set]; exact HOL.out
    have e1 := HQ8.out.c1
    have a1 := HO8.out.cellAt HOL8.out (k := t + 1) (by omega)
    have b1 := HO8.out.free HOL8.out (t + 1)
    have HO9 : Hid (Ow (w8.setCell ⟨g1, t + 1, none⟩ (.int .i64 x)) w.heap.size 3 (.slice (some ⟨g1, 0, none⟩) N c1) ys) := by
      rw [Hid, ← HXS.out]; exact HO8.out.put HOL8.out (t + 1) x
    have HP9 : Hid (Ow (w8.setCell ⟨g1, t + 1, none⟩ (.int .i64 x)) w5.heap.size 3 (.slice A2 N c2) ys) := HP8.out.setBelow (a := ⟨g1, t + 1, none⟩) HZ5.out _
    have HB9 : Hid (Below w.heap.size w (w8.setCell ⟨g1, t + 1, none⟩ (.int .i64 x))) := HB8.out.setCell (p := ⟨g1, t + 1, none⟩) (HO8.out.lt rfl).1 _
    go_upto_region 17 with (fail)
    clear e1 a1 b1
    generalize w8.setCell ⟨g1, t + 1, none⟩ (.int .i64 x) = w9 at HO9 HP9 HB9 ⊢
    obtain ⟨A8, c8, e8, hs8⟩ := HO9.out.sl_len HOL2.out (by omega)
    injection e8 with e8 _ e8'
    obtain ⟨A9, c9, e9, hs9⟩ := HP9.out.sl_len HOL2.out (by omega)
    injection e9 with e9 _ e9'
    rw [← e8, ← e8'] at hs8
    rw [← e9, ← e9'] at hs9
    have HIN := Lib.hid (ints_one w9 (some ⟨g1, 0, none⟩) A2 N c1 c2 ys (by omega) hs8 hs9)
    clear hs8 hs9 e8 e8' e9 e9'
    go_wp2_with (first
      | (go_at_call 20; (with_reducible refine HIN.out.mono ?_); rintro e v1 ⟨rfl, hd⟩; have HBY := Lib.hid (HB9.out.trans ((hd.below w9.heap.size).mono HB9.out.size)); clear hd)
      | (go_at_call 19; (with_reducible refine (awake_here _).mono ?_); rintro e v2 ⟨rfl, hb⟩; have HBZ := Lib.hid (HBY.out.trans (hb.mono HBY.out.size)); clear hb))
    go_ret
    exact ⟨rfl, HBZ.out⟩
  · have hT := turns_last hor hN18 (by rw [hrk]; omega)
    have HTU := Lib.hid hT.1
    clear hT hor hrk HRF HMA hfp
    generalize oN N b = xs at *
    generalize fac N = q at *
    have d1 : ((b : Int) == (q : Int) - 1) = true := by rw [beq_iff_eq]; omega
    have heq := fun W => run_eql_pair W (-1) (-1)
    go_upto_region 6 with (first
      | (go_at_call 30; (with_reducible refine HOR.out.mono ?_); rintro e w1 ⟨⟨A1, c1, rfl, ho⟩, hb⟩; have HS1 : Hid (Sl w1 A1 N c1 xs) := (by have h9 := ho.sl_len HOL.out (by omega); obtain ⟨A9, c9, e9, hs9⟩ := h9; injection e9 with e9 _ e10; rw [e9, e10]; exact hs9); have HB1 := Lib.hid hb; clear ho hb)
      | (go_at_call 32; (with_reducible refine (HTU.out _ _ _ HS1.out).mono ?_); rintro e w2 ⟨rfl, hb⟩; have HS2 := Lib.hid (HS1.out.below hb (Nat.le_refl _)); have HB2 := Lib.hid (HB1.out.trans (hb.mono HB1.out.size)); clear hb))
    have HQ3 := Lib.hid (Bx2.new w2 (-1) (-1))
    have hbx := below_one w2 (.cells #[.int .i64 (-1), .int .i64 (-1)] 35)
    have HS3 := Lib.hid (HS2.out.below hbx (Nat.le_refl _))
    have HB3 := Lib.hid (HB2.out.trans (hbx.mono HB2.out.size))
    clear hbx
    generalize w2.alloc (.cells #[.int .i64 (-1), .int .i64 (-1)] 35) = w3 at HQ3 HS3 HB3 ⊢
    generalize w2.heap.size = g at HQ3 ⊢
    go_upto_region 9 with (first
      | (go_at_call 31; (with_reducible refine (HOA.out _ _ _ HS3.out).mono ?_); rintro e w4 ⟨rfl, hb⟩; have HS4 := Lib.hid (HS3.out.below hb (Nat.le_refl _)); have HB4 := Lib.hid (HB3.out.trans (hb.mono HB3.out.size)); have HQ4 := Lib.hid (HQ3.out.below hb HQ3.out.lt); clear hb)
      | (go_at_call 35; (with_reducible refine (HRB.out _ _ _ HS4.out).mono ?_); rintro e w5 ⟨rfl, hd⟩; have hb := hd.below w4.heap.size; have HB5 := Lib.hid (HB4.out.trans (hb.mono HB4.out.size)); have HQ5 := Lib.hid (HQ4.out.below hb HQ4.out.lt); clear hb hd))
    have e0 := HQ5.out.c0
    have e1 := HQ5.out.c1
    go_wp2_with (go_at_call 19; (with_reducible refine (awake_here _).mono ?_); rintro e v2 ⟨rfl, hb⟩; have HBZ := Lib.hid (HB5.out.trans (hb.mono HB5.out.size)); clear hb)
    go_ret
    exact ⟨rfl, HBZ.out⟩
end Go.Proofs.Ytfeohcknopdamaa
