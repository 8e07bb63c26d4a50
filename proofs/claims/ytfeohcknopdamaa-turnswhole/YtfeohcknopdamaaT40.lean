import Derived.Test.YtfeohcknopdamaaT39
import Derived.Test.YtfeohcknopdamaaT18
/- Layer 10: TurnsOwn. -/
namespace Go.Proofs.Ytfeohcknopdamaa
open Go.RowKit
set_option linter.unusedVariables false

theorem ow_sl {w : World} {B e n c : Nat} {A : Option Addr} {zs : List Int} (h : Ow w B e (.slice A n c) zs) (hl : zs.length = n) (hn : n ≤ 1099511627776) : Sl w A n c zs := by
  obtain ⟨A9, c9, e9, hs9⟩ := h.sl_len hl hn
  injection e9 with e9 _ e10
  rw [e9, e10]
  exact hs9
theorem ow_below {w : World} {B e n c : Nat} {A : Option Addr} {zs : List Int} (h : Ow w B e (.slice A n c) zs) : ∀ g, A = some ⟨g, 0, none⟩ → g < w.heap.size := by
  rintro g rfl
  exact (h.lt rfl).2
/-- The law's copy of a short list is new memory. -/
theorem list_ow (A : Option Addr) (n c : Nat) (zs : List Int) (w : World) (hs : Sl w A n c zs) (hn : n ≤ 42) :
    Calls Try.prog 16 #[.slice A n c] w fun e w' => (∃ A' c', e = .returned (.slice A' n c') ∧ Ow w' w.heap.size 3 (.slice A' n c') zs) ∧ Below w.heap.size w w' := by
  refine (list_any A n c zs w hs).mono ?_
  rintro e w' ⟨v, rfl, hv, hb⟩
  have hl := hs.len
  rw [Nat.min_eq_left hn, List.take_of_length_le (by omega)] at hv
  have hv' : Ow w' w.heap.size 3 v zs := by rw [Ow, hl]; exact hv
  obtain ⟨A', c', rfl, _⟩ := hv'.sl_len hl (by omega)
  exact ⟨⟨A', c', rfl, hv'⟩, hb⟩
set_option maxRecDepth 100000 in
set_option maxHeartbeats 6400000 in
theorem own_walk (n0 a0 : Int) (w : World) :
    Calls Try.prog 15 #[.int .i64 n0, .int .i64 a0] w fun e w' => e = .returned (.bool true) ∧ Below w.heap.size w w' := by
  go_enter Try.func15, Try.ntmps15
  go_upto_region 2 with (go_at_call 52; refine (mod_big n0 19 _ (by omega) (by omega)).mono ?_; rintro e w1 ⟨⟨N, rfl, hN⟩, rfl⟩)
  have hN18 : N ≤ 18 := by omega
  clear hN
  have hfp := fac_pos N
  have hfl := fac_le hN18
  have HRF := Lib.hid (fun V => factorialR_any N V hN18)
  have HMA := Lib.hid (fun V => mod_big a0 (fac N) V hfp (by omega))
  go_upto_region 3 with (first | (go_at_call 33; (with_reducible refine (HRF.out _).mono ?_); rintro e w1 ⟨rfl, rfl⟩) | (go_at_call 52; (with_reducible refine (HMA.out _).mono ?_); rintro e w1 ⟨⟨b, rfl, hb0⟩, rfl⟩))
  have hor := oN_or N b
  have hrk := rkO_oN N b hb0
  have HOL : Hid ((oN N b).length = N) := oN_len _ _
  have HOR := Lib.hid (fun V => order_ow N b V hN18 hb0)
  have HRO := Lib.hid (fun V => orderR_ok N b V hN18 hb0)
  have HOA : Hid (∀ V A c, Sl V A N c (oN N b) → Calls Try.prog 31 #[.slice A N c] V fun e w' => e = .returned (.tuple #[.int .i64 (b : Int), .int .i64 0]) ∧ Below V.heap.size V w') := fun V A c hs => by
    have := orderAt_ok (oN N b) A N c V hs hor hN18
    rw [hrk] at this
    exact this
  obtain ⟨x, y, hT⟩ := turns_any hor hN18
  have HTU := Lib.hid hT.1
  clear hT hor hrk HRF HMA hfp hfl
  generalize oN N b = xs at *
  go_upto_region 4 with (go_at_call 30; (with_reducible refine (HOR.out _).mono ?_); rintro e w1 ⟨⟨A1, c1, rfl, ho⟩, hb⟩; have HO1 := Lib.hid ho; have HS1 := Lib.hid (ow_sl ho HOL.out (by omega)); have HB1 := Lib.hid hb; have HZ1 := Lib.hid (ow_below ho); clear ho hb)
  go_upto_region 5 with (go_at_call 16; (with_reducible refine (list_ow _ _ _ _ _ HS1.out (by omega)).mono ?_); rintro e w2 ⟨⟨A2, c2, rfl, ho⟩, hb⟩; have HP2 := Lib.hid ho; have HO2 := Lib.hid (HO1.out.below hb (Nat.le_refl _)); have HS2 := Lib.hid (HS1.out.below hb (Nat.le_refl _)); have HB2 := Lib.hid (HB1.out.trans (hb.mono HB1.out.size)); clear ho hb)
  go_upto_region 7 with (first
    | (go_at_call 31; (with_reducible refine (HOA.out _ _ _ HS2.out).mono ?_); rintro e w3 ⟨rfl, hb⟩; have HP3 := Lib.hid (HP2.out.below hb (Nat.le_refl _)); have HO3 := Lib.hid (HO2.out.below hb (Nat.le_refl _)); have HS3 := Lib.hid (HS2.out.below hb (Nat.le_refl _)); have HB3 := Lib.hid (HB2.out.trans (hb.mono HB2.out.size)); clear hb)
    | (go_at_call 32; (with_reducible refine (HTU.out _ _ _ HS3.out).mono ?_); rintro e w4 ⟨rfl, hb⟩; have HP4 := Lib.hid (HP3.out.below hb (Nat.le_refl _)); have HO4 := Lib.hid (HO3.out.below hb (Nat.le_refl _)); have HB4 := Lib.hid (HB3.out.trans (hb.mono HB3.out.size)); clear hb))
  have hbx := below_one w4 (.cells #[.int .i64 x, .int .i64 y] 35)
  have HP5 := Lib.hid (HP4.out.below hbx (Nat.le_refl _))
  have HO5 := Lib.hid (HO4.out.below hbx (Nat.le_refl _))
  have HB5 := Lib.hid (HB4.out.trans (hbx.mono HB4.out.size))
  clear hbx
  generalize w4.alloc (.cells #[.int .i64 x, .int .i64 y] 35) = w5 at HP5 HO5 HB5 ⊢
  have HIN := Lib.hid (ints_one w5 A1 A2 N c1 c2 xs (by omega) (ow_sl HO5.out HOL.out (by omega)) (ow_sl HP5.out HOL.out (by omega)))
  go_wp2_with (go_at_call 20; (with_reducible refine HIN.out.mono ?_); rintro e w6 ⟨rfl, hd⟩; have hb := hd.below w5.heap.size; have HP6 := Lib.hid (HP5.out.below hb (Nat.le_refl _)); have HO6 := Lib.hid (HO5.out.below hb (Nat.le_refl _)); have HB6 := Lib.hid (HB5.out.trans (hb.mono HB5.out.size)); clear hb hd)
  go_loopw [12] (fun i w' => ∃ (k : Nat) (zs : List Int), k ≤ N ∧ zs.length = N ∧ i = .int .i64 (k : Int) ∧ Hid (Ow w' w.heap.size 3 (.slice A1 N c1) zs) ∧ Hid (Ow w' w1.heap.size 3 (.slice A2 N c2) xs) ∧ Hid (Below w.heap.size w w')) (fun i _ => N - (intOf i).toNat)
  case atStart => exact ⟨0, xs, Nat.zero_le _, HOL.out, by go_num, HO6.out, HP6.out, HB6.out⟩
  case round =>
    obtain ⟨k, zs, hk, hz, rfl, HO, HP, HB⟩ := hrel
    obtain ⟨wo, rfl⟩ : ∃ wo : World, wo = wr := ⟨_, rfl⟩
    clear HO1 HO2 HO3 HO4 HO5 HO6 HP2 HP3 HP4 HP5 HP6 HB1 HB2 HB3 HB4 HB5 HB6 HS1 HS2 HS3 HIN HOA HTU
    by_cases hlt : k < N
    · have i1 : (k : Int) < (N : Int) := by omega
      obtain ⟨g1, hg1⟩ := ow_shape HO.out hz (by omega)
      have HG := Lib.hid (HZ1.out g1 hg1)
      subst hg1
      have hc := HO.out.cellAt hz (k := k) hlt
      have hf := HO.out.free hz k
      go_wp2
      exact ⟨⟨k + 1, zs.set k (-1), by omega, by rw [List.length_set]; exact hz, by go_num, HO.out.put hz k (-1), HP.out.setBelow (a := ⟨g1, k, none⟩) HG.out _, HB.out.setCell (p := ⟨g1, k, none⟩) (HO.out.lt rfl).1 _⟩, by simp [intOf]; omega⟩
    · have i1 : ¬ (k : Int) < (N : Int) := by omega
      clear HO hz hk hlt HZ1
      go_wp2_with (first
        | (go_at_call 30; (with_reducible refine (HOR.out _).mono ?_); rintro e w7 ⟨⟨A3, c3, rfl, ho⟩, hb⟩; have HS7 := Lib.hid (ow_sl ho HOL.out (by omega)); have HC7 := Lib.hid (ow_sl (HP.out.below hb (Nat.le_refl _)) HOL.out (by omega)); have HI7 := Lib.hid (ints_one w7 A3 A2 N c3 c2 xs (by omega) HS7.out HC7.out); have HB7 := Lib.hid (HB.out.trans (hb.mono HB.out.size)); clear ho hb)
        | (go_at_call 20; (with_reducible refine HI7.out.mono ?_); rintro e w8 ⟨rfl, hd⟩; have hb := hd.below w7.heap.size; have HS8 := Lib.hid (HS7.out.below hb (Nat.le_refl _)); have HB8 := Lib.hid (HB7.out.trans (hb.mono HB7.out.size)); clear hb hd)
        | (go_at_call 34; (with_reducible refine (HRO.out _).mono ?_); rintro e w9 ⟨⟨A4, c4, rfl, hs⟩, hb⟩; have HI9 := Lib.hid (ints_one w9 A3 A4 N c3 c4 xs (by omega) (HS8.out.below hb (Nat.le_refl _)) hs); have HB9 := Lib.hid (HB8.out.trans (hb.mono HB8.out.size)); clear hs hb)
        | (go_at_call 20; (with_reducible refine HI9.out.mono ?_); rintro e wa ⟨rfl, hd⟩; have HBA := Lib.hid (HB9.out.trans ((hd.below w9.heap.size).mono HB9.out.size)); clear hd)
        | (go_at_call 19; (with_reducible refine (awake_here _).mono ?_); rintro e wb ⟨rfl, hb⟩; have HBB := Lib.hid (HBA.out.trans (hb.mono HBA.out.size)); clear hb))
      go_ret
      exact ⟨rfl, HBB.out⟩
end Go.Proofs.Ytfeohcknopdamaa
