import Derived.Test.YtmnnehpoaedifaaJ34
import Derived.Test.YtmnnehpoaedifaaJ29
import Derived.Test.YtmnnehpoaedifaaJ14
/- The law ShuntOwn, from what the program's functions promise. -/
namespace Go.Proofs.Ytmnnehpoaedifaa
open Go.RowKit
set_option linter.unusedVariables false

/-- The slice A of n ints lies in a block from b0 up to G, may be written. -/
def Wr (b0 G : Nat) (W : World) (A : Option Addr) (n : Nat) : Prop := 0 < n → ∃ g, A = some ⟨g, 0, none⟩ ∧ b0 ≤ g ∧ g < G ∧ ∀ k, k < n → (∃ x, W.cell? ⟨g, k, none⟩ = some (.int .i64 x)) ∧ W.frozen? ⟨g, k, none⟩ = false
theorem Wr.of_ow {w : World} {B b0 G : Nat} {v : Value} {zs : List Int} (h : Ow w B 3 v zs) (hn : zs.length ≤ 1099511627776) (hB : b0 ≤ B) (hG : w.heap.size ≤ G) : ∃ A c, v = .slice A zs.length c ∧ Sl w A zs.length c zs ∧ Wr b0 G w A zs.length := by
  obtain ⟨A, c, hv, hsl⟩ := h.sl hn
  refine ⟨A, c, hv, hsl, fun h0 => ?_⟩
  obtain ⟨g, cap, hv2, hc, hb, hl, hcell⟩ := h.form h0
  rw [hv] at hv2
  injection hv2 with h1 _ _
  refine ⟨g, h1, by omega, by omega, fun k hk => ⟨⟨_, hcell k hk⟩, ?_⟩⟩
  rw [hv, h1] at h
  exact h.free rfl k
theorem Wr.below {b0 G G' B : Nat} {W W' : World} {A : Option Addr} {n : Nat} (h : Wr b0 G W A n) (hb : Below B W W') (hG : G ≤ B) (hG' : G ≤ G') : Wr b0 G' W' A n := fun h0 => by
  obtain ⟨g, h1, h2, h3, h4⟩ := h h0
  refine ⟨g, h1, h2, by omega, fun k hk => ?_⟩
  obtain ⟨⟨x, hx⟩, hf⟩ := h4 k hk
  exact ⟨⟨x, (hb.cell (p := ⟨g, k, none⟩) (show g < B by omega)).trans hx⟩, (hb.frozen (p := ⟨g, k, none⟩) (show g < B by omega)).trans hf⟩
theorem Wr.set {b0 G g j : Nat} {W : World} {A : Option Addr} {n : Nat} (h : Wr b0 G W A n) (y : Int) : Wr b0 G (W.setCell ⟨g, j, none⟩ (.int .i64 y)) A n := fun h0 => by
  obtain ⟨g', h1, h2, h3, h4⟩ := h h0
  refine ⟨g', h1, h2, h3, fun k hk => ?_⟩
  obtain ⟨⟨x, hx⟩, hf⟩ := h4 k hk
  refine ⟨?_, by rw [World.frozen?_setCell]; exact hf⟩
  by_cases e : (⟨g, j, none⟩ : Addr) = ⟨g', k, none⟩
  · rw [e]
    exact ⟨y, World.cell?_setCell_same' _ _ _ (by rw [hx]; rfl)⟩
  · exact ⟨x, (World.cell?_setCell_other _ _ _ _ e).trans hx⟩
/-- The six slices. -/
def All (b0 G : Nat) (W : World) : Prop := ∀ i, i < 6 → ∃ A n c, n ≤ 200 ∧ W.cell? ⟨G, i, none⟩ = some (.slice A n c) ∧ Wr b0 G W A n
theorem All.set {b0 G g j : Nat} {W : World} (h : All b0 G W) (hg : g < G) (y : Int) : All b0 G (W.setCell ⟨g, j, none⟩ (.int .i64 y)) := fun i hi => by
  obtain ⟨A, n, c, h1, h2, h3⟩ := h i hi
  exact ⟨A, n, c, h1, (World.cell?_setCell_other _ _ _ _ (fun e => by injection e with e _; omega)).trans h2, h3.set y⟩

set_option maxHeartbeats 3200000 in
theorem own_law (hA : AwakeOk) (hP : StackOk) (hQ : QueuesOk) (hS : StacksOk) (hPS : PassOk) (A : Option Addr) (n c : Nat) (zs : List Int) (w : World) (hs : Sl w A n c zs) :
    Calls Try.prog 17 #[.slice A n c] w fun e w' => e = .returned (.bool true) ∧ Below w.heap.size w w' := by
  obtain ⟨N, hN⟩ : ∃ N, min n 25 = N := ⟨_, rfl⟩
  obtain ⟨o, hoe⟩ : ∃ o, tameOf zs N = o := ⟨_, rfl⟩
  have hol : o.length = N := by rw [← hoe, tameOf_len]
  have hord : Ord o := by rw [← hoe]; exact ord_tame zs N
  have hN25 : N ≤ 25 := by omega
  have hob : ordB o 60 = true := ordB_iff.2 ⟨hord, by omega⟩
  have hpl : (passOf o).length = N := by rw [passOf_len, hol]
  have HA := Lib.hid hA
  have HT : Hid (Calls Try.prog 48 #[.slice A n c, .int .i64 (25 : Nat)] w fun e w' => ∃ B d, e = .returned (.slice B N d) ∧ Sl w' B N d o ∧ Below w.heap.size w w') := by
    refine (tame_any A n c zs 25 w hs (by omega)).mono ?_
    rintro e w1 ⟨v, rfl, hv, hb⟩
    rw [hN, hoe] at hv
    obtain ⟨B, d, rfl, hsl⟩ := hv.sl_len hol (by omega)
    exact ⟨B, d, rfl, hsl, hb⟩
  have HL : Hid (∀ B d W, Sl W B N d o → Calls Try.prog 18 #[.slice B N d] W fun e w' => ∃ (B' : Option Addr) (d' : Nat), e = .returned (.slice B' N d') ∧ Sl w' B' N d' o ∧ Below W.heap.size W w') := fun B d W hsl =>
    list_sl B N d o W hsl N o (by omega) (by rw [List.take_of_length_le (by omega)])
  have HP : Hid (∀ b0 B d W, b0 ≤ W.heap.size → Sl W B N d o → Calls Try.prog 19 #[.slice B N d] W fun e w' => ∃ (P : ByteArray) (U : Option Addr) (l u' : Nat), e = .returned (.tuple #[.string P, .slice U l u', .int .i64 0]) ∧ l ≤ 200 ∧ Wr b0 w'.heap.size w' U l ∧ Below W.heap.size W w') := fun b0 B d W hb0 hsl => by
    refine (hP B _ d o W hsl).mono ?_
    rintro e w' ⟨P, v, x, t, rfl, hv, _, h3, _, h1, h2, hb⟩
    obtain ⟨U, u', rfl, _, hwr⟩ := Wr.of_ow hv (by omega) hb0 (Nat.le_refl _)
    have hx : x = 0 := by
      cases hh : ascB (passOf o) with
      | true => exact (h1 hob hh).2.2
      | false => exact (h2 hob hh).2.2
    subst hx
    exact ⟨P, U, _, u', rfl, by omega, hwr, hb⟩
  have HQ : Hid (∀ b0 B d W, b0 ≤ W.heap.size → Sl W B N d o → Calls Try.prog 26 #[.slice B N d, .int .i64 2] W fun e w' => ∃ (U : Option Addr) (l u' : Nat) (V : Option Addr) (m v' : Nat), e = .returned (.tuple #[.slice U l u', .slice V m v', .int .i64 0]) ∧ l ≤ 200 ∧ m ≤ 200 ∧ Wr b0 w'.heap.size w' U l ∧ Wr b0 w'.heap.size w' V m ∧ Below W.heap.size W w') := fun b0 B d W hb0 hsl => by
    refine (hQ B _ d o 2 W hsl).mono ?_
    rintro e w' ⟨u, v, x, l, b, rfl, hu, hv, hl, hbl, _, h1, h2, hb⟩
    obtain ⟨U, u', rfl, _, hwr⟩ := Wr.of_ow hu (by omega) hb0 (Nat.le_refl _)
    obtain ⟨V, v', rfl, _, hwv⟩ := Wr.of_ow hv (by omega) hb0 (Nat.le_refl _)
    have hx : x = 0 := by
      rcases Int.lt_or_le 2 (leastOf o) with hh | hh
      · exact (h2 hob (by omega) (by omega) hh).2.2
      · exact (h1 hob (by omega) (by omega) hh).2.2
    subst hx
    exact ⟨U, _, u', V, _, v', rfl, by omega, by omega, hwr, hwv, hb⟩
  have HS : Hid (∀ b0 B d W, b0 ≤ W.heap.size → Sl W B N d o → Calls Try.prog 32 #[.slice B N d] W fun e w' => ∃ (U : Option Addr) (l u' : Nat) (V : Option Addr) (m v' : Nat), e = .returned (.tuple #[.slice U l u', .slice V m v', .int .i64 0]) ∧ l ≤ 200 ∧ m ≤ 200 ∧ Wr b0 w'.heap.size w' U l ∧ Wr b0 w'.heap.size w' V m ∧ Below W.heap.size W w') := fun b0 B d W hb0 hsl => by
    refine (hS B _ d o W hsl).mono ?_
    rintro e w' ⟨u, v, x, l, b, rfl, hu, hv, hl, hbl, _, h1, h2, hb⟩
    obtain ⟨U, u', rfl, _, hwr⟩ := Wr.of_ow hu (by omega) hb0 (Nat.le_refl _)
    obtain ⟨V, v', rfl, _, hwv⟩ := Wr.of_ow hv (by omega) hb0 (Nat.le_refl _)
    have hx : x = 0 := by
      cases hh : twoB o with
      | true => exact (h1 hob hh).2.2
      | false => exact (h2 hob hh).2.2
    subst hx
    exact ⟨U, _, u', V, _, v', rfl, by omega, by omega, hwr, hwv, hb⟩
  have HPS : Hid (∀ b0 B d W, b0 ≤ W.heap.size → Sl W B N d o → Calls Try.prog 45 #[.slice B N d] W fun e w' => ∃ (U : Option Addr) (u' : Nat), e = .returned (.tuple #[.slice U N u', .int .i64 0]) ∧ Sl w' U N u' (passOf o) ∧ Wr b0 w'.heap.size w' U N ∧ Below W.heap.size W w') := fun b0 B d W hb0 hsl => by
    refine (hPS B _ d o W hsl).mono ?_
    rintro e w' ⟨v, x, l, rfl, hv, _, h1, hb⟩
    obtain ⟨rfl, rfl⟩ := h1 hob
    obtain ⟨U, u', rfl, hsl', hwr⟩ := Wr.of_ow hv (by omega) hb0 (Nat.le_refl _)
    rw [hpl] at hsl' hwr
    exact ⟨U, u', by rw [hpl], hsl', hwr, hb⟩
  have HRP : Hid (∀ B d W, Sl W B N d o → Calls Try.prog 46 #[.slice B N d] W fun e w' => ∃ (U : Option Addr) (u' : Nat), e = .returned (.slice U N u') ∧ Sl w' U N u' (passOf o) ∧ Below W.heap.size W w') := fun B d W hsl => by
    refine (pass_any B N d o W hsl (by omega)).mono ?_
    rintro e w' ⟨v, rfl, hv, hb⟩
    obtain ⟨U, u', rfl, hsl'⟩ := hv.sl_len hpl (by omega)
    exact ⟨U, u', rfl, hsl', hb⟩
  have HI1 : Hid (∀ B d B' d' W, Sl W B N d o → Sl W B' N d' o → Calls Try.prog 42 #[.slice B N d, .slice B' N d'] W fun e w' => e = .returned (.bool true) ∧ Dr W w') := fun B d B' d' W h1 h2 => ints_same B B' o N d d' W hol (by omega) h1.rd h2.rd
  have HI2 : Hid (∀ B d B' d' W, Sl W B N d (passOf o) → Sl W B' N d' (passOf o) → Calls Try.prog 42 #[.slice B N d, .slice B' N d'] W fun e w' => e = .returned (.bool true) ∧ Dr W w') := fun B d B' d' W h1 h2 => ints_same B B' (passOf o) N d d' W hpl (by omega) h1.rd h2.rd
  clear hA hP hQ hS hPS hs hN hoe hol hord hob hpl
  go_enter Try.func17, Try.ntmps17
  go_wp2_with (go_at_call 48; refine HT.out.mono ?_; clear HT; rintro e w1 ⟨B, d, rfl, o1, hb1⟩)
  go_wp2_with (go_at_call 18; refine (HL.out _ _ _ o1).mono ?_; clear HL; rintro e w2 ⟨C, cd, rfl, c2, hb2⟩)
  have o2 := o1.below hb2 (Nat.le_refl _)
  have HK : Hid (Below w.heap.size w w2) := Kp.call hb1 hb2
  have k2 : Below w2.heap.size w2 w2 := Below.refl _ _
  clear o1 hb1 hb2
  have HO := Lib.hid o2
  have HC := Lib.hid c2; clear c2
  go_wp2_with (go_at_call 19; refine (HP.out w2.heap.size _ _ _ (Nat.le_refl _) o2).mono ?_; clear HP; rintro e w3 ⟨P, U1, l1, u1, rfl, hl1, r1, hb⟩)
  have o3 := o2.below hb (Nat.le_refl _)
  have k3 : Below w2.heap.size w2 w3 := hb
  have R1 := Lib.hid r1
  clear o2 r1 hb k2
  go_wp2_with (go_at_call 26; refine (HQ.out w2.heap.size _ _ _ k3.size o3).mono ?_; clear HQ; rintro e w4 ⟨U2, l2, u2, U3, l3, u3, rfl, hl2, hl3, r2, r3, hb⟩)
  have o4 := o3.below hb (Nat.le_refl _)
  have k4 := Kp.call k3 hb
  have R1 := Lib.hid (R1.out.below hb (Nat.le_refl _) hb.size)
  have R2 := Lib.hid r2
  have R3 := Lib.hid r3
  clear o3 r2 r3 hb k3
  go_wp2_with (go_at_call 32; refine (HS.out w2.heap.size _ _ _ k4.size o4).mono ?_; clear HS; rintro e w5 ⟨U4, l4, u4, U5, l5, u5, rfl, hl4, hl5, r4, r5, hb⟩)
  have o5 := o4.below hb (Nat.le_refl _)
  have k5 := Kp.call k4 hb
  have R1 := Lib.hid (R1.out.below hb (Nat.le_refl _) hb.size)
  have R2 := Lib.hid (R2.out.below hb (Nat.le_refl _) hb.size)
  have R3 := Lib.hid (R3.out.below hb (Nat.le_refl _) hb.size)
  have R4 := Lib.hid r4
  have R5 := Lib.hid r5
  clear o4 r4 r5 hb k4
  go_wp2_with (go_at_call 45; refine (HPS.out w2.heap.size _ _ _ k5.size o5).mono ?_; rintro e w6 ⟨U6, u6, rfl, _, r6, hb⟩; have k6 := Kp.call k5 hb; have R1 := Lib.hid (R1.out.below hb (Nat.le_refl _) hb.size); have R2 := Lib.hid (R2.out.below hb (Nat.le_refl _) hb.size); have R3 := Lib.hid (R3.out.below hb (Nat.le_refl _) hb.size); have R4 := Lib.hid (R4.out.below hb (Nat.le_refl _) hb.size); have R5 := Lib.hid (R5.out.below hb (Nat.le_refl _) hb.size); have R6 := Lib.hid r6; clear o5 r6 hb k5)
  obtain ⟨w7, hw7⟩ : ∃ w7, w7 = w6.alloc (.cells #[.slice U1 l1 u1, .slice U2 l2 u2, .slice U3 l3 u3, .slice U4 l4 u4, .slice U5 l5 u5, .slice U6 N u6] 22) := ⟨_, rfl⟩
  have hb7 : Below w6.heap.size w6 w7 := by rw [hw7]; exact (Below.refl _ _).alloc (Nat.le_refl _) _
  have HALL : Hid (All w2.heap.size w6.heap.size w7) := fun i hi => by
    have hc : ∀ j, w7.cell? ⟨w6.heap.size, j, none⟩ = #[Value.slice U1 l1 u1, .slice U2 l2 u2, .slice U3 l3 u3, .slice U4 l4 u4, .slice U5 l5 u5, .slice U6 N u6][j]? := fun j => by
      rw [hw7]; exact cell_of_row _ _ j _ _ _ (heap_alloc_new w6 _)
    rcases (by omega : i = 0 ∨ i = 1 ∨ i = 2 ∨ i = 3 ∨ i = 4 ∨ i = 5) with rfl | rfl | rfl | rfl | rfl | rfl
    · exact ⟨U1, l1, u1, hl1, hc 0, R1.out.below hb7 (Nat.le_refl _) (Nat.le_refl _)⟩
    · exact ⟨U2, l2, u2, hl2, hc 1, R2.out.below hb7 (Nat.le_refl _) (Nat.le_refl _)⟩
    · exact ⟨U3, l3, u3, hl3, hc 2, R3.out.below hb7 (Nat.le_refl _) (Nat.le_refl _)⟩
    · exact ⟨U4, l4, u4, hl4, hc 3, R4.out.below hb7 (Nat.le_refl _) (Nat.le_refl _)⟩
    · exact ⟨U5, l5, u5, hl5, hc 4, R5.out.below hb7 (Nat.le_refl _) (Nat.le_refl _)⟩
    · exact ⟨U6, N, u6, by omega, hc 5, R6.out.below hb7 (Nat.le_refl _) (Nat.le_refl _)⟩
  have k7 := Kp.call k6 hb7
  rw [← hw7]
  obtain ⟨G, hG⟩ : ∃ G, G = w6.heap.size := ⟨_, rfl⟩
  rw [← hG] at HALL
  rw [← hG]
  have HG := Lib.hid hG; clear hG
  have HW7 := Lib.hid hw7; clear hw7
  clear R1 R2 R3 R4 R5 R6 k6 hb7 hl1 hl2 hl3 hl4 hl5
  go_loopw [17, 18] (fun i _ w' => ∃ x : Nat, x ≤ 6 ∧ i = .int .i64 (x : Int) ∧ Hid (All w2.heap.size G w') ∧ Below w2.heap.size w2 w') (fun i _ _ => 6 - (intOf i).toNat)
  case atStart => exact ⟨0, by omega, by go_num, HALL, k7⟩
  case round =>
    obtain ⟨x, hx, rfl, HALLx, hWx⟩ := hrel
    by_cases hlt : x < 6
    · have hlt' : (x : Int) < 6 := by omega
      obtain ⟨AA, nn, cc, hnn, hcell, hwr⟩ := HALLx.out x hlt
      have HWR := Lib.hid hwr; clear hwr
      obtain ⟨wo, rfl⟩ : ∃ wo : World, wo = wr := ⟨_, rfl⟩
      go_wp2
      go_loopw [18] (fun i w' => ∃ j : Nat, j ≤ nn ∧ i = .int .i64 (j : Int) ∧ w'.cell? ⟨G, x, none⟩ = some (.slice AA nn cc) ∧ Hid (Wr w2.heap.size G w' AA nn) ∧ Hid (All w2.heap.size G w') ∧ Below w2.heap.size w2 w') (fun i _ => nn - (intOf i).toNat)
      case atStart => exact ⟨0, by omega, by go_num, hcell, HWR, HALLx, hWx⟩
      case round =>
        obtain ⟨j, hj, rfl, hcj, HWj, HAj, hWj⟩ := hrel
        by_cases hlj : j < nn
        · obtain ⟨g, rfl, hg1, hg2, hgc⟩ := HWj.out (by omega)
          obtain ⟨⟨y, hy⟩, hfy⟩ := hgc j hlj
          clear hgc
          have HWn : Hid (Wr w2.heap.size G (wr.setCell ⟨g, j, none⟩ (.int .i64 (-1))) (some ⟨g, 0, none⟩) nn) := HWj.out.set (-1)
          have HAn : Hid (All w2.heap.size G (wr.setCell ⟨g, j, none⟩ (.int .i64 (-1)))) := HAj.out.set hg2 (-1)
          have hcn : (wr.setCell ⟨g, j, none⟩ (.int .i64 (-1))).cell? ⟨G, x, none⟩ = some (.slice (some ⟨g, 0, none⟩) nn cc) := (World.cell?_setCell_other _ _ _ _ (fun e => by injection e with e _; omega)).trans hcj
          have hWn := hWj.setCell (p := ⟨g, j, none⟩) hg1 (.int .i64 (-1))
          have HCN := Lib.hid hcn; clear hcn
          go_wp2
          go_roundw
          case rel => exact ⟨j + 1, by omega, by go_num, HCN.out, HWn, HAn, hWn⟩
          case measure => simp [intOf]; omega
        · obtain rfl : j = nn := by omega
          go_wp2
          go_roundw
          case rel => exact ⟨x + 1, by omega, by go_num, HAj, hWj⟩
          case measure => simp [intOf]; omega
    · obtain rfl : x = 6 := by omega
      have o8 := HO.out.below hWx (Nat.le_refl _)
      have c8 := HC.out.below hWx (Nat.le_refl _)
      go_wp2_with (go_at_call 45; refine (HPS.out w2.heap.size _ _ _ hWx.size o8).mono ?_; clear HPS; rintro e w9 ⟨U9, u9, rfl, m9, _, hb⟩; have o9 := o8.below hb (Nat.le_refl _); have c9 := c8.below hb (Nat.le_refl _); have k9 := Kp.call hWx hb; clear hb)
      have HI1' := Lib.hid (HI1.out _ _ _ _ _ o9 c9)
      go_wp2_with (go_at_call 42; refine HI1'.out.mono ?_; clear HI1' HI1; rintro e w10 ⟨rfl, hd⟩; have c10 := c9.dr hd; have m10 := m9.dr hd; have k10 := Kp.call k9 (hd.below _); clear hd)
      go_wp2_with (go_at_call 46; refine (HRP.out _ _ _ c10).mono ?_; clear HRP; rintro e w11 ⟨U11, u11, rfl, m11, hb⟩; have m11' := m10.below hb (Nat.le_refl _); have k11 := Kp.call k10 hb; clear hb)
      have HI2' := Lib.hid (HI2.out _ _ _ _ _ m11' m11)
      go_wp2_with (first | (go_at_call 42; refine HI2'.out.mono ?_; clear HI2'; rintro e w12 ⟨rfl, hd⟩; have k12 := Kp.call k11 (hd.below _); clear hd) | (go_at_call 22; refine (HA.out _).mono ?_; rintro e w13 ⟨rfl, hb⟩; have k13 := Kp.call k12 hb; clear hb))
      go_ret
      exact ⟨rfl, HK.out.trans (k13.mono HK.out.size)⟩
end Go.Proofs.Ytmnnehpoaedifaa
