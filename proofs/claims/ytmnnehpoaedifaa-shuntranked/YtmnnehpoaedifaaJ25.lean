import Derived.Test.YtmnnehpoaedifaaJ10
import Derived.Test.YtmnnehpoaedifaaJ03
import Derived.Test.YtmnnehpoaedifaaJ11
import Derived.Test.YtmnnehpoaedifaaJ02
import Derived.Test.YtmnnehpoaedifaaJ07
/- The law ShuntRanked, from what Count, Sortable, Rank, Stack promise. -/
namespace Go.Proofs.Ytmnnehpoaedifaa
open Go.RowKit

theorem mod_val_big (x n : Int) (hn : 1 ≤ n) (hn' : n ≤ 4000000000000000) : ∃ r : Nat, wrap64 ((IntKind.u64.wrap x).tmod n) = r ∧ (r : Int) < n := by
  have h0 := wrap_u64_nonneg x
  rw [Int.tmod_eq_emod_of_nonneg h0]
  have h1 := Int.emod_nonneg (IntKind.u64.wrap x) (show n ≠ 0 by omega)
  have h2 := Int.emod_lt_of_pos (IntKind.u64.wrap x) (show 0 < n by omega)
  rw [IntWalk.wrap64_in _ ⟨by omega, by omega⟩]
  exact ⟨((IntKind.u64.wrap x) % n).toNat, by omega, by omega⟩
theorem mod_big (x : Int) (n : Int) (w : World) (hn : 1 ≤ n) (hn' : n ≤ 4000000000000000) :
    Calls Try.prog 49 #[.int .i64 x, .int .i64 n] w fun e w' => (∃ r : Nat, e = .returned (.int .i64 r) ∧ (r : Int) < n) ∧ w = w' := by
  have H := Lib.hid (mod_val_big x n hn hn')
  go_enter Try.func49, Try.ntmps49
  go_wp2
  go_ret
  obtain ⟨r, h1, h2⟩ := H.out
  exact ⟨⟨r, iend h1, h2⟩, rfl⟩
theorem Dr.drew {w w' : World} (h : Dr w w') : Dr w w'.drew := h.trans ⟨1, rfl⟩
structure UnrankAll (n k : Nat) (l : List Int) : Prop where
  len : l.length = n
  ord : ordB l 60 = true
  asc : ascB (passOf l) = true
  rank : rankF n l 0 = k
theorem unrank_all {n k : Nat} (hn : n ≤ 30) (hk : k < cat n) : UnrankAll n k (unrankF n n k 0) := by
  have hl := unrankF_len n n k 0 (Nat.le_refl _) hk
  obtain ⟨h1, h2⟩ := rank_unrank n n k 0 (Nat.le_refl _) hk
  have hg := good_of_rankOk n _ 0 h1
  have hord : Ord (unrankF n n k 0) := ⟨hg.diff, fun i hi => by have := (hg.rng i hi).1; simpa [at0] using this, fun i hi => by have := (hg.rng i hi).2; simpa [at0] using this⟩
  exact ⟨hl, ordB_iff.2 ⟨hord, by omega⟩, (oneStack_iff hg.diff).2 hg.good, h2⟩

set_option maxHeartbeats 1600000 in
theorem ranked_law (hA : AwakeOk) (hC : CountOk) (hS : SortableOk) (hR : RankFnOk) (hT : StackOk) (n k : Int) (w : World) :
    Calls Try.prog 15 #[.int .i64 n, .int .i64 k] w fun e w' => e = .returned (.bool true) ∧ Below w.heap.size w w' := by
  have HA := Lib.hid hA; clear hA
  have HCNT : Hid (∀ (W : World) (q : Nat), q ≤ 30 → Calls Try.prog 39 #[.int .i64 q] W fun e w' => e = .returned (.tuple #[.int .i64 (cat q : Nat), .int .i64 0]) ∧ Below W.heap.size W w') := fun W q hq => by
    refine (hC (q : Int) W).mono ?_
    rintro e w' ⟨c, x, rfl, h1, _, hb⟩
    obtain ⟨rfl, rfl⟩ := h1 (by omega) (by omega)
    exact ⟨by simp, hb⟩
  have HSRT : Hid (∀ (W : World) (q r : Nat), q ≤ 30 → r < cat q → Calls Try.prog 40 #[.int .i64 q, .int .i64 r] W fun e w' => ∃ C d', e = .returned (.tuple #[.slice C q d', .int .i64 0]) ∧ Sl w' C q d' (unrankF q q r 0) ∧ Below W.heap.size W w') := fun W q r hq hr => by
    refine (hS (q : Int) (r : Int) W).mono ?_
    rintro e w' ⟨v, x, zs, rfl, ho, h1, _, hb⟩
    obtain ⟨hz, rfl⟩ := h1 (by omega) (by omega) (by omega) (by simpa using hr)
    rw [Int.toNat_natCast, Int.toNat_natCast] at hz
    subst hz
    obtain ⟨C, d', rfl, hsl⟩ := ho.sl_len (n := q) (unrank_all hq hr).len (by omega)
    exact ⟨C, d', rfl, hsl, hb⟩
  have HRNK : Hid (∀ (W : World) (C : Option Addr) (q d' r : Nat), q ≤ 30 → r < cat q → Sl W C q d' (unrankF q q r 0) → Calls Try.prog 44 #[.slice C q d'] W fun e w' => e = .returned (.tuple #[.int .i64 (r : Int), .int .i64 0]) ∧ Below W.heap.size W w') := fun W C q d' r hq hr hs => by
    have hu := unrank_all hq hr
    refine (hR C q d' _ W hs).mono ?_
    rintro e w' ⟨m, x, rfl, _, _, h1, hb⟩
    obtain ⟨rfl, rfl⟩ := h1 hu.ord hq hu.asc
    rw [hu.rank]
    exact ⟨rfl, hb⟩
  have HSTK : Hid (∀ (W : World) (C : Option Addr) (q d' r : Nat), q ≤ 30 → r < cat q → Sl W C q d' (unrankF q q r 0) → Calls Try.prog 19 #[.slice C q d'] W fun e w' => ∃ (p : ByteArray) (D : Option Addr) (e2 : Nat), e = .returned (.tuple #[.string p, .slice D 0 e2, .int .i64 0]) ∧ Hid (planB (unrankF q q r 0) p.data.toList = true) ∧ p.size ≤ 120 ∧ Below W.heap.size W w') := fun W C q d' r hq hr hs => by
    have hu := unrank_all hq hr
    refine (hT C q d' _ W hs).mono ?_
    rintro e w' ⟨p, v, x, b, rfl, ho, hp, _, _, h1, _, hb⟩
    obtain ⟨hpl, rfl, rfl⟩ := h1 hu.ord hu.asc
    obtain ⟨D, e2, rfl, _⟩ := ho.sl_len (n := 0) rfl (by omega)
    exact ⟨p, D, e2, rfl, hpl, hp, hb⟩
  clear hC hS hR hT
  have H1 := Lib.hid (mod_big n 31 w (by omega) (by omega))
  go_enter Try.func15, Try.ntmps15
  go_wp2_with (go_at_call 49; refine H1.out.mono ?_; clear H1; rintro e w1 ⟨⟨q, rfl, hq⟩, rfl⟩)
  have hq30 : q ≤ 30 := by omega
  clear hq
  have hcp := cat_pos q
  have hcb := cat_bound q hq30
  obtain ⟨c, hc⟩ : ∃ c, c = cat q := ⟨_, rfl⟩
  have H2 := HCNT.out w q hq30
  rw [← hc] at hcp hcb H2
  have HC := Lib.hid hc; clear hc
  have H2' := Lib.hid H2; clear H2
  have g1 : ¬ (c : Int) < 1 := by omega
  go_wp2_with (go_at_call 39; refine H2'.out.mono ?_; clear H2'; rintro e w2 ⟨rfl, hb2⟩)
  clear g1
  have H3 := Lib.hid (mod_big k (c : Int) w2 (by omega) (by omega))
  go_wp2_with (go_at_call 49; refine H3.out.mono ?_; clear H3; rintro e w3 ⟨⟨r, rfl, hr⟩, rfl⟩)
  have HR : Hid (r < cat q) := by rw [Hid, ← HC.out]; omega
  have hrc : r < c := by omega
  clear hr
  have H4 := Lib.hid (HSRT.out w2 q r hq30 HR.out)
  go_wp2_with (go_at_call 40; refine H4.out.mono ?_; clear H4; rintro e w4 ⟨C, d4, rfl, hs4, hb4⟩; have HS4 := Lib.hid hs4; clear hs4)
  have H5 := Lib.hid (HRNK.out w4 C q d4 r hq30 HR.out HS4.out)
  go_wp2_with (go_at_call 44; refine H5.out.mono ?_; clear H5; rintro e w5 ⟨rfl, hb5⟩)
  have HS5 := Lib.hid (HS4.out.below hb5 (Nat.le_refl _))
  have H6 := Lib.hid (HSTK.out w5 C q d4 r hq30 HR.out HS5.out)
  go_wp2_with (go_at_call 19; refine H6.out.mono ?_; clear H6; rintro e w6 ⟨p, D, e6, rfl, HPB, hp6, hb6⟩)
  have HS6 := Lib.hid (HS5.out.below hb6 (Nat.le_refl _))
  have H7 : Hid (Calls Try.prog 24 #[.slice C q d4, .string p] w6 fun e w' => e = .returned (.bool true) ∧ Below w6.heap.size w6 w') := by
    have h := planSorts_any C q d4 _ p w6 HS6.out (by omega) (by omega)
    rw [HPB.out] at h
    exact h
  have hbw6 : Below w.heap.size w w6 := ((hb2.trans (hb4.mono hb2.size)).trans (hb5.mono (Nat.le_trans hb2.size hb4.size))).trans (hb6.mono (Nat.le_trans (Nat.le_trans hb2.size hb4.size) hb5.size))
  by_cases hlast : r + 1 = c
  · have g2 : ((r : Int) + 1 == (c : Int)) = true := by simp; omega
    have HL := Lib.hid hlast; clear hlast
    go_wp2_with (first | (go_at_call 24; refine H7.out.mono ?_; clear H7; rintro e w7 ⟨rfl, hb7⟩) | (go_at_call 22; refine (HA.out _).mono ?_; rintro e w8 ⟨rfl, hb8⟩))
    go_ret
    exact ⟨rfl, (hbw6.trans (hb7.mono hbw6.size)).trans (hb8.mono (Nat.le_trans hbw6.size hb7.size))⟩
  · have g2 : ((r : Int) + 1 == (c : Int)) = false := by simp; omega
    have hr1 : r + 1 < c := by omega
    have HR1 : Hid (r + 1 < cat q) := by rw [Hid, ← HC.out]; exact hr1
    have HL := Lib.hid hlast; clear hlast
    have H8 : Hid (∀ W, Calls Try.prog 40 #[.int .i64 q, .int .i64 ((r : Int) + 1)] W fun e w' => ∃ C d', e = .returned (.tuple #[.slice C q d', .int .i64 0]) ∧ Sl w' C q d' (unrankF q q (r + 1) 0) ∧ Below W.heap.size W w') := fun W => HSRT.out W q (r + 1) hq30 HR1.out
    go_wp2_with (first | (go_at_call 24; refine H7.out.mono ?_; clear H7; rintro e w7 ⟨rfl, hb7⟩) | (go_at_call 40; refine (H8.out _).mono ?_; clear H8; rintro e w8 ⟨E, d8, rfl, hs8, hb8⟩; have HS8 := Lib.hid hs8; clear hs8))
    have HS9 := Lib.hid ((HS6.out.below hb7 (Nat.le_refl _)).below hb8 (Nat.le_refl _))
    have hbw8 : Below w.heap.size w w8 := (hbw6.trans (hb7.mono hbw6.size)).trans (hb8.mono (Nat.le_trans hbw6.size hb7.size))
    obtain ⟨i0, hi0, hsame, hless⟩ := unrank_asc q q r (r + 1) 0 (Nat.le_refl _) (by omega) HR1.out
    have HSM := Lib.hid hsame; clear hsame
    have HLS := Lib.hid hless; clear hless
    go_loopw [16] (fun i w' => ∃ j : Nat, j ≤ i0 ∧ i = .int .i64 j ∧ Dr w8 w') (fun i _ => i0 + 1 - (intOf i).toNat)
    case atStart => exact ⟨0, by omega, by go_num, Dr.refl _⟩
    case round =>
      obtain ⟨j, hj, rfl, hD⟩ := hrel
      have hjq : j < q := by omega
      obtain ⟨b1, o1, rfl, hc1⟩ := HS9.out.at_ hjq
      obtain ⟨b2, o2, rfl, hc2⟩ := HS8.out.at_ hjq
      have hx1 := (hD.cell _).trans hc1
      have hx2 := (hD.cell _).trans hc2
      clear hc1 hc2
      by_cases hlt : j < i0
      · have he := HSM.out j hlt
        unfold at0 at he
        rw [he] at hx1
        generalize (unrankF q q (r + 1) 0)[j]?.getD 0 = y at *
        have gy : (y != y) = false := by simp
        have HE := Lib.hid he; clear he
        go_wp2
        go_quiet (fail)
        go_wp2
        go_roundw
        case rel => exact ⟨j + 1, by omega, by go_num, hD.more _⟩
        case measure => simp [intOf]; omega
      · obtain rfl : j = i0 := by omega
        have he := HLS.out
        unfold at0 at he
        generalize (unrankF q q (r + 1) 0)[j]?.getD 0 = y at *
        generalize (unrankF q q r 0)[j]?.getD 0 = x at *
        have gy : (x != y) = true := by simp; omega
        have gz : decide (x < y) = true := by simpa using he
        clear he hlt
        have HAW : Hid (∀ W, Dr w8 W → Calls Try.prog 22 #[] W fun e w' => e = .returned (.bool true) ∧ Below w.heap.size w w') := fun W h => (HA.out W).mono fun e w' ⟨he, hb⟩ => ⟨he, ((hbw8.trans (h.below _))).trans (hb.mono (by have := hbw8.size; obtain ⟨q, rfl⟩ := h; exact this))⟩
        have HD := Lib.hid hD
        go_wp2
        go_quiet (fail)
        go_wp2_with fail
        have HD2 : Hid (Dr w8 (wr.drewN nq)) := HD.out.more _
        obtain ⟨W9, hW9⟩ : ∃ W9, W9 = wr.drewN nq := ⟨_, rfl⟩
        have hx1' : W9.cell? ⟨b1, o1 + j, none⟩ = some (.int .i64 x) := by rw [hW9]; exact hx1
        have hx2' : W9.cell? ⟨b2, o2 + j, none⟩ = some (.int .i64 y) := by rw [hW9]; exact hx2
        rw [← hW9] at HD2
        rw [← hW9]
        clear hW9 hx1 hx2 hD
        go_region_with (go_at_call 22; (first | with_reducible refine (HAW.out _ HD2.out).mono ?_ | with_reducible refine (HAW.out _ HD2.out.drew).mono ?_); rintro e w10 ⟨rfl, hb10⟩)
        all_goals go_wp2
        all_goals go_ret
        all_goals exact ⟨rfl, by first | exact hb10 | exact hb10.drew⟩
end Go.Proofs.Ytmnnehpoaedifaa
