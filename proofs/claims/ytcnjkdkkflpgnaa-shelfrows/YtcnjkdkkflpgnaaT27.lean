import Derived.Test.YtcnjkdkkflpgnaaT24
import Derived.Test.YtcnjkdkkflpgnaaT26
/- Layer 8: the walk of ShelfServes. -/
namespace Go.Proofs.Ytcnjkdkkflpgnaa
open Go.RowKit Go.Maps
set_option linter.unusedVariables false

theorem Ow.sl_of {w : World} {B e n : Nat} {v : Value} {zs : List Int} (h : Ow w B e v zs) (hl : zs.length = n) (hn : n ≤ 1000) : ∃ A c, v = .slice A n c ∧ Sl w A n c zs := h.sl_len hl (by omega)
def badSh (e : Ending) : Prop := e = .returned (.tuple #[.int .i64 0, .slice none 0 0, .int .i64 2])
section
variable (k : Int) (zs : List Int) (A : Option Addr) (n c : Nat) (V : World) (h : Sl V A n c zs)
include h
theorem serves_recent (h1 : reqB zs 200 15 = true) (h2 : placesB k = true) : Calls Try.prog 17 #[.slice A n c, .int .i64 k] V fun e w' => (∃ A' c', e = .returned (.tuple #[.int .i64 (svC 0 k zs n), .slice A' n c', .int .i64 0]) ∧ Sl w' A' n c' (svP 0 k zs n)) ∧ Below V.heap.size V w' := by
  obtain ⟨hn, hz⟩ := reqB_parts h1
  have hl := h.len
  refine (recent_any k zs A n c V h).mono ?_
  rintro e w' ⟨⟨_, _, v, rfl, ho⟩ | ⟨e1 | e1, _⟩, hb⟩
  · have hk : 1 ≤ k := by unfold placesB at h2; rw [Bool.and_eq_true, decide_eq_true_iff] at h2; exact h2.1
    obtain ⟨s1, s2⟩ := way_same (st := 0) (rk := rkLast) (.inl ⟨rfl, rfl⟩) hk hz
    rw [hl] at s1 s2
    rw [s1]
    rw [s2] at ho
    obtain ⟨A', c', rfl, hs⟩ := ho.sl_of (svP_len _ _ _ _) (by omega)
    exact ⟨⟨A', c', rfl, hs⟩, hb⟩
  · rw [h1] at e1; cases e1
  · rw [h2] at e1; cases e1
theorem serves_first (h1 : reqB zs 200 15 = true) (h2 : placesB k = true) : Calls Try.prog 18 #[.slice A n c, .int .i64 k] V fun e w' => (∃ A' c', e = .returned (.tuple #[.int .i64 (svC 1 k zs n), .slice A' n c', .int .i64 0]) ∧ Sl w' A' n c' (svP 1 k zs n)) ∧ Below V.heap.size V w' := by
  obtain ⟨hn, hz⟩ := reqB_parts h1
  have hl := h.len
  refine (first_any k zs A n c V h).mono ?_
  rintro e w' ⟨⟨_, _, v, rfl, ho⟩ | ⟨e1 | e1, _⟩, hb⟩
  · have hk : 1 ≤ k := by unfold placesB at h2; rw [Bool.and_eq_true, decide_eq_true_iff] at h2; exact h2.1
    obtain ⟨s1, s2⟩ := way_same (st := 1) (rk := rkSince) (.inr ⟨rfl, rfl⟩) hk hz
    rw [hl] at s1 s2
    rw [s1]
    rw [s2] at ho
    obtain ⟨A', c', rfl, hs⟩ := ho.sl_of (svP_len _ _ _ _) (by omega)
    exact ⟨⟨A', c', rfl, hs⟩, hb⟩
  · rw [h1] at e1; cases e1
  · rw [h2] at e1; cases e1
theorem serves_best (h1 : reqB zs 200 15 = true) (h2 : placesB k = true) : Calls Try.prog 19 #[.slice A n c, .int .i64 k] V fun e w' => (∃ A' c', e = .returned (.tuple #[.int .i64 (svC 2 k zs n), .slice A' n c', .int .i64 0]) ∧ Sl w' A' n c' (rP (rkBest zs) k zs n)) ∧ Below V.heap.size V w' := by
  obtain ⟨hn, hz⟩ := reqB_parts h1
  have hl := h.len
  refine (best_any k zs A n c V h).mono ?_
  rintro e w' ⟨⟨_, _, v, rfl, ho⟩ | ⟨e1 | e1, _⟩, hb⟩
  · have hk : 1 ≤ k := by unfold placesB at h2; rw [Bool.and_eq_true, decide_eq_true_iff] at h2; exact h2.1
    have s1 := (best_run hk hz zs.length (Nat.le_refl _)).2
    rw [hl] at s1
    rw [s1]
    obtain ⟨A', c', rfl, hs⟩ := ho.sl_of (rP_len _ _ _ _) (by omega)
    exact ⟨⟨A', c', rfl, hs⟩, hb⟩
  · rw [h1] at e1; cases e1
  · rw [h2] at e1; cases e1
theorem serves_bad (hb : reqB zs 200 15 = false ∨ placesB k = false) : Calls Try.prog 17 #[.slice A n c, .int .i64 k] V (fun e w' => e = .returned (.tuple #[.int .i64 0, .slice none 0 0, .int .i64 2]) ∧ Below V.heap.size V w') ∧ Calls Try.prog 18 #[.slice A n c, .int .i64 k] V (fun e w' => e = .returned (.tuple #[.int .i64 0, .slice none 0 0, .int .i64 2]) ∧ Below V.heap.size V w') ∧ Calls Try.prog 19 #[.slice A n c, .int .i64 k] V (fun e w' => e = .returned (.tuple #[.int .i64 0, .slice none 0 0, .int .i64 2]) ∧ Below V.heap.size V w') := by
  have hx : ∀ P : Prop, reqB zs 200 15 = true → placesB k = true → P := fun P a b => by
    rcases hb with e | e
    · rw [a] at e; cases e
    · rw [b] at e; cases e
  refine ⟨(recent_any k zs A n c V h).mono ?_, (first_any k zs A n c V h).mono ?_, (best_any k zs A n c V h).mono ?_⟩
  all_goals
    rintro e w' ⟨⟨a, b, _⟩ | ⟨_, h1⟩, h2⟩
    · exact hx _ a b
    · exact ⟨h1, h2⟩
theorem serves_ref (st : Nat) (hst : st ≤ 2) (h1 : reqB zs 200 15 = true) (h2 : placesB k = true) : Calls Try.prog 22 #[.slice A n c, .int .i64 k, .int .i64 (st : Int)] V fun e w' => (∃ A' c', e = .returned (.tuple #[.int .i64 (svC st k zs n), .slice A' n c']) ∧ Sl w' A' n c' (svP st k zs n)) ∧ Below V.heap.size V w' := by
  obtain ⟨hn, hz⟩ := reqB_parts h1
  have hl := h.len
  have hk : 1 ≤ k := by unfold placesB at h2; rw [Bool.and_eq_true, decide_eq_true_iff] at h2; exact h2.1
  refine (serveR_any st k zs A n c V h hst hk (by omega)).mono ?_
  rintro e w' ⟨⟨v, rfl, ho⟩, hb⟩
  obtain ⟨A', c', rfl, hs⟩ := ho.sl_of (svP_len _ _ _ _) (by omega)
  exact ⟨⟨A', c', rfl, hs⟩, hb⟩
theorem serves_plan (B : Option Addr) (d : Nat) (h1 : reqB zs 200 15 = true) (h2 : placesB k = true) (h3 : Sl V B n d (rP (rkBest zs) k zs n)) : Calls Try.prog 23 #[.slice A n c, .int .i64 k, .slice B n d] V fun e w' => e = .returned (.tuple #[.int .i64 (svC 2 k zs n), .bool true]) ∧ Below V.heap.size V w' := by
  obtain ⟨hn, hz⟩ := reqB_parts h1
  have hl := h.len
  have hk : 1 ≤ k := by unfold placesB at h2; rw [Bool.and_eq_true, decide_eq_true_iff] at h2; exact h2.1
  have s1 := (best_run hk hz zs.length (Nat.le_refl _)).2
  have s2 := plan_ok (rkBest zs) hk hz
  rw [s1, hl] at s2
  have := faultsR_any k zs (rP (rkBest zs) k zs n) A B n c n d V h h3 (by omega)
  rw [s2] at this
  exact this
end
set_option maxRecDepth 100000 in
set_option maxHeartbeats 12800000 in
theorem serves_walk (A : Option Addr) (n0 c0 : Nat) (xs0 : List Int) (k : Int) (w : World) (hx : Sl w A n0 c0 xs0) :
    Calls Try.prog 3 #[.slice A n0 c0, .int .i64 k] w fun e w' => e = .returned (.bool true) ∧ Below w.heap.size w w' := by
  have HX := Lib.hid (list_sl A n0 c0 xs0 w hx)
  generalize xs0.take 201 = xs at HX
  clear hx
  go_enter Try.func3, Try.ntmps3
  go_upto_region 2 with (go_at_call 16; (with_reducible refine HX.out.mono ?_); rintro e w1 ⟨⟨A1, n, c1, rfl, hn, hs⟩, hb⟩; have HBw1 := Lib.hid hb; have SL := Lib.hid hs; clear hs hb)
  have HRQ := Lib.hid (fun V (hV : Sl V A1 n c1 xs) => requests_any xs 200 15 A1 n c1 V hV)
  have hcase : (reqB xs 200 15 = false) ∨ (reqB xs 200 15 = true ∧ k < 1) ∨ (reqB xs 200 15 = true ∧ (¬ k < 1) ∧ k > 8) ∨ (reqB xs 200 15 = true ∧ (¬ k < 1) ∧ (¬ k > 8) ∧ placesB k = true) := by
    cases h1 : reqB xs 200 15
    · exact .inl rfl
    · by_cases h2 : k < 1
      · exact .inr (.inl ⟨rfl, h2⟩)
      · by_cases h3 : k > 8
        · exact .inr (.inr (.inl ⟨rfl, h2, h3⟩))
        · exact .inr (.inr (.inr ⟨rfl, h2, h3, by unfold placesB; rw [decide_eq_true (by omega), decide_eq_true (by omega)]; rfl⟩))
  have hbadk : k < 1 ∨ k > 8 → placesB k = false := fun e => by
    unfold placesB
    rw [Bool.and_eq_false_iff, decide_eq_false_iff_not, decide_eq_false_iff_not]
    omega
  have HBK := Lib.hid hbadk
  clear hbadk HX
  by_cases hgood : reqB xs 200 15 = true ∧ placesB k = true
  · obtain ⟨h1, h2⟩ := hgood
    have hk : (¬ k < 1) ∧ ¬ k > 8 := by unfold placesB at h2; rw [Bool.and_eq_true, decide_eq_true_iff, decide_eq_true_iff] at h2; omega
    have hk1 := hk.1
    have hk2 := hk.2
    have HRE := Lib.hid (fun V (hV : Sl V A1 n c1 xs) => serves_recent k xs A1 n c1 V hV h1 h2)
    have HFI := Lib.hid (fun V (hV : Sl V A1 n c1 xs) => serves_first k xs A1 n c1 V hV h1 h2)
    have HBE := Lib.hid (fun V (hV : Sl V A1 n c1 xs) => serves_best k xs A1 n c1 V hV h1 h2)
    have HS0 := Lib.hid (fun V (hV : Sl V A1 n c1 xs) => serves_ref k xs A1 n c1 V hV 0 (by omega) h1 h2)
    have HS1 := Lib.hid (fun V (hV : Sl V A1 n c1 xs) => serves_ref k xs A1 n c1 V hV 1 (by omega) h1 h2)
    have HS2 := Lib.hid (fun V (hV : Sl V A1 n c1 xs) => serves_ref k xs A1 n c1 V hV 2 (by omega) h1 h2)
    have HFA := Lib.hid (fun V B d (hV : Sl V A1 n c1 xs) (h3 : Sl V B n d (rP (rkBest xs) k xs n)) => serves_plan k xs A1 n c1 V hV B d h1 h2 h3)
    rw [show ((0 : Nat) : Int) = 0 from rfl] at HS0
    rw [show ((1 : Nat) : Int) = 1 from rfl] at HS1
    rw [show ((2 : Nat) : Int) = 2 from rfl] at HS2
    rw [h1] at HRQ
    clear hcase hk h1 h2 HBK
    generalize svC 0 k xs n = C0 at *
    generalize svC 1 k xs n = C1 at *
    generalize svC 2 k xs n = C2 at *
    go_wp2_with (first
      | (go_at_call 17; (with_reducible refine (HRE.out _ SL.out).mono ?_); rintro e w2 ⟨⟨A2, c2, rfl, hs⟩, hb⟩; have SL := Lib.hid (SL.out.below hb (Nat.le_refl _)); have SP := Lib.hid hs; have HBw2 := Lib.hid (HBw1.out.trans (hb.mono HBw1.out.size)); clear hb hs)
      | (go_at_call 18; (with_reducible refine (HFI.out _ SL.out).mono ?_); rintro e w3 ⟨⟨A3, c3, rfl, hs⟩, hb⟩; have SL := Lib.hid (SL.out.below hb (Nat.le_refl _)); have SP := Lib.hid (SP.out.below hb (Nat.le_refl _)); have SQ := Lib.hid hs; have HBw3 := Lib.hid (HBw2.out.trans (hb.mono HBw2.out.size)); clear hb hs)
      | (go_at_call 19; (with_reducible refine (HBE.out _ SL.out).mono ?_); rintro e w4 ⟨⟨A4, c4, rfl, hs⟩, hb⟩; have SL := Lib.hid (SL.out.below hb (Nat.le_refl _)); have SP := Lib.hid (SP.out.below hb (Nat.le_refl _)); have SQ := Lib.hid (SQ.out.below hb (Nat.le_refl _)); have SS := Lib.hid hs; have HBw4 := Lib.hid (HBw3.out.trans (hb.mono HBw3.out.size)); clear hb hs)
      | (go_at_call 20; (with_reducible refine (HRQ.out _ SL.out).mono ?_); rintro e v1 ⟨rfl, rfl⟩)
      | (go_at_call 22; (with_reducible refine (HS0.out _ SL.out).mono ?_); rintro e w5 ⟨⟨A5, c5, rfl, hs⟩, hb⟩; have SL := Lib.hid (SL.out.below hb (Nat.le_refl _)); have SP := Lib.hid (SP.out.below hb (Nat.le_refl _)); have SQ := Lib.hid (SQ.out.below hb (Nat.le_refl _)); have SS := Lib.hid (SS.out.below hb (Nat.le_refl _)); have SY := Lib.hid hs; have HBw5 := Lib.hid (HBw4.out.trans (hb.mono HBw4.out.size)); clear hb hs)
      | (go_at_call 22; (with_reducible refine (HS1.out _ SL.out).mono ?_); rintro e w6 ⟨⟨A6, c6, rfl, hs⟩, hb⟩; have SL := Lib.hid (SL.out.below hb (Nat.le_refl _)); have SP := Lib.hid (SP.out.below hb (Nat.le_refl _)); have SQ := Lib.hid (SQ.out.below hb (Nat.le_refl _)); have SS := Lib.hid (SS.out.below hb (Nat.le_refl _)); have SY := Lib.hid (SY.out.below hb (Nat.le_refl _)); have SW := Lib.hid hs; have HBw6 := Lib.hid (HBw5.out.trans (hb.mono HBw5.out.size)); clear hb hs)
      | (go_at_call 22; (with_reducible refine (HS2.out _ SL.out).mono ?_); rintro e w7 ⟨⟨A7, c7, rfl, hs⟩, hb⟩; have SL := Lib.hid (SL.out.below hb (Nat.le_refl _)); have SP := Lib.hid (SP.out.below hb (Nat.le_refl _)); have SQ := Lib.hid (SQ.out.below hb (Nat.le_refl _)); have SS := Lib.hid (SS.out.below hb (Nat.le_refl _)); have SY := Lib.hid (SY.out.below hb (Nat.le_refl _)); have SW := Lib.hid (SW.out.below hb (Nat.le_refl _));  have HBw7 := Lib.hid (HBw6.out.trans (hb.mono HBw6.out.size)); clear hb hs)
      | (go_at_call 23; (with_reducible refine (HFA.out _ _ _ SL.out SS.out).mono ?_); rintro e w8 ⟨rfl, hb⟩; have SL := Lib.hid (SL.out.below hb (Nat.le_refl _)); have SP := Lib.hid (SP.out.below hb (Nat.le_refl _)); have SQ := Lib.hid (SQ.out.below hb (Nat.le_refl _)); have SS := Lib.hid (SS.out.below hb (Nat.le_refl _)); have SY := Lib.hid (SY.out.below hb (Nat.le_refl _)); have SW := Lib.hid (SW.out.below hb (Nat.le_refl _));  have HBw8 := Lib.hid (HBw7.out.trans (hb.mono HBw7.out.size)); clear hb )
      | (go_at_call 24; (with_reducible refine (ints_same _ _ _ n _ _ _ (svP_len _ _ _ _) (by omega) SP.out.rd SY.out.rd).mono ?_); rintro e w9 ⟨rfl, hd⟩; have hb := hd.below w8.heap.size; have SQ := Lib.hid (SQ.out.below hb (Nat.le_refl _)); have SW := Lib.hid (SW.out.below hb (Nat.le_refl _)); have HBw9 := Lib.hid (HBw8.out.trans (hd.below _)); clear hb hd)
      | (go_at_call 24; (with_reducible refine (ints_same _ _ _ n _ _ _ (svP_len _ _ _ _) (by omega) SQ.out.rd SW.out.rd).mono ?_); rintro e w10 ⟨rfl, hd⟩; have HBw10 := Lib.hid (HBw9.out.trans (hd.below _)); clear hd)
      | (go_at_call 21; (with_reducible refine (awake_here _).mono ?_); rintro e w11 ⟨rfl, hb11⟩))
    go_ret
    exact ⟨rfl, HBw10.out.trans (hb11.mono HBw10.out.size)⟩
  · have hbad : reqB xs 200 15 = false ∨ placesB k = false := by
      cases e1 : reqB xs 200 15
      · exact .inl rfl
      · cases e2 : placesB k
        · exact .inr rfl
        · exact absurd ⟨e1, e2⟩ hgood
    have HRE := Lib.hid (fun V (hV : Sl V A1 n c1 xs) => (serves_bad k xs A1 n c1 V hV hbad).1)
    have HFI := Lib.hid (fun V (hV : Sl V A1 n c1 xs) => (serves_bad k xs A1 n c1 V hV hbad).2.1)
    have HBE := Lib.hid (fun V (hV : Sl V A1 n c1 xs) => (serves_bad k xs A1 n c1 V hV hbad).2.2)
    have hc3 : (reqB xs 200 15 = false) ∨ (reqB xs 200 15 = true ∧ k < 1) ∨ (reqB xs 200 15 = true ∧ (¬ k < 1) ∧ k > 8) := by
      rcases hcase with h | h | h | ⟨a, _, _, b⟩
      · exact .inl h
      · exact .inr (.inl h)
      · exact .inr (.inr h)
      · exact absurd ⟨a, b⟩ hgood
    clear hcase hgood hbad HBK
    rcases hc3 with h1 | ⟨h1, h2⟩ | ⟨h1, h2, h3⟩
    all_goals
      rw [h1] at HRQ
      clear h1
      go_wp2_with (first
        | (go_at_call 17; (with_reducible refine (HRE.out _ SL.out).mono ?_); rintro e w2 ⟨rfl, hb⟩; have SL := Lib.hid (SL.out.below hb (Nat.le_refl _)); have HBw2 := Lib.hid (HBw1.out.trans (hb.mono HBw1.out.size)); clear hb)
        | (go_at_call 18; (with_reducible refine (HFI.out _ SL.out).mono ?_); rintro e w3 ⟨rfl, hb⟩; have SL := Lib.hid (SL.out.below hb (Nat.le_refl _)); have HBw3 := Lib.hid (HBw2.out.trans (hb.mono HBw2.out.size)); clear hb)
        | (go_at_call 19; (with_reducible refine (HBE.out _ SL.out).mono ?_); rintro e w4 ⟨rfl, hb⟩; have SL := Lib.hid (SL.out.below hb (Nat.le_refl _)); have HBw4 := Lib.hid (HBw3.out.trans (hb.mono HBw3.out.size)); clear hb)
        | (go_at_call 20; (with_reducible refine (HRQ.out _ SL.out).mono ?_); rintro e v1 ⟨rfl, rfl⟩)
        | (go_at_call 21; (with_reducible refine (awake_here _).mono ?_); rintro e w11 ⟨rfl, hb11⟩))
      go_ret
      exact ⟨rfl, HBw4.out.trans (hb11.mono HBw4.out.size)⟩
end Go.Proofs.Ytcnjkdkkflpgnaa
