import Derived.Test.YtkemcmeagnggeaaT19
import Derived.Test.YtkemcmeagnggeaaT18
import Derived.Deep.RegionHeldLaw
/- Layer 3: the walk of ThreadCongruent. -/
namespace Go.Proofs.Ytkemcmeagnggeaa
open Go.RowKit
set_option linter.unusedVariables false

theorem same_first (x y : ByteArray) (n : Int) (hx : wordB (bs x) = true) (hy : wordB (bs y) = true) (hn : 0 ≤ n) (W : World) :
    Calls Try.prog 37 #[.string x, .string y, .int .i64 n] W fun e w' => (∃ r, IsFirst 4 (DifP (bs x) (bs y)) r ∧ e = .returned (.tuple #[.bool (farB r n), .int .i64 0])) ∧ Below W.heap.size W w' := sameP_any x y n W hx hy hn
theorem same_known (x y : ByteArray) (n : Int) {r : Option (List Int)} (hr : IsFirst 4 (DifP (bs x) (bs y)) r) (hx : wordB (bs x) = true) (hy : wordB (bs y) = true) (hn : 0 ≤ n) (W : World) :
    Calls Try.prog 37 #[.string x, .string y, .int .i64 n] W fun e w' => e = .returned (.tuple #[.bool (farB r n), .int .i64 0]) ∧ Below W.heap.size W w' := by
  refine (same_first x y n hx hy hn W).mono ?_
  rintro e w' ⟨⟨r', h, rfl⟩, hb⟩
  rw [IsFirst.uniq h hr]
  exact ⟨rfl, hb⟩
theorem same_self (x : ByteArray) (n : Int) (hx : wordB (bs x) = true) (hn : 0 ≤ n) (W : World) :
    Calls Try.prog 37 #[.string x, .string x, .int .i64 n] W fun e w' => e = .returned (.tuple #[.bool true, .int .i64 0]) ∧ Below W.heap.size W w' := by
  refine (same_first x x n hx hx hn W).mono ?_
  rintro e w' ⟨⟨r', h, rfl⟩, hb⟩
  rw [first_same h]
  exact ⟨rfl, hb⟩
theorem differ_self (x : ByteArray) (hx : wordB (bs x) = true) (W : World) :
    Calls Try.prog 36 #[.string x, .string x] W fun e w' => e = .returned (.tuple #[.string ByteArray.empty, .int .i64 6]) ∧ Below W.heap.size W w' := by
  refine (differP_any x x W hx hx).mono ?_
  rintro e w' ⟨⟨o, _, h⟩ | ⟨h, _⟩, hb⟩
  · cases first_same h
  · exact ⟨h, hb⟩
theorem differ_known (x y : ByteArray) {z : List Int} (hr : IsFirst 4 (DifP (bs x) (bs y)) (some z)) (hx : wordB (bs x) = true) (hy : wordB (bs y) = true) (W : World) :
    Calls Try.prog 36 #[.string x, .string y] W fun e w' => ∃ o : ByteArray, bs o = z ∧ e = .returned (.tuple #[.string o, .int .i64 0]) ∧ Below W.heap.size W w' := by
  refine (differP_any x y W hx hy).mono ?_
  rintro e w' ⟨⟨o, he, h⟩ | ⟨_, h⟩, hb⟩
  · exact ⟨o, Option.some.inj (IsFirst.uniq h hr), he, hb⟩
  · cases IsFirst.uniq h hr
theorem within_known (o x : ByteArray) (b : Bool) (hb : subB (bs o) (bs x) = b) (ho : wordB (bs o) = true) (hx : wordB (bs x) = true) (W : World) :
    Calls Try.prog 18 #[.string o, .string x] W fun e w' => ∃ v, e = .returned (.tuple #[v, .int .i64 (okE b)]) ∧ Below W.heap.size W w' := by
  refine (withinP_any o x W ho hx).mono ?_
  rintro e w' ⟨v, he, _, hbl⟩
  exact ⟨v, by rw [he]; unfold subB at hb; rw [hb], hbl⟩
theorem word_around {a u b : ByteArray} (ha : isW 4 (bs a)) (hu : isW 4 (bs u)) (hb : isW 4 (bs b)) (h1 : a.size ≤ 20) (h2 : u.size ≤ 20) (h3 : b.size ≤ 20) : wordB (bs (a ++ u ++ b)) = true := by
  rw [bs_append, bs_append]
  refine isW_word (fun z hz => ?_) ?_
  · rcases List.mem_append.1 hz with hz | hz
    · rcases List.mem_append.1 hz with hz | hz
      · exact ha z hz
      · exact hu z hz
    · exact hb z hz
  · simp only [List.length_append, bs_len]; omega
theorem bs_neq {x y : ByteArray} (h : x ≠ y) : bs x ≠ bs y := fun e => h (bs_inj e)

theorem same_about {a u x b : ByteArray} {n : Int} {r : Option (List Int)} (hr : IsFirst 4 (DifP (bs u) (bs x)) r) (hf : farB r n = true) (h1 : wordB (bs (a ++ u ++ b)) = true) (h2 : wordB (bs (a ++ x ++ b)) = true) (hn : 0 ≤ n) (W : World) :
    Calls Try.prog 37 #[.string (a ++ u ++ b), .string (a ++ x ++ b), .int .i64 n] W fun e w' => e = .returned (.tuple #[.bool true, .int .i64 0]) ∧ Below W.heap.size W w' := by
  refine (same_first _ _ n h1 h2 hn W).mono ?_
  rintro e w' ⟨⟨r', h, rfl⟩, hb⟩
  rw [bs_append, bs_append, bs_append, bs_append] at h
  rw [same_around hr h hf]
  exact ⟨rfl, hb⟩
theorem same_some (x y : ByteArray) (n : Int) (hx : wordB (bs x) = true) (hy : wordB (bs y) = true) (hn : 0 ≤ n) (W : World) :
    Calls Try.prog 37 #[.string x, .string y, .int .i64 n] W fun e w' => (∃ b : Bool, e = .returned (.tuple #[.bool b, .int .i64 0])) ∧ Below W.heap.size W w' := by
  refine (same_first x y n hx hy hn W).mono ?_
  rintro e w' ⟨⟨r', h, rfl⟩, hb⟩
  exact ⟨⟨_, rfl⟩, hb⟩
set_option maxRecDepth 100000 in
set_option maxHeartbeats 4000000 in
theorem congruent_walk (s0 s1 s2 s3 : ByteArray) (a1 : Int) (z0 : s0.size ≤ maxLen) (z1 : s1.size ≤ maxLen) (z2 : s2.size ≤ maxLen) (z3 : s3.size ≤ maxLen) (w : World) :
    Calls Try.prog 14 #[.agg #[.string s0, .string s1, .string s2, .string s3], .int .i64 a1] w fun e w' => e = .returned (.bool true) ∧ Below w.heap.size w w' := by
  have tm : ∀ s : ByteArray, s.size ≤ maxLen → ∃ x : ByteArray, isW 4 (bs x) ∧ x.size ≤ 20 ∧ ∀ W, Calls Try.prog 46 #[.string s, .int .i64 20, .int .i64 3] W fun e w' => e = .returned (.string x) ∧ Below W.heap.size W w' := fun s hs =>
    ⟨tmB s 20 3, isW_mono (tmB_isW s 20 3 (by omega) (by omega)) (by omega), tmB_size s 20 3, fun W => tame_max s 20 3 W (by unfold maxLen at hs; omega) (by omega) (by omega) (by omega)⟩
  obtain ⟨u, hu, hu20, hT0⟩ := tm s0 z0
  obtain ⟨x, hx, hx20, hT1⟩ := tm s1 z1
  obtain ⟨a, ha, ha20, hT2⟩ := tm s2 z2
  obtain ⟨b, hb, hb20, hT3⟩ := tm s3 z3
  have HT0 := Lib.hid hT0; have HT1 := Lib.hid hT1; have HT2 := Lib.hid hT2; have HT3 := Lib.hid hT3
  clear hT0 hT1 hT2 hT3 tm
  have HMO := Lib.hid (fun W => mod_max a1 6 W (by omega) (by omega))
  obtain ⟨ob, hob⟩ : ∃ ob : Obj, ob = .cells #[.string s0, .string s1, .string s2, .string s3] 67 := ⟨_, rfl⟩
  have HS : Hid (∀ W, Kp (w.alloc ob) W → W.cell? ⟨w.heap.size, 0, none⟩ = some (.string s0) ∧ W.cell? ⟨w.heap.size, 1, none⟩ = some (.string s1) ∧ W.cell? ⟨w.heap.size, 2, none⟩ = some (.string s2) ∧ W.cell? ⟨w.heap.size, 3, none⟩ = some (.string s3)) := fun W hk => by
    have e : W.heap[w.heap.size]? = some ob := (hk.block w.heap.size (by show _ < (w.heap.push ob).size; simp)).trans (heap_alloc_new w ob)
    subst hob
    refine ⟨?_, ?_, ?_, ?_⟩ <;> simp [World.cell?, e]
  have HK0 : Hid (Kp (w.alloc ob) (w.alloc ob).drew) := Kp.drew (Below.refl _ _)
  subst hob
  go_enter Try.func14, Try.ntmps14
  go_wp2
  go_region_held_law (fun W => W.cell? ⟨w.heap.size, 0, none⟩ = some (.string s0) ∧ W.cell? ⟨w.heap.size, 1, none⟩ = some (.string s1) ∧ W.cell? ⟨w.heap.size, 2, none⟩ = some (.string s2) ∧ W.cell? ⟨w.heap.size, 3, none⟩ = some (.string s3))
    (first | assumption | exact HS.out _ HK0.out | exact HS.out _ HK1.out | exact HS.out _ HK2.out | exact HS.out _ HK3.out | exact HS.out _ HK4.out)
    (first
      | (go_at_call 46; (with_reducible refine (HT0.out _).mono ?_); rintro e w1 ⟨rfl, hb1⟩; have HK1 := Lib.hid (HK0.out.call hb1); clear hb1)
      | (go_at_call 46; (with_reducible refine (HT1.out _).mono ?_); rintro e w2 ⟨rfl, hb2⟩; have HK2 := Lib.hid (HK1.out.call hb2); clear hb2)
      | (go_at_call 46; (with_reducible refine (HT2.out _).mono ?_); rintro e w3 ⟨rfl, hb3⟩; have HK3 := Lib.hid (HK2.out.call hb3); clear hb3)
      | (go_at_call 46; (with_reducible refine (HT3.out _).mono ?_); rintro e w4 ⟨rfl, hb4⟩; have HK4 := Lib.hid (HK3.out.call hb4); clear hb4))
  clear HT0 HT1 HT2 HT3 HS z0 z1 z2 z3
  have k4 : Kp w w4 := (Kp.fresh w _).trans (HK4.out.mono (Nat.le_of_lt (by show _ < (w.heap.push _).size; simp)))
  clear HK0 HK1 HK2 HK3 HK4
  go_wp2_with (go_at_call 47; fail)
  refine (HMO.out _).mono ?_
  rintro e w5 ⟨⟨n, rfl, hn6⟩, rfl⟩
  have hwu : wordB (bs u) = true := isW_word hu (by rw [bs_len]; omega)
  have hwx : wordB (bs x) = true := isW_word hx (by rw [bs_len]; omega)
  have hau := word_around ha hu hb ha20 hu20 hb20
  have hax := word_around ha hx hb ha20 hx20 hb20
  have hz1 : a.size + u.size ≤ 9223372036854775807 := by omega
  have hz2 : a.size + x.size ≤ 9223372036854775807 := by omega
  have hz3 : (a ++ u).size + b.size ≤ 9223372036854775807 := by rw [ByteArray.size_append]; omega
  have hz4 : (a ++ x).size + b.size ≤ 9223372036854775807 := by rw [ByteArray.size_append]; omega
  have HAW := Lib.hid (fun W => awake_here W)
  by_cases hux : u = x
  · subst hux
    have HS1 := Lib.hid (fun W => same_self u (n : Int) hwu (by omega) W)
    have HS2 := Lib.hid (fun W => same_self (a ++ u ++ b) (n : Int) hau (by omega) W)
    have HD := Lib.hid (fun W => differ_self u hwu W)
    clear hwu hwx hau hax hu hx ha hb HMO
    go_wp2_with (first | (go_at_call 37; (with_reducible refine (HS1.out _).mono ?_); rintro e w6 ⟨rfl, hb6⟩; clear HS1) | (go_at_call 37; (with_reducible refine (HS2.out _).mono ?_); rintro e w7 ⟨rfl, hb7⟩; clear HS2) | (go_at_call 36; (with_reducible refine (HD.out _).mono ?_); rintro e w8 ⟨rfl, hb8⟩) | (go_at_call 21; refine (HAW.out _).mono ?_; rintro e w9 ⟨rfl, hb9⟩))
    go_ret
    exact ⟨rfl, (((k4.call hb6).call hb7).call hb8).call hb9⟩
  · have HSF := Lib.hid (fun W => same_first u x (n : Int) hwu hwx (by omega) W)
    have g0 : (u.toList == x.toList) = false := (str_eq u x).trans (decide_eq_false hux)
    go_wp2_with (go_at_call 37; fail)
    refine (HSF.out _).mono ?_
    clear HSF
    rintro e w6 ⟨⟨r, hr, rfl⟩, hb6⟩
    obtain ⟨y, rfl, hdy, hy1, hy2⟩ := first_differ hu hx (bs_neq hux) hr
    have hyW : isW 4 y := hr.1
    rw [bs_len] at hy1 hy2
    have hyw : wordB y = true := isW_word hyW (by omega)
    have HD := Lib.hid (fun W => differ_known u x hr hwu hwx W)
    have HK1 : Hid (∀ (k : Nat) W, k < y.length → Calls Try.prog 37 #[.string u, .string x, .int .i64 k] W fun e w' => e = .returned (.tuple #[.bool true, .int .i64 0]) ∧ Below W.heap.size W w') := fun k W hk => by
      have := same_known u x (k : Int) hr hwu hwx (by omega) W
      rwa [show farB (some y) (k : Int) = true from decide_eq_true (by omega)] at this
    have HK2 : Hid (∀ (k : Nat) W, k = y.length → Calls Try.prog 37 #[.string u, .string x, .int .i64 k] W fun e w' => e = .returned (.tuple #[.bool false, .int .i64 0]) ∧ Below W.heap.size W w') := fun k W hk => by
      have := same_known u x (k : Int) hr hwu hwx (by omega) W
      rwa [show farB (some y) (k : Int) = false from decide_eq_false (by omega)] at this
    have HWU : Hid (∀ (o : ByteArray) W, bs o = y → Calls Try.prog 18 #[.string o, .string u] W fun e w' => ∃ v, e = .returned (.tuple #[v, .int .i64 (okE (subB y (bs u)))]) ∧ Below W.heap.size W w') := fun o W ho => by
      subst ho; exact within_known o u _ rfl hyw hwu W
    have HWX : Hid (∀ (o : ByteArray) W, bs o = y → Calls Try.prog 18 #[.string o, .string x] W fun e w' => ∃ v, e = .returned (.tuple #[v, .int .i64 (okE (subB y (bs x)))]) ∧ Below W.heap.size W w') := fun o W ho => by
      subst ho; exact within_known o x _ rfl hyw hwx W
    have HSB := Lib.hid (fun W => same_some (a ++ u ++ b) (a ++ x ++ b) (n : Int) hau hax (by omega) W)
    have HSA : Hid (farB (some y) (n : Int) = true → ∀ W, Calls Try.prog 37 #[.string (a ++ u ++ b), .string (a ++ x ++ b), .int .i64 n] W fun e w' => e = .returned (.tuple #[.bool true, .int .i64 0]) ∧ Below W.heap.size W w') := fun hf W => same_about hr hf hau hax (by omega) W
    have HYL : Hid (∀ o : ByteArray, bs o = y → o.size = y.length) := fun o ho => by rw [← bs_len, ho]
    have hp : subB y (bs x) = !subB y (bs u) := by
      have : subB y (bs u) ≠ subB y (bs x) := hdy
      cases h1 : subB y (bs u) <;> cases h2 : subB y (bs x) <;> simp_all
    rw [hp] at HWX
    generalize subB y (bs u) = p at *
    clear hp hyW hyw hdy hr hwu hwx hau hax hux hu hx ha hb HMO
    obtain ⟨is, his⟩ : ∃ is, is = farB (some y) (n : Int) := ⟨_, rfl⟩
    rw [← his] at HSA ⊢
    clear his
    have hcc : (okE p = 0 ∧ okE (!p) = 6) ∨ (okE p = 6 ∧ okE (!p) = 0) := by cases p <;> simp [okE]
    by_cases hmin : u.size ≤ x.size
    all_goals rcases hcc with ⟨c1, c2⟩ | ⟨c1, c2⟩
    all_goals (rw [c1] at HWU; rw [c2] at HWX; clear c1 c2)
    all_goals cases is
    all_goals first | (have HSC := Lib.hid (HSA.out rfl); clear HSA HSB) | clear HSA
    all_goals
      (go_wp2_with (first | (go_at_call 37; (with_reducible refine (HSC.out _).mono ?_); rintro e w7 ⟨rfl, hb7⟩; clear HSC) | (go_at_call 37; (with_reducible refine (HSB.out _).mono ?_); rintro e w7 ⟨⟨bo, rfl⟩, hb7⟩; clear HSB) | (go_at_call 36; (with_reducible refine (HD.out _).mono ?_); rintro e w8 ⟨o, ho, rfl, hb8⟩; have HO := Lib.hid ho; have hol := HYL.out o ho; clear ho) | (go_at_call 18; (with_reducible refine (HWU.out _ _ HO.out).mono ?_); rintro e w9 ⟨v9, rfl, hb9⟩; clear HWU) | (go_at_call 18; (with_reducible refine (HWX.out _ _ HO.out).mono ?_); rintro e w10 ⟨v10, rfl, hb10⟩; clear HWX)))
    all_goals have k10 : Kp w w10 := ((((k4.call hb6).call hb7).call hb8).call hb9).call hb10
    all_goals clear hb6 hb7 hb8 hb9 hb10 HD HYL k4 HO hz1 hz2 hz3 hz4
    all_goals
      go_loopw [19, 20, 21] (fun m _ _ w' => ∃ k : Nat, k ≤ o.size + 1 ∧ m = .int .i64 (k : Int) ∧ Below w10.heap.size w10 w') (fun m _ _ _ => o.size + 1 - (intOf m).toNat)
      case atStart => exact ⟨0, by omega, by go_num, Below.refl _ _⟩
      case round =>
        obtain ⟨k, hk, rfl, hD⟩ := hrel
        by_cases hlt : k ≤ o.size
        · by_cases hlt2 : k < o.size
          · have HQ := Lib.hid (fun W => HK1.out k W (by omega))
            have g1 : decide (k < y.length) = true := decide_eq_true (by omega)
            go_wp2_with (go_at_call 37; (with_reducible refine (HQ.out _).mono ?_); rintro e w11 ⟨rfl, hb11⟩)
            exact ⟨⟨k + 1, by omega, by go_num, hD.trans (hb11.mono hD.size)⟩, by simp [intOf]; omega⟩
          · have HQ := Lib.hid (fun W => HK2.out k W (by omega))
            have g1 : decide (k < y.length) = false := decide_eq_false (by omega)
            go_wp2_with (go_at_call 37; (with_reducible refine (HQ.out _).mono ?_); rintro e w11 ⟨rfl, hb11⟩)
            exact ⟨⟨k + 1, by omega, by go_num, hD.trans (hb11.mono hD.size)⟩, by simp [intOf]; omega⟩
        · go_wp2_with (go_at_call 21; refine (HAW.out _).mono ?_; rintro e w12 ⟨rfl, hb12⟩)
          go_ret
          exact ⟨rfl, (k10.call hD).call hb12⟩
end Go.Proofs.Ytkemcmeagnggeaa
