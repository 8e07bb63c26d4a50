import Derived.Test.YtfeohcknopdamaaT01
/- Layer 10: isBetween, isPosition, direction with its closure, inserted, behind, allSets, down. -/
namespace Go.Proofs.Ytfeohcknopdamaa
open Go.RowKit
set_option linter.unusedVariables false

theorem isBetween_any (x lo hi : Int) (w : World) : Calls Try.prog 55 #[.int .i64 x, .int .i64 lo, .int .i64 hi] w fun e w' => e = .returned (.bool (decide (lo ≤ x) && decide (x ≤ hi))) ∧ w = w' := by
  by_cases h0 : lo ≤ x
  · have d0 : decide (lo ≤ x) = true := decide_eq_true h0
    rw [d0, Bool.true_and]
    clear h0
    go_enter Try.func55, Try.ntmps55
    go_wp2
    go_ret
    exact ⟨rfl, rfl⟩
  · have d0 : decide (lo ≤ x) = false := decide_eq_false h0
    rw [d0, Bool.false_and]
    clear h0
    go_enter Try.func55, Try.ntmps55
    go_wp2
    go_ret
    exact ⟨rfl, rfl⟩
theorem isPosition_any (x len : Int) (w : World) : Calls Try.prog 56 #[.int .i64 x, .int .i64 len] w fun e w' => e = .returned (.bool (decide (0 ≤ x) && decide (x < len))) ∧ w = w' := by
  by_cases h0 : 0 ≤ x
  · have d0 : decide (0 ≤ x) = true := decide_eq_true h0
    rw [d0, Bool.true_and]
    clear h0
    go_enter Try.func56, Try.ntmps56
    go_wp2
    go_ret
    exact ⟨rfl, rfl⟩
  · have d0 : decide (0 ≤ x) = false := decide_eq_false h0
    rw [d0, Bool.false_and]
    clear h0
    go_enter Try.func56, Try.ntmps56
    go_wp2
    go_ret
    exact ⟨rfl, rfl⟩
/-- The closure of a direction, bound to two boxes. -/
def dirV (b : Nat) : Value := .func (.func 89) #[] #[.pointer (some ⟨b + 1, 0, none⟩), .pointer (some ⟨b, 0, none⟩)]
def dirW (w : World) (L : Int) (t : Bool) : World := (w.alloc (.cells #[.int .i64 L] 3)).alloc (.cells #[.bool t] 4)
theorem dirW_below (w : World) (L : Int) (t : Bool) : Below w.heap.size w (dirW w L t) := ((Below.refl _ w).alloc (Nat.le_refl _) _).alloc (by simp) _
theorem dirW_size (w : World) (L : Int) (t : Bool) : (dirW w L t).heap.size = w.heap.size + 2 := by unfold dirW; simp
theorem dirW_others (w : World) (L : Int) (t : Bool) : KeepsOthers w (dirW w L t) := (KeepsOthers.alloc _ _).trans (KeepsOthers.alloc _ _)
theorem direction_any (L : Int) (t : Bool) (w : World) : Calls Try.prog 77 #[.int .i64 L, .bool t] w fun e w' => e = .returned (dirV w.heap.size) ∧ w' = dirW w L t := by
  unfold dirW dirV
  go_enter Try.func77, Try.ntmps77
  go_wp2
  go_ret
  exact ⟨rfl, rfl⟩
/-- What a direction makes of a position. -/
def dirN (L : Nat) (t : Bool) (x : Nat) : Nat := if t = true then L - 1 - x else x
theorem dirW_cells (w : World) (L : Int) (t : Bool) : (dirW w L t).cell? ⟨w.heap.size, 0, none⟩ = some (.int .i64 L) ∧ (dirW w L t).cell? ⟨w.heap.size + 1, 0, none⟩ = some (.bool t) := by
  have hs : (dirW w L t).heap = (w.heap.push (.cells #[.int .i64 L] 3)).push (.cells #[.bool t] 4) := rfl
  have r0 : (dirW w L t).heap[w.heap.size]? = some (.cells #[.int .i64 L] 3 (0, 0)) := by
    rw [hs, Array.getElem?_push, if_neg (by simp), Array.getElem?_push, if_pos rfl]
  have r1 : (dirW w L t).heap[w.heap.size + 1]? = some (.cells #[.bool t] 4 (0, 0)) := by
    rw [hs, Array.getElem?_push, if_pos (by simp)]
  exact ⟨by simp [World.cell?, r0], by simp [World.cell?, r1]⟩
theorem dirc_any (L x b : Nat) (t : Bool) (W : World) (hL : L ≤ 9007199254740992) (hx : x < L) (h0 : W.cell? ⟨b, 0, none⟩ = some (.int .i64 (L : Int))) (h1 : W.cell? ⟨b + 1, 0, none⟩ = some (.bool t)) :
    Calls Try.prog 89 #[.int .i64 (x : Int), .pointer (some ⟨b + 1, 0, none⟩), .pointer (some ⟨b, 0, none⟩)] W fun e w' => e = .returned (.int .i64 (dirN L t x : Int)) ∧ W = w' := by
  unfold dirN
  cases t with
  | true =>
    rw [if_pos rfl, show ((L - 1 - x : Nat) : Int) = (L : Int) - 1 - (x : Int) by omega]
    have v1 : IntKind.i64.wrap ((L : Int) - 1) = (L : Int) - 1 := IntWalk.i64_in _ (by omega)
    have v2 : IntKind.i64.wrap ((L : Int) - 1 - (x : Int)) = (L : Int) - 1 - (x : Int) := IntWalk.i64_in _ (by omega)
    go_enter Try.func89, Try.ntmps89
    go_wp2
    go_ret
    exact ⟨rfl, rfl⟩
  | false =>
    rw [if_neg (by decide)]
    go_enter Try.func89, Try.ntmps89
    go_wp2
    go_ret
    exact ⟨rfl, rfl⟩
theorem inserted_any (x r : Nat) (w : World) (hx : x ≤ 1000) (hr : r ≤ 9007199254740992) : Calls Try.prog 80 #[.int .i64 (x : Int), .int .i64 (r : Int)] w fun e w' => e = .returned (dirV w.heap.size) ∧ w' = dirW w x (decide (r % 2 = 0)) := by
  have HD := Lib.hid (direction_any x (decide (r % 2 = 0)) w)
  have e1 : Hid (((r : Int) % 2 == 0) = decide (r % 2 = 0)) := by
    rw [Hid]
    by_cases h : r % 2 = 0
    · rw [decide_eq_true h, beq_iff_eq]; omega
    · rw [decide_eq_false h, beq_eq_false_iff_ne]; omega
  go_enter Try.func80, Try.ntmps80
  go_wp2_with (go_at_call 77; rw [e1.out]; refine HD.out.mono ?_; rintro e w1 ⟨rfl, rfl⟩)
  go_ret
  exact ⟨rfl, rfl⟩
theorem behind_any (x L : Nat) (w : World) (hx : x ≤ 1000) : Calls Try.prog 86 #[.int .i64 (x : Int), .int .i64 (L : Int)] w fun e w' => e = .returned (dirV w.heap.size) ∧ w' = dirW w L (decide (x % 2 = 1)) := by
  have HD := Lib.hid (direction_any L (decide (x % 2 = 1)) w)
  have e1 : Hid (((x : Int) % 2 == 1) = decide (x % 2 = 1)) := by
    rw [Hid]
    by_cases h : x % 2 = 1
    · rw [decide_eq_true h, beq_iff_eq]; omega
    · rw [decide_eq_false h, beq_eq_false_iff_ne]; omega
  go_enter Try.func86, Try.ntmps86
  go_wp2_with (go_at_call 77; rw [e1.out]; refine HD.out.mono ?_; rintro e w1 ⟨rfl, rfl⟩)
  go_ret
  exact ⟨rfl, rfl⟩
theorem down_any (N : Int) (w : World) : Calls Try.prog 76 #[.int .i64 N] w fun e w' => e = .returned (.func (.func 88) #[] #[.pointer (some ⟨w.heap.size, 0, none⟩)]) ∧ w' = w.alloc (.cells #[.int .i64 N] 3) := by
  go_enter Try.func76, Try.ntmps76
  go_wp2
  go_ret
  exact ⟨rfl, rfl⟩
/-- Powers of two, as the program makes them. -/
theorem shl_nat : ∀ n : Nat, n ≤ 40 → wrap64 ((2 : Int) ^ n) = ((2 ^ n : Nat) : Int) := by decide +kernel
theorem allSets_any (n : Nat) (s : Int) (w : World) (hn : n ≤ 40) : Calls Try.prog 57 #[.int .i64 (n : Int), .int .i64 s] w fun e w' => e = .returned (.int .i64 ((2 ^ n : Nat) : Int)) ∧ w = w' := by
  have HE := Lib.hid (shl_nat n hn)
  go_enter Try.func57, Try.ntmps57
  go_wp2
  go_ret
  exact ⟨by rw [← HE.out]; rfl, rfl⟩
end Go.Proofs.Ytfeohcknopdamaa
/- Layer 10: slices.Reverse of a slice that the call owns. -/
namespace Go.Proofs.Ytfeohcknopdamaa
open Go.RowKit
set_option linter.unusedVariables false

def atI (zs : List Int) (k : Nat) : Int := zs[k]?.getD 0
/-- The first i and the last i elements have changed places. -/
def revP (zs : List Int) (i : Nat) : List Int := (List.range zs.length).map fun j => if j < i ∨ zs.length - 1 - j < i then atI zs (zs.length - 1 - j) else atI zs j
theorem atI_get {zs : List Int} {j : Nat} (h : j < zs.length) : atI zs j = zs[j] := by unfold atI; rw [List.getElem?_eq_getElem h]; rfl
theorem atI_ext {xs ys : List Int} (hl : xs.length = ys.length) (h : ∀ j, j < xs.length → atI xs j = atI ys j) : xs = ys := by
  refine List.ext_getElem hl fun j h1 h2 => ?_
  have := h j h1
  rwa [atI_get h1, atI_get h2] at this
theorem revP_len (zs : List Int) (i : Nat) : (revP zs i).length = zs.length := by unfold revP; simp
theorem revP_at {zs : List Int} {i j : Nat} (h : j < zs.length) : atI (revP zs i) j = if j < i ∨ zs.length - 1 - j < i then atI zs (zs.length - 1 - j) else atI zs j := by
  unfold revP
  rw [atI_get (by simpa using h)]
  simp
theorem atI_set {zs : List Int} {i j : Nat} {x : Int} (h : j < zs.length) : atI (zs.set i x) j = if i = j then x else atI zs j := by
  rw [atI_get (by simpa using h), List.getElem_set, atI_get h]
theorem revP_0 (zs : List Int) : revP zs 0 = zs := atI_ext (revP_len _ _) fun j hj => by
  rw [revP_len] at hj
  rw [revP_at hj, if_neg (by omega)]
theorem revP_end {zs : List Int} {i : Nat} (h : zs.length ≤ 2 * i + 1) : revP zs i = zs.reverse := atI_ext (by rw [revP_len, List.length_reverse]) fun j hj => by
  rw [revP_len] at hj
  rw [revP_at hj, atI_get (zs := zs.reverse) (by simpa using hj), List.getElem_reverse, ← atI_get]
  split
  · rfl
  · rw [show zs.length - 1 - j = j by omega]
theorem revP_step {zs : List Int} {i : Nat} (h : i < zs.length - 1 - i) : ((revP zs i).set i (atI (revP zs i) (zs.length - 1 - i))).set (zs.length - 1 - i) (atI (revP zs i) i) = revP zs (i + 1) := by
  refine atI_ext (by rw [List.length_set, List.length_set, revP_len, revP_len]) fun j hj => ?_
  rw [List.length_set, List.length_set, revP_len] at hj
  rw [atI_set (by rw [List.length_set, revP_len]; exact hj), atI_set (by rw [revP_len]; exact hj), revP_at hj, revP_at (by omega : i < zs.length), revP_at (by omega : zs.length - 1 - i < zs.length), revP_at hj]
  by_cases e1 : zs.length - 1 - i = j
  · rw [if_pos e1, if_neg (by omega), if_pos (by omega), show zs.length - 1 - j = i by omega]
  · rw [if_neg e1]
    by_cases e2 : i = j
    · rw [if_pos e2, if_neg (by omega), if_pos (by omega), e2]
    · rw [if_neg e2]
      by_cases e3 : j < i ∨ zs.length - 1 - j < i
      · rw [if_pos e3, if_pos (by omega)]
      · rw [if_neg e3, if_neg (by omega)]
theorem grown_set {w W : World} {g : Nat} (h : w.grownBy W (some g)) (k : Nat) (v : Value) : w.grownBy (W.setCell ⟨g, k, none⟩ v) (some g) :=
  ⟨h.os, h.tape, h.output, Nat.le_trans h.size (KeepsWalks.setCell W _ v).size, fun b hb hne => (Below.heap_setCell _ _ _ b (fun e => hne (by rw [e]))).trans (h.block b hb hne)⟩
theorem grown_drew {w W : World} {r : Option Nat} (h : w.grownBy W r) : w.grownBy W.drew r := ⟨h.os, h.tape, h.output, h.size, h.block⟩
set_option maxRecDepth 100000 in
set_option maxHeartbeats 1600000 in
theorem reverse_any (zs : List Int) (v : Value) (B : Nat) (w : World) (h : Ow w B 3 v zs) (hn : zs.length ≤ 1000000) :
    Calls Try.prog 78 #[v] w fun e w' => e = .returned (.tuple #[]) ∧ Ow w' B 3 v zs.reverse ∧ w.grownBy w' v.ownBlock := by
  rcases Nat.eq_zero_or_pos zs.length with hz | hz
  · obtain rfl : zs = [] := List.eq_nil_of_length_eq_zero hz
    obtain ⟨A, c, rfl, hs⟩ := h.sl (by simp)
    have HO := Lib.hid h
    simp only [List.length_nil] at HO ⊢
    clear h hs hz hn
    go_enter Try.func78, Try.ntmps78
    go_wp2
    go_loopw [2, 3] (fun i j w' => i = .int .i64 0 ∧ j = .int .i64 (-1) ∧ w = w') (fun _ _ _ => 0)
    case atStart => exact ⟨rfl, rfl, rfl⟩
    case round =>
      obtain ⟨rfl, rfl, rfl⟩ := hrel
      go_wp2
      go_end0
      exact ⟨rfl, HO.out, World.grownBy.refl _ _⟩
  obtain ⟨g, cap, rfl, hcap, hgB, hgs, _⟩ := h.form hz
  obtain ⟨n, hnn⟩ : ∃ n, n = zs.length := ⟨_, rfl⟩
  have HNN := Lib.hid hnn
  rw [← hnn] at h hcap hn hz ⊢
  have HO : Hid (Ow w B 3 (.slice (some ⟨g, 0, none⟩) n cap) (revP zs 0)) := by rw [revP_0]; exact h
  clear h hnn
  have v0 : IntKind.i64.wrap ((n : Int) - 1) = (n : Int) - 1 := IntWalk.i64_in _ (by omega)
  go_enter Try.func78, Try.ntmps78
  go_wp2
  clear v0
  go_loopw [2, 3] (fun i j w' => ∃ k : Nat, 2 * k ≤ n ∧ i = .int .i64 (k : Int) ∧ j = .int .i64 ((n : Int) - 1 - (k : Int)) ∧ Hid (Ow w' B 3 (.slice (some ⟨g, 0, none⟩) n cap) (revP zs k)) ∧ Hid (w.grownBy w' (some g))) (fun i _ _ => n - (intOf i).toNat)
  case atStart => exact ⟨0, by omega, by go_num, by simp, HO.out, World.grownBy.refl _ _⟩
  case round =>
    obtain ⟨k, hk, rfl, rfl, HK, HG⟩ := hrel
    clear HO
    obtain ⟨wo, rfl⟩ : ∃ wo : World, wo = wr := ⟨_, rfl⟩
    by_cases hlt : k < n - 1 - k
    · obtain ⟨m, hm⟩ : ∃ m, m = n - 1 - k := ⟨_, rfl⟩
      rw [show (n : Int) - 1 - (k : Int) = (m : Int) by omega]
      have i1 : (k : Int) < (m : Int) := by omega
      have HLE : Hid ((revP zs k).length = n) := by rw [Hid, revP_len, HNN.out]
      have e1 := HK.out.cellAt HLE.out (k := k) (by omega)
      have e0 := HK.out.cellAt HLE.out (k := m) (by omega)
      have r1 := HK.out.free HLE.out k
      have r0 := HK.out.free HLE.out m
      have HST : Hid (((revP zs k).set k (atI (revP zs k) m)).set m (atI (revP zs k) k) = revP zs (k + 1)) := by
        have := revP_step (zs := zs) (i := k) (by rw [← HNN.out]; omega)
        rwa [← HNN.out, ← hm] at this
      rw [show (revP zs k)[k]?.getD 0 = atI (revP zs k) k from rfl] at e1
      rw [show (revP zs k)[m]?.getD 0 = atI (revP zs k) m from rfl] at e0
      have HM := Lib.hid hm
      clear hm
      generalize atI (revP zs k) k = x at e1 HST
      generalize atI (revP zs k) m = y at e0 HST
      have f5 : m < n := by have := HM.out; omega
      have f6 : k < n := by omega
      have f7 : (m : Int) < (n : Int) := by omega
      have f8 : (k : Int) < (n : Int) := by omega
      have f9 : k ≠ m := by omega
      have f10 : m ≠ k := by omega
      go_wp2
      go_region
      have HK3 : Hid (Ow ((wo.setCell ⟨g, k, none⟩ (.int .i64 y)).setCell ⟨g, m, none⟩ (.int .i64 x)).drew B 3 (.slice (some ⟨g, 0, none⟩) n cap) (revP zs (k + 1))) := by
        rw [Hid, ← HST.out]
        exact (HK.out.put HLE.out k y).put (by rw [List.length_set]; exact HLE.out) m x
      have HG3 : Hid (w.grownBy ((wo.setCell ⟨g, k, none⟩ (.int .i64 y)).setCell ⟨g, m, none⟩ (.int .i64 x)).drew (some g)) := grown_drew (grown_set (grown_set HG.out k _) m _)
      clear e1 e0 r1 r0 f6 f7 f8 f9 f10
      generalize ((wo.setCell ⟨g, k, none⟩ (.int .i64 y)).setCell ⟨g, m, none⟩ (.int .i64 x)).drew = w3 at HK3 HG3 ⊢
      have v1 : IntKind.i64.wrap ((m : Int) - 1) = (m : Int) - 1 := IntWalk.i64_in _ (by omega)
      go_wp2
      have := HM.out
      exact ⟨⟨k + 1, by omega, by go_num, by congr 1; omega, HK3.out, HG3.out⟩, by simp [intOf]; omega⟩
    · have i1 : ¬ (k : Int) < (n : Int) - 1 - (k : Int) := by omega
      have HF : Hid (revP zs k = zs.reverse) := revP_end (by rw [← HNN.out]; omega)
      go_wp2
      go_end0
      exact ⟨rfl, by rw [← HF.out]; exact HK.out, HG.out⟩
end Go.Proofs.Ytfeohcknopdamaa
