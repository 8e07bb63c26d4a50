import Derived.Test.YtkemcmeagnggeaaT23
import Derived.Test.YtkemcmeagnggeaaT22
import Derived.Test.YtkemcmeagnggeaaT02
import Derived.Test.YtkemcmeagnggeaaT13
import Derived.Test.YtkemcmeagnggeaaT19
/- Layer 3: contracts: the reference's Absent, the program's Arches and Absent in the reference's words. -/
namespace Go.Proofs.Ytkemcmeagnggeaa
open Go.RowKit
set_option linter.unusedVariables false

theorem abcd_take (k : Nat) (hk1 : 1 ≤ k) (hk : k ≤ 4) : bs ((⟨#[97, 98, 99, 100]⟩ : ByteArray).extract 0 k) = (List.range k).map fun (c : Nat) => 97 + (c : Int) := by
  rcases (by omega : k = 1 ∨ k = 2 ∨ k = 3 ∨ k = 4) with rfl | rfl | rfl | rfl <;> decide +kernel
theorem abcd_size (k : Nat) (hk : k ≤ 4) : ((⟨#[97, 98, 99, 100]⟩ : ByteArray).extract 0 k).size = k := by
  rcases (by omega : k = 0 ∨ k = 1 ∨ k = 2 ∨ k = 3 ∨ k = 4) with rfl | rfl | rfl | rfl | rfl <;> decide +kernel
theorem arches_len (s : ByteArray) (k m : Nat) (w : World) (hs : wordB (bs s) = true) (hk1 : 1 ≤ k) (hk4 : k ≤ 4) (hm : (archF (bs s) k).length = m) (hm60 : m ≤ 60) :
    Calls Try.prog 34 #[.string s, .int .i64 k] w fun e w' => ∃ A c, e = .returned (.slice A m c) ∧ Sl w' A m c (archF (bs s) k) ∧ Below w.heap.size w w' := by
  refine (arches_any s k w hs hk1 hk4).mono ?_
  rintro e w' ⟨v, rfl, hv, hb⟩
  obtain ⟨A, c, rfl, hsl⟩ := hv.sl_len hm (by omega)
  exact ⟨A, c, rfl, hsl, hb⟩
theorem absent_known (o s : ByteArray) (k : Nat) (hk : k ≤ 4) (hs : s.size ≤ 60) (hk1 : 1 ≤ k) (hl : isW k (bs s)) (ho : IsFirst k (fun y => subB y (bs s) = false) (some (bs o))) : o.size = (archF (bs s) k).length + 1 := by
  obtain ⟨x, e, _, _, h⟩ := first_absent (by rw [bs_len]; exact hs) hk1 hl ho
  injection e with e
  rw [← bs_len, e]
  exact h
set_option maxRecDepth 100000 in
set_option maxHeartbeats 1600000 in
theorem absentR_any (s o : ByteArray) (k : Nat) (w : World) (hs : wordB (bs s) = true) (hk1 : 1 ≤ k) (hk4 : k ≤ 4) (hl : isW k (bs s)) (ho : IsFirst k (fun y => subB y (bs s) = false) (some (bs o))) :
    Calls Try.prog 35 #[.string s, .int .i64 k] w fun e w' => e = .returned (.string o) ∧ Below w.heap.size w w' := by
  have hs60 := word_size hs
  obtain ⟨m, hm⟩ : ∃ m, (archF (bs s) k).length = m := ⟨_, rfl⟩
  have hm60 : m ≤ 60 := by have := archF_len (bs s) k; rw [bs_len] at this; omega
  have HOL : Hid ((bs o).length ≤ m + 1) := by rw [Hid, bs_len, absent_known o s k hk4 hs60 hk1 hl ho, hm]; exact Nat.le_refl _
  have HA := Lib.hid (fun W => arches_len s k m W hs hk1 hk4 hm hm60)
  have HK := Lib.hid (abcd_take k hk1 hk4)
  have HZ := Lib.hid (abcd_size k hk4)
  have HP : Hid (∀ (y : ByteArray) W, bs y = repK k (m + 1) → Calls Try.prog 38 #[.string s, .string y, .int .i64 k, .int .i64 ((s.size : Int) + 1)] W fun e w' => e = .returned (.tuple #[.string o, .bool true]) ∧ Below W.heap.size W w') := fun y W hy => by
    have hyz : y.size ≤ 300 := by
      rw [← bs_len, hy, repK_len]
      have : (m + 1) * k ≤ 61 * 4 := Nat.mul_le_mul (by omega) hk4
      omega
    have hr : IsFirst k (DifP (bs s) (bs y)) (some (bs o)) := by rw [hy]; exact absent_parted ho HOL.out
    refine (parted_any s y k (s.size + 1) W hs60 hyz hk4 (by omega) (by omega)).mono ?_
    rintro e w' ⟨⟨z, rfl, h⟩ | ⟨_, h⟩, hb⟩
    · have : z = o := bs_inj (Option.some.inj (IsFirst.uniq h hr))
      subst this
      exact ⟨rfl, hb⟩
    · cases IsFirst.uniq h hr
  clear hs hl ho hm
  go_enter Try.func35, Try.ntmps35
  go_wp2
  go_loopw [5, 6] (fun a i w' => ∃ (j : Nat) (z : ByteArray), j ≤ m + 1 ∧ a = .string z ∧ i = .int .i64 (j : Int) ∧ Hid (bs z = repK k j) ∧ Below w.heap.size w w') (fun _ i _ => m + 1 - (intOf i).toNat)
  case atStart => exact ⟨0, ⟨#[]⟩, by omega, rfl, by go_num, rfl, Below.refl _ _⟩
  case round =>
    obtain ⟨j, z, hj, rfl, rfl, HB, hW⟩ := hrel
    obtain ⟨wo, rfl⟩ : ∃ wo : World, wo = wr := ⟨_, rfl⟩
    have HZL : Hid (z.size = j * k) := by rw [Hid, ← bs_len, HB.out, repK_len]
    have hjk : j * k ≤ 61 * 4 := Nat.mul_le_mul (by omega) hk4
    by_cases hlt : j ≤ m
    · have hzz : z.size + ((⟨#[97, 98, 99, 100]⟩ : ByteArray).extract 0 k).size ≤ 9223372036854775807 := by rw [HZL.out, HZ.out]; omega
      have HB2 : Hid (bs (z ++ (⟨#[97, 98, 99, 100]⟩ : ByteArray).extract 0 k) = repK k (j + 1)) := by rw [Hid, bs_append, HB.out, HK.out]; rfl
      go_wp2_with (go_at_call 34; refine (HA.out _).mono ?_; rintro e w2 ⟨A, c, rfl, hsl, hb2⟩; have HB3 := Lib.hid (hW.trans (hb2.mono hW.size)); clear hsl hb2)
      exact ⟨⟨j + 1, _, by omega, rfl, by go_num, HB2, HB3.out⟩, by simp [intOf] <;> omega⟩
    · obtain rfl : j = m + 1 := by omega
      have HP1 := Lib.hid (fun W => HP.out z W HB.out)
      go_wp2_with (first | (go_at_call 34; refine (HA.out _).mono ?_; rintro e w2 ⟨A, c, rfl, hsl, hb2⟩; have HB3 := Lib.hid (hW.trans (hb2.mono hW.size)); clear hsl hb2) | (go_at_call 38; refine (HP1.out _).mono ?_; rintro e w3 ⟨rfl, hb3⟩))
      go_ret
      exact ⟨rfl, HB3.out.trans (hb3.mono HB3.out.size)⟩
end Go.Proofs.Ytkemcmeagnggeaa
/- Layer 3, plain mathematics: the arches of a word that is repeated. -/
namespace Go.Proofs.Ytkemcmeagnggeaa
open Go.RowKit
set_option linter.unusedVariables false

theorem archTo_lt (w : List Int) (k : Nat) : ∀ i, ∀ z ∈ (archTo w k i).l, z < (i : Int) := by
  intro i
  induction i with
  | zero => intro z hz; cases hz
  | succ i ih =>
    intro z hz
    rw [archTo] at hz
    generalize archTo w k i = S at *
    obtain ⟨l, sn, m⟩ := S
    by_cases e : cntS sn m (w[i]?.getD 0 - 97).toNat = k
    · rw [archStep_hit e] at hz
      rcases List.mem_append.1 hz with hz | hz
      · have := ih z hz; omega
      · have := List.mem_singleton.1 hz; omega
    · rw [archStep_no e] at hz
      have := ih z hz; omega
theorem archTo_nn (w : List Int) (k : Nat) : ∀ i, ∀ z ∈ (archTo w k i).l, 0 ≤ z := by
  intro i
  induction i with
  | zero => intro z hz; cases hz
  | succ i ih =>
    intro z hz
    rw [archTo] at hz
    generalize archTo w k i = S at *
    obtain ⟨l, sn, m⟩ := S
    by_cases e : cntS sn m (w[i]?.getD 0 - 97).toNat = k
    · rw [archStep_hit e] at hz
      rcases List.mem_append.1 hz with hz | hz
      · exact ih z hz
      · have := List.mem_singleton.1 hz; omega
    · rw [archStep_no e] at hz
      exact ih z hz
theorem archF_rng {w : List Int} {k i : Nat} (h : i < (archF w k).length) : 0 ≤ (archF w k)[i]?.getD 0 ∧ (archF w k)[i]?.getD 0 < w.length := by
  rw [List.getElem?_eq_getElem h, Option.getD_some]
  exact ⟨archTo_nn w k _ _ (List.getElem_mem h), archTo_lt w k _ _ (List.getElem_mem h)⟩
theorem archTo_pre (w v : List Int) (k : Nat) : ∀ i, i ≤ w.length → archTo (w ++ v) k i = archTo w k i := by
  intro i
  induction i with
  | zero => intro _; rfl
  | succ i ih =>
    intro hi
    rw [archTo, archTo, ih (by omega), List.getElem?_append_left (by omega)]
/-- The last arch ends at the end of the word: the scan begins anew. -/
theorem archTo_end {w : List Int} {k : Nat} (h0 : 0 < (archF w k).length) (h : (archF w k)[(archF w k).length - 1]?.getD 0 = (w.length : Int) - 1) : archTo w k w.length = ⟨archF w k, fun _ => false, 0⟩ := by
  obtain ⟨n, hn⟩ : ∃ n, w.length = n + 1 := ⟨w.length - 1, by have := archF_len w k; omega⟩
  unfold archF at h h0 ⊢
  rw [hn] at h h0 ⊢
  rw [archTo] at h h0 ⊢
  have hlt := archTo_lt w k n
  generalize archTo w k n = S at *
  obtain ⟨l, sn, m⟩ := S
  by_cases e : cntS sn m (w[n]?.getD 0 - 97).toNat = k
  · rw [archStep_hit e]
  · rw [archStep_no e] at h h0
    dsimp only at h h0
    rw [List.getElem?_eq_getElem (by omega), Option.getD_some] at h
    have := hlt _ (List.getElem_mem (l := l) (n := l.length - 1) (by omega))
    omega
theorem archTo_twice {w : List Int} {k : Nat} (h : archTo w k w.length = ⟨archF w k, fun _ => false, 0⟩) : ∀ j, j ≤ w.length → archTo (w ++ w) k (w.length + j) = ⟨archF w k ++ (archTo w k j).l.map (· + (w.length : Int)), (archTo w k j).sn, (archTo w k j).m⟩ := by
  intro j
  induction j with
  | zero => intro _; rw [Nat.add_zero, archTo_pre _ _ _ _ (Nat.le_refl _), h]; simp [archTo]
  | succ j ih =>
    intro hj
    rw [← Nat.add_assoc, archTo, ih (by omega), List.getElem?_append_right (by omega), show w.length + j - w.length = j from by omega, archTo]
    generalize archTo w k j = S
    obtain ⟨l, sn, m⟩ := S
    dsimp only
    by_cases e : cntS sn m (w[j]?.getD 0 - 97).toNat = k
    · rw [archStep_hit e, archStep_hit e]
      simp [List.append_assoc]
      omega
    · rw [archStep_no e, archStep_no e]
theorem arch_twice {w : List Int} {k : Nat} (h0 : 0 < (archF w k).length) (h : (archF w k)[(archF w k).length - 1]?.getD 0 = (w.length : Int) - 1) : archF (w ++ w) k = archF w k ++ (archF w k).map (· + (w.length : Int)) := by
  have h1 := archTo_twice (archTo_end h0 h) w.length (Nat.le_refl _)
  show (archTo (w ++ w) k (w ++ w).length).l = _
  rw [List.length_append, h1]
  rfl
theorem twice_at {l : List Int} {n : Int} {i : Nat} (h : i < l.length) : (l ++ l.map (· + n))[i]?.getD 0 = l[i]?.getD 0 ∧ (l ++ l.map (· + n))[l.length + i]?.getD 0 = l[i]?.getD 0 + n := by
  refine ⟨by rw [List.getElem?_append_left h], ?_⟩
  rw [List.getElem?_append_right (by omega), show l.length + i - l.length = i from by omega, List.getElem?_map, List.getElem?_eq_getElem h]
  rfl
theorem bs_extract (s : ByteArray) (i j : Nat) : bs (s.extract i j) = ((bs s).drop i).take (j - i) := by
  unfold bs
  rw [ByteArray.data_extract, Array.toList_extract, List.extract_eq_take_drop, List.map_take, List.map_drop]
/-- Without the letter at place i. -/
theorem bs_without (s : ByteArray) (i : Nat) (h : i < s.size) : bs (s.extract 0 i ++ s.extract (i + 1) s.size) = (bs s).take i ++ (bs s).drop (i + 1) := by
  rw [bs_append, bs_extract, bs_extract, List.drop_zero, Nat.sub_zero]
  congr 1
  rw [List.take_of_length_le]
  rw [List.length_drop, bs_len]
  omega
theorem isW_letters {x : List Int} {k : Nat} (h : isW k x) : lettersB x k = true := lettersB_iff.2 fun i hi => by
  have := h _ (List.getElem_mem hi)
  rw [List.getElem?_eq_getElem hi, Option.getD_some]
  omega
theorem archOk_of {s : ByteArray} {k : Nat} (h : isW k (bs s)) (hk1 : 1 ≤ k) (hk4 : k ≤ 4) (hs : s.size ≤ 60) : archOk s k = true := by
  unfold archOk
  rw [isW_word (isW_mono h hk4) (by rw [bs_len]; exact hs), isW_letters h, lettersK_iff.2 ⟨k, rfl, hk1, hk4⟩]
  rfl
end Go.Proofs.Ytkemcmeagnggeaa
