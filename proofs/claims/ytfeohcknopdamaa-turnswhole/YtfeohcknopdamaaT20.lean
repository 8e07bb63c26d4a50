import Derived.Test.YtfeohcknopdamaaT19
import Derived.Test.YtfeohcknopdamaaT18
/- Layer 10: differ, and how adjacent sets differ. -/
namespace Go.Proofs.Ytfeohcknopdamaa
open Go.RowKit
set_option linter.unusedVariables false

/-- How many of the first k are not in the other list. -/
def onlyF (xs ys : List Int) : Nat → Nat
  | 0 => 0
  | k + 1 => onlyF xs ys k + if atI xs k ∈ ys then 0 else 1
def cnt (xs ys : List Int) : Nat := onlyF xs ys xs.length
def Asc (xs : List Int) : Prop := ∀ i j, i < j → j < xs.length → atI xs i < atI xs j
theorem asc_of {n : Int} {zs : List Int} (h : setB n zs = true) : Asc zs := fun i j hij hj => by
  have := setB_lt h (j - i - 1) i (by omega)
  rwa [show i + (j - i - 1) + 1 = j by omega] at this
theorem mem_at {zs : List Int} {x : Int} : x ∈ zs ↔ ∃ j, j < zs.length ∧ atI zs j = x := by
  constructor
  · intro h
    obtain ⟨j, hj, e⟩ := List.mem_iff_getElem.1 h
    exact ⟨j, hj, by rw [atI_get hj]; exact e⟩
  · rintro ⟨j, hj, e⟩
    rw [← e, atI_get hj]
    exact List.getElem_mem hj
theorem onlyF_le (xs ys : List Int) : ∀ k, onlyF xs ys k ≤ k
  | 0 => Nat.le_refl _
  | k + 1 => by
    have := onlyF_le xs ys k
    rw [onlyF]
    split <;> omega
/-- What has been passed and what is left lie apart. -/
def DifI (xs ys : List Int) (i k : Nat) : Prop := (∀ p q, p < i → k ≤ q → q < ys.length → atI xs p < atI ys q) ∧ (∀ q p, q < k → i ≤ p → p < xs.length → atI ys q < atI xs p)
theorem dif_left {xs ys : List Int} (hx : Asc xs) (hy : Asc ys) {i k : Nat} (h : DifI xs ys i k) (hi : i < xs.length) (hk : k ≤ ys.length) (hc : k = ys.length ∨ atI xs i < atI ys k) : DifI xs ys (i + 1) k ∧ atI xs i ∉ ys := by
  have hall : ∀ q, k ≤ q → q < ys.length → atI xs i < atI ys q := fun q h1 h2 => by
    rcases hc with e | e
    · omega
    · by_cases e2 : q = k
      · rw [e2]; exact e
      · have := hy k q (by omega) h2; omega
  refine ⟨⟨fun p q hp hq hq2 => ?_, fun q p hq hp hp2 => h.2 q p hq (by omega) hp2⟩, fun hm => ?_⟩
  · by_cases e : p = i
    · rw [e]; exact hall q hq hq2
    · exact h.1 p q (by omega) hq hq2
  · obtain ⟨q, hq, e⟩ := mem_at.1 hm
    by_cases h1 : q < k
    · have := h.2 q i h1 (Nat.le_refl _) hi; omega
    · have := hall q (by omega) hq; omega
theorem dif_swap {xs ys : List Int} {i k : Nat} (h : DifI xs ys i k) : DifI ys xs k i := ⟨h.2, h.1⟩
theorem dif_both {xs ys : List Int} (hx : Asc xs) (hy : Asc ys) {i k : Nat} (h : DifI xs ys i k) (hi : i < xs.length) (hk : k < ys.length) (e : atI xs i = atI ys k) : DifI xs ys (i + 1) (k + 1) := by
  refine ⟨fun p q hp hq hq2 => ?_, fun q p hq hp hp2 => ?_⟩
  · by_cases e1 : p = i
    · rw [e1, e]; exact hy k q (by omega) hq2
    · exact h.1 p q (by omega) (by omega) hq2
  · by_cases e1 : q = k
    · rw [e1, ← e]; exact hx i p (by omega) hp2
    · exact h.2 q p (by omega) (by omega) hp2
theorem cnt_self (xs : List Int) : cnt xs xs = 0 := by
  have : ∀ k, k ≤ xs.length → onlyF xs xs k = 0 := fun k => by
    induction k with
    | zero => intro _; rfl
    | succ k ih => intro hk; rw [onlyF, ih (by omega), if_pos (mem_at.2 ⟨k, by omega, rfl⟩)]
  exact this _ (Nat.le_refl _)
theorem onlyF_congr {xs xs' ys ys' : List Int} : ∀ k, (∀ j, j < k → atI xs j = atI xs' j ∧ (atI xs j ∈ ys ↔ atI xs' j ∈ ys')) → onlyF xs ys k = onlyF xs' ys' k
  | 0, _ => rfl
  | k + 1, h => by
    rw [onlyF, onlyF, onlyF_congr k (fun j hj => h j (by omega))]
    by_cases e : atI xs k ∈ ys
    · rw [if_pos e, if_pos ((h k (Nat.lt_succ_self k)).2.1 e)]
    · rw [if_neg e, if_neg (fun e2 => e ((h k (Nat.lt_succ_self k)).2.2 e2))]
/-- All numbers are at most n. -/
def AtMost (n : Int) (xs : List Int) : Prop := ∀ x ∈ xs, x ≤ n
theorem atMost_of {n : Int} {zs : List Int} (h : setB n zs = true) : AtMost n zs := fun x hx => by
  obtain ⟨j, hj, e⟩ := mem_at.1 hx
  rw [← e]; exact (setB_at h hj).2
theorem cnt_both {n x : Int} {xs ys : List Int} (hx : AtMost n xs) (h : n < x) : cnt (xs ++ [x]) (ys ++ [x]) = cnt xs ys := by
  unfold cnt
  rw [List.length_append, List.length_singleton, onlyF, atI_app2, if_pos (by simp), Nat.add_zero]
  refine onlyF_congr _ fun j hj => ⟨atI_app1 hj, ?_⟩
  rw [atI_app1 hj, List.mem_append, List.mem_singleton]
  have := hx (atI xs j) (mem_at.2 ⟨j, hj, rfl⟩)
  exact ⟨fun h1 => h1.elim id (fun h2 => by omega), .inl⟩
theorem cnt_more {n x : Int} {xs ys : List Int} (hx : AtMost n xs) (h : n < x) : cnt xs (ys ++ [x]) = cnt xs ys := by
  refine onlyF_congr _ fun j hj => ⟨rfl, ?_⟩
  rw [List.mem_append, List.mem_singleton]
  have := hx (atI xs j) (mem_at.2 ⟨j, hj, rfl⟩)
  exact ⟨fun h1 => h1.elim id (fun h2 => by omega), .inl⟩
theorem cnt_new {n x : Int} {xs ys : List Int} (hy : AtMost n ys) (h : n < x) : cnt (xs ++ [x]) ys = cnt xs ys + 1 := by
  unfold cnt
  rw [List.length_append, List.length_singleton, onlyF, atI_app2, if_neg (fun hm => by have := hy x hm; omega)]
  congr 1
  exact onlyF_congr _ fun j hj => ⟨atI_app1 hj, by rw [atI_app1 hj]⟩
theorem pLe_step (n s a : Nat) : pL expL (n + 1) s a = if a < 2 ^ n then pL expL n s a else pL expL n s (2 * 2 ^ n - 1 - a) ++ [((n + 1 : Nat) : Int)] := by
  rw [pL, show expL (n + 1) s = 2 * 2 ^ n from by rw [expL, Nat.pow_succ, Nat.mul_comm], pL_exp (s - 1) s]; rfl
theorem gray : ∀ n s a, a + 1 < 2 ^ n → cnt (pL expL n s a) (pL expL n s (a + 1)) + cnt (pL expL n s (a + 1)) (pL expL n s a) = 1
  | 0, s, a, h => by simp at h
  | n + 1, s, a, h => by
    rw [Nat.pow_succ] at h
    have hm := fun b => atMost_of (pL_set expL n s b)
    have hx : (n : Int) < ((n + 1 : Nat) : Int) := by omega
    rw [pLe_step, pLe_step]
    by_cases h1 : a + 1 < 2 ^ n
    · rw [if_pos (by omega), if_pos h1]; exact gray n s a h1
    · rw [if_neg h1]
      by_cases h2 : a < 2 ^ n
      · rw [if_pos h2, show 2 * 2 ^ n - 1 - (a + 1) = a by omega, cnt_more (hm a) hx, cnt_new (hm a) hx, cnt_self]
      · rw [if_neg h2, cnt_both (hm _) hx, cnt_both (hm _) hx]
        have := gray n s (2 * 2 ^ n - 1 - (a + 1)) (by omega)
        rw [show 2 * 2 ^ n - 1 - (a + 1) + 1 = 2 * 2 ^ n - 1 - a by omega] at this
        omega
theorem pLe_zero : ∀ n s, pL expL n s 0 = []
  | 0, _ => rfl
  | n + 1, s => by rw [pLe_step, if_pos (Nat.two_pow_pos n), pLe_zero n]
theorem gray_last (n s : Nat) : cnt (pL expL (n + 1) s (2 ^ (n + 1) - 1)) (pL expL (n + 1) s 0) + cnt (pL expL (n + 1) s 0) (pL expL (n + 1) s (2 ^ (n + 1) - 1)) = 1 := by
  have := Nat.two_pow_pos n
  rw [pLe_zero, pLe_step, Nat.pow_succ, if_neg (by omega), show 2 * 2 ^ n - 1 - (2 ^ n * 2 - 1) = 0 by omega, pLe_zero]
  rfl
/-- The position of the set at a position. -/
theorem plF_snoc {L : Nat → Nat → Nat} (zs : List Int) (x : Nat) : plF L (zs ++ [(x : Int)]) (zs.length + 1) = L x (zs.length + 1) - 1 - plF L zs zs.length := by
  rw [plF, atI_app2, Int.toNat_natCast, plF_congr (xs := zs ++ [(x : Int)]) (ys := zs) zs.length (fun j hj => atI_app1 hj)]
theorem set_back : ∀ n s a, a < 2 ^ n → plF expL (pL expL n s a) (pL expL n s a).length = a
  | 0, s, a, h => by simp at h; subst h; rfl
  | n + 1, s, a, h => by
    rw [pLe_step]
    rw [Nat.pow_succ] at h
    by_cases h1 : a < 2 ^ n
    · rw [if_pos h1]; exact set_back n s a h1
    · rw [if_neg h1, List.length_append, List.length_singleton, plF_snoc, set_back n s _ (by omega)]
      unfold expL
      rw [Nat.pow_succ]
      omega
end Go.Proofs.Ytfeohcknopdamaa
/- Layer 10: differ; TurnsSetSteps. -/
namespace Go.Proofs.Ytfeohcknopdamaa
open Go.RowKit
set_option linter.unusedVariables false

set_option maxRecDepth 100000 in
set_option maxHeartbeats 6400000 in
theorem differ_any (xs ys : List Int) (A B : Option Addr) (m n c d : Nat) (w : World) (hx : Sl w A m c xs) (hy : Sl w B n d ys) (ax : Asc xs) (ay : Asc ys) :
    Calls Try.prog 53 #[.slice A m c, .slice B n d] w fun e w' => e = .returned (.tuple #[.int .i64 ((cnt xs ys : Nat) : Int), .int .i64 ((cnt ys xs : Nat) : Int)]) ∧ Dr w w' := by
  have hbx := hx.big
  have hby := hy.big
  have HXL : Hid (xs.length = m) := hx.len
  have HYL : Hid (ys.length = n) := hy.len
  have HX := Lib.hid (fun V (hV : Dr w V) => hx.below (hV.below w.heap.size) (Nat.le_refl _))
  have HY := Lib.hid (fun V (hV : Dr w V) => hy.below (hV.below w.heap.size) (Nat.le_refl _))
  have AX := Lib.hid ax
  have AY := Lib.hid ay
  have HC1 : Hid (cnt xs ys = onlyF xs ys m) := by rw [Hid, cnt, hx.len]
  have HC2 : Hid (cnt ys xs = onlyF ys xs n) := by rw [Hid, cnt, hy.len]
  clear hx hy ax ay
  go_enter Try.func53, Try.ntmps53
  go_wp2
  go_loopw [6, 7, 8, 9] (fun i k p q w' => ∃ (i' k' p' q' : Nat), i' ≤ m ∧ k' ≤ n ∧ i = .int .i64 (i' : Int) ∧ k = .int .i64 (k' : Int) ∧ p = .int .i64 (p' : Int) ∧ q = .int .i64 (q' : Int) ∧ p' ≤ i' ∧ q' ≤ k' ∧ Hid (p' = onlyF xs ys i') ∧ Hid (q' = onlyF ys xs k') ∧ Hid (DifI xs ys i' k') ∧ Hid (Dr w w')) (fun i k _ _ _ => m + n - (intOf i).toNat - (intOf k).toNat)
  case atStart => exact ⟨0, 0, 0, 0, Nat.zero_le _, Nat.zero_le _, by go_num, by go_num, by go_num, by go_num, Nat.le_refl _, Nat.le_refl _, rfl, rfl, ⟨fun p q hp => absurd hp (Nat.not_lt_zero _), fun q p hq => absurd hq (Nat.not_lt_zero _)⟩, Dr.refl _⟩
  case round =>
    obtain ⟨i, k, p, q, hi, hk, rfl, rfl, rfl, rfl, hpi, hqk, HP, HQ, HI, HD⟩ := hrel
    obtain ⟨wo, rfl⟩ : ∃ wo : World, wo = wr := ⟨_, rfl⟩
    by_cases hkn : k = n
    · by_cases him : i = m
      · have i1 : ¬ (i : Int) < (m : Int) := by omega
        have i2 : ¬ (k : Int) < (n : Int) := by omega
        have HP2 : Hid (p = cnt xs ys) := by rw [Hid, HC1.out, HP.out, him]
        have HQ2 : Hid (q = cnt ys xs) := by rw [Hid, HC2.out, HQ.out, hkn]
        go_wp2
        go_ret2
        exact ⟨by rw [← HP2.out, ← HQ2.out]; rfl, HD.out⟩
      · have i1 : (i : Int) < (m : Int) := by omega
        have i2 : ((k : Int) == (n : Int)) = true := by rw [beq_iff_eq]; omega
        have i3 : (k == n) = true := by rw [beq_iff_eq]; exact hkn
        have hstep := dif_left AX.out AY.out HI.out (by rw [HXL.out]; omega) (by rw [HYL.out]; omega) (.inl (by rw [HYL.out]; exact hkn))
        have HS := Lib.hid hstep.1
        have HP2 : Hid (p + 1 = onlyF xs ys (i + 1)) := by rw [Hid, onlyF, if_neg hstep.2, HP.out]
        clear hstep
        subst hkn
        go_wp2
        go_quiet (fail)
        go_wp2
        exact ⟨⟨i + 1, k, p + 1, q, by omega, by omega, by go_num, by go_num, by go_num, by go_num, by omega, by omega, HP2.out, HQ.out, HS.out, HD.out.more _⟩, by simp [intOf]; omega⟩
    · have k1 : (k : Int) < (n : Int) := by omega
      have k2 : ((k : Int) == (n : Int)) = false := by rw [beq_eq_false_iff_ne]; omega
      have k3 : (k == n) = false := by rw [beq_eq_false_iff_ne]; exact hkn
      obtain ⟨b2, o2, rfl, hc2⟩ := (HY.out wo HD.out).at_ (k := k) (by omega)
      rw [show ys[k]?.getD 0 = atI ys k from rfl] at hc2
      by_cases him : i = m
      · have i1 : ¬ (i : Int) < (m : Int) := by omega
        have i2 : ((i : Int) == (m : Int)) = true := by rw [beq_iff_eq]; omega
        have i3 : (i == m) = true := by rw [beq_iff_eq]; exact him
        have i4 : decide ((i : Int) < (m : Int)) = false := decide_eq_false i1
        have hstep := dif_left AY.out AX.out (dif_swap HI.out) (by rw [HYL.out]; omega) (by rw [HXL.out]; omega) (.inl (by rw [HXL.out]; exact him))
        have HS := Lib.hid (dif_swap hstep.1)
        have HQ2 : Hid (q + 1 = onlyF ys xs (k + 1)) := by rw [Hid, onlyF, if_neg hstep.2, HQ.out]
        clear hstep
        subst him
        go_wp2
        go_quiet (fail)
        go_wp2
        go_quiet (fail)
        go_wp2
        exact ⟨⟨i, k + 1, p, q + 1, by omega, by omega, by go_num, by go_num, by go_num, by go_num, by omega, by omega, HP.out, HQ2.out, HS.out, HD.out.more _⟩, by simp [intOf]; omega⟩
      · have i1 : (i : Int) < (m : Int) := by omega
        have i2 : ((i : Int) == (m : Int)) = false := by rw [beq_eq_false_iff_ne]; omega
        have i3 : (i == m) = false := by rw [beq_eq_false_iff_ne]; exact him
        have i4 : decide ((i : Int) < (m : Int)) = true := decide_eq_true i1
        obtain ⟨b1, o1, rfl, hc1⟩ := (HX.out wo HD.out).at_ (k := i) (by omega)
        rw [show xs[i]?.getD 0 = atI xs i from rfl] at hc1
        have hil : i < xs.length := by rw [HXL.out]; omega
        have hkl : k < ys.length := by rw [HYL.out]; omega
        rcases Int.lt_trichotomy (atI xs i) (atI ys k) with hlt | heq | hgt
        · have hstep := dif_left AX.out AY.out HI.out hil (by omega) (.inr hlt)
          have HS := Lib.hid hstep.1
          have HP2 : Hid (p + 1 = onlyF xs ys (i + 1)) := by rw [Hid, onlyF, if_neg hstep.2, HP.out]
          clear hstep hil hkl
          generalize atI xs i = x at *
          generalize atI ys k = y at *
          have g1 : decide (x < y) = true := decide_eq_true hlt
          go_wp2
          go_quiet (fail)
          go_wp2
          exact ⟨⟨i + 1, k, p + 1, q, by omega, by omega, by go_num, by go_num, by go_num, by go_num, by omega, by omega, HP2.out, HQ.out, HS.out, HD.out.more _⟩, by simp [intOf]; omega⟩
        · have HS := Lib.hid (dif_both AX.out AY.out HI.out hil hkl heq)
          have HP2 : Hid (p = onlyF xs ys (i + 1)) := by rw [Hid, onlyF, if_pos (mem_at.2 ⟨k, hkl, heq.symm⟩), HP.out]; rfl
          have HQ2 : Hid (q = onlyF ys xs (k + 1)) := by rw [Hid, onlyF, if_pos (mem_at.2 ⟨i, hil, heq⟩), HQ.out]; rfl
          rw [← heq] at hc2
          clear heq hil hkl
          generalize atI xs i = x at *
          have g1 : decide (x < x) = false := decide_eq_false (by omega)
          go_wp2
          go_quiet (fail)
          go_wp2
          go_quiet (fail)
          go_wp2
          exact ⟨⟨i + 1, k + 1, p, q, by omega, by omega, by go_num, by go_num, by go_num, by go_num, by omega, by omega, HP2.out, HQ2.out, HS.out, HD.out.more _⟩, by simp [intOf]; omega⟩
        · have hstep := dif_left AY.out AX.out (dif_swap HI.out) hkl (by omega) (.inr hgt)
          have HS := Lib.hid (dif_swap hstep.1)
          have HQ2 : Hid (q + 1 = onlyF ys xs (k + 1)) := by rw [Hid, onlyF, if_neg hstep.2, HQ.out]
          clear hstep hil hkl
          generalize atI xs i = x at *
          generalize atI ys k = y at *
          have g1 : decide (x < y) = false := decide_eq_false (by omega)
          have g2 : decide (y < x) = true := decide_eq_true hgt
          go_wp2
          go_quiet (fail)
          go_wp2
          go_quiet (fail)
          go_wp2
          exact ⟨⟨i, k + 1, p, q + 1, by omega, by omega, by go_num, by go_num, by go_num, by go_num, by omega, by omega, HP.out, HQ2.out, HS.out, HD.out.more _⟩, by simp [intOf]; omega⟩
theorem setAt_ok (N : Nat) (zs : List Int) (A : Option Addr) (m c : Nat) (V : World) (hN : N ≤ 40) (hs : Sl V A m c zs) (hz : setB (N : Int) zs = true) : Calls Try.prog 18 #[.int .i64 (N : Int), .slice A m c] V fun e w' =>
    e = .returned (.tuple #[.int .i64 ((plF expL zs m : Nat) : Int), .int .i64 0]) ∧ Below V.heap.size V w' := by
  refine (setAtP_any N zs A m c V hs).mono ?_
  rintro e w' ⟨rfl, hb⟩
  have h : (in40 (N : Int) && setB (N : Int) zs) = true := by
    rw [hz, in40, decide_eq_true (by omega), decide_eq_true (by omega)]; rfl
  rw [if_pos h]
  exact ⟨rfl, hb⟩
end Go.Proofs.Ytfeohcknopdamaa
