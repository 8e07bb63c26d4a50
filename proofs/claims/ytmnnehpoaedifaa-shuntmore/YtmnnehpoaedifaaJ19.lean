import Derived.Test.YtmnnehpoaedifaaJ17
import Derived.Test.YtmnnehpoaedifaaJ14
import Derived.Test.YtmnnehpoaedifaaJ10
/- Contracts of package shunt: lanesSort, isDescent; the promise of CheckQueues. -/
namespace Go.Proofs.Ytmnnehpoaedifaa
open Go.RowKit

/-- What the list of the last items says. -/
structure LastInv (o l last : List Int) (k i : Nat) : Prop where
  len : last.length = k
  hi : ∀ j q : Nat, j < i → l[j]?.getD 0 = (q : Int) → o[j]?.getD 0 ≤ last[q]?.getD 0
  is : ∀ q, q < k → last[q]?.getD 0 = 0 ∨ ∃ j, j < i ∧ l[j]?.getD 0 = (q : Int) ∧ o[j]?.getD 0 = last[q]?.getD 0
theorem LastInv.start (o l : List Int) (k : Nat) : LastInv o l (List.replicate k 0) k 0 := by
  refine ⟨by simp, fun j q h => by omega, fun q hq => .inl ?_⟩
  simp [hq]
theorem LastInv.step {o l last : List Int} {k i q : Nat} (h : LastInv o l last k i) (hq : q < k) (hl : l[i]?.getD 0 = (q : Int)) (hge : last[q]?.getD 0 ≤ o[i]?.getD 0) : LastInv o l (last.set q (o[i]?.getD 0)) k (i + 1) := by
  have hlen := h.len
  have e1 : (last.set q (o[i]?.getD 0))[q]?.getD 0 = o[i]?.getD 0 := by rw [List.getElem?_set_self (by omega)]; rfl
  have e2 : ∀ r, r ≠ q → (last.set q (o[i]?.getD 0))[r]?.getD 0 = last[r]?.getD 0 := fun r hr => by rw [List.getElem?_set_ne (by omega)]
  refine ⟨by rw [List.length_set]; exact hlen, fun j r hj hlj => ?_, fun r hr => ?_⟩
  · by_cases e : r = q
    · subst e
      rw [e1]
      by_cases ej : j = i
      · subst ej; exact Int.le_refl _
      · have := h.hi j r (by omega) hlj; omega
    · rw [e2 r e]
      by_cases ej : j = i
      · subst ej; rw [hl] at hlj; exact absurd (Int.ofNat.inj hlj) (fun e' => e e'.symm)
      · exact h.hi j r (by omega) hlj
  · by_cases e : r = q
    · subst e
      exact .inr ⟨i, by omega, hl, e1.symm⟩
    · rw [e2 r e]
      rcases h.is r hr with h1 | ⟨j, h1, h2, h3⟩
      · exact .inl h1
      · exact .inr ⟨j, by omega, h2, h3⟩
theorem LastInv.ok {o l last : List Int} {k i q : Nat} (h : LastInv o l last k i) (hq : q < k) (hl : l[i]?.getD 0 = (q : Int)) (hge : last[q]?.getD 0 ≤ o[i]?.getD 0) : laneOk o k l i = true := by
  unfold laneOk laneIn
  rw [hl, Bool.and_eq_true]
  refine ⟨by simp; omega, allB_iff.2 fun j hj => ?_⟩
  unfold pairOk
  simp only [Bool.not_eq_true', Bool.and_eq_false_iff, decide_eq_false_iff_not]
  by_cases he : l[j]?.getD 0 = l[i]?.getD 0
  · right
    have := h.hi j q hj (by rw [he, hl])
    omega
  · exact .inl he
theorem LastInv.bad {o l last : List Int} {k i q : Nat} (h : LastInv o l last k i) (hq : q < k) (hl : l[i]?.getD 0 = (q : Int)) (hlt : o[i]?.getD 0 < last[q]?.getD 0) (h1 : 1 ≤ o[i]?.getD 0) : laneOk o k l i = false := by
  rcases h.is q hq with h0 | ⟨j, hj, h2, h3⟩
  · omega
  · unfold laneOk
    rw [Bool.and_eq_false_iff]
    right
    refine (allB_bad hj ?_).symm
    unfold pairOk
    rw [h2, hl, h3]
    simp
    exact hlt

set_option maxHeartbeats 800000 in
theorem lanesSortL_any (A B : Option Addr) (n c m d : Nat) (o l : List Int) (k : Nat) (w : World) (hs : Sl w A n c o) (hl : Sl w B m d l) (hn : n ≤ 60) (ho : Ord o) (hk : k ≤ 60) :
    Calls Try.prog 63 #[.slice A n c, .int .i64 k, .slice B m d] w fun e w' => e = .returned (.bool (lanesB o k l)) ∧ Below w.heap.size w w' := by
  have HA := areBelow_any B m d l (n : Int) (k : Int) w hl
  have HS := Lib.hid hs; clear hs
  have HL := Lib.hid hl; clear hl
  have HO := Lib.hid ho; clear ho
  cases hb : belowB l (n : Int) (k : Int) with
  | false =>
    rw [hb] at HA
    have HAA := Lib.hid HA; clear HA
    have HB : Hid (false = lanesB o k l) := by
      rw [Hid, eq_comm, Bool.eq_false_iff]
      intro h
      unfold lanesB at h
      rw [Bool.and_eq_true, decide_eq_true_eq] at h
      rw [Bool.eq_false_iff] at hb
      apply hb
      unfold belowB
      rw [Bool.and_eq_true, decide_eq_true_eq]
      refine ⟨by rw [h.1, HS.out.len], allB_iff.2 fun i hi => ?_⟩
      have := (allB_iff.1 h.2) i hi
      unfold laneOk at this
      rw [Bool.and_eq_true] at this
      exact this.1
    clear hb
    go_enter Try.func63, Try.ntmps63
    go_wp2_with (go_at_call 78; refine HAA.out.mono ?_; clear HAA; rintro e w1 ⟨rfl, rfl⟩)
    go_ret
    exact ⟨bend HB.out, Below.refl _ _⟩
  | true =>
    rw [hb] at HA
    have HAA := Lib.hid HA; clear HA
    have hb' := hb
    unfold belowB at hb'
    rw [Bool.and_eq_true, decide_eq_true_eq, HL.out.len] at hb'
    obtain rfl : m = n := by have := hb'.1; omega
    have HIN : Hid (∀ i, i < m → 0 ≤ l[i]?.getD 0 ∧ l[i]?.getD 0 < k) := fun i hi => by
      have := (allB_iff.1 hb'.2) i hi
      unfold inB at this
      simp at this
      exact this
    have HLB : Hid (lanesB o k l = allB (laneOk o k l) m) := by unfold lanesB; rw [Hid, HL.out.len, HS.out.len]; simp
    clear hb' hb
    obtain ⟨i0, hi, hz0, hz1, hz2⟩ := info_parts Try.infoInt
    have HI : Hid (Try.prog.info? 3 = some i0 ∧ i0.zero = some (.int .i64 0) ∧ i0.size = 1 ∧ i0.bytes = 8) := ⟨hi, hz0, hz1, hz2⟩
    clear hi hz0 hz1 hz2
    have hkb : k ≤ 1099511627776 := by omega
    go_enter Try.func63, Try.ntmps63
    go_wp2_with (first | (go_at_call 78; refine HAA.out.mono ?_; clear HAA; rintro e w1 ⟨rfl, rfl⟩) | (at_make; go_must (refine make_law _ rfl (.tmp 16) (.tmp 16) 22 rfl w.heap.size 3 i0 Try.underlying22 HI.out _ _ k rfl rfl rfl rfl hkb (Nat.le_refl _) ?_); intro w1 hv1 hg1; have HV1 := Lib.hid hv1; clear hv1; have HG1 := Lib.hid hg1; clear hg1))
    have hW1 := (Below.refl w.heap.size w).grown HG1.out (Nat.le_refl _) (by simp)
    go_loopw [8, 9, 20] (fun _ _ i w' => ∃ (j : Nat) (last : List Int), j ≤ m ∧ i = .int .i64 j ∧ Hid (∀ t, t < j → laneOk o k l t = true) ∧ Hid (LastInv o l last k j) ∧ Hid (Ow w' w.heap.size 3 (.slice (some ⟨w.heap.size, 0, none⟩) k k) last) ∧ Below w.heap.size w w') (fun _ _ i _ => m - (intOf i).toNat)
    case atStart => exact ⟨0, List.replicate k 0, by omega, by go_num, fun t ht => absurd ht (by omega), LastInv.start o l k, HV1, hW1⟩
    case round =>
      obtain ⟨j, last, hj, rfl, HOK, HLI, HOW, hW⟩ := hrel
      by_cases hlt : j < m
      · obtain ⟨b0, off0, rfl, hcx⟩ := HS.out.at_ hlt
        have hb0 := HS.out.old b0 off0 rfl (by omega)
        have hcxr := (hW.cell (p := ⟨b0, off0 + j, none⟩) hb0).trans hcx
        clear hcx
        obtain ⟨b1, off1, rfl, hcy⟩ := HL.out.at_ hlt
        have hb1 := HL.out.old b1 off1 rfl (by omega)
        have hcyr := (hW.cell (p := ⟨b1, off1 + j, none⟩) hb1).trans hcy
        clear hcy
        have hin := HIN.out j hlt
        obtain ⟨q, hq⟩ : ∃ q : Nat, l[j]?.getD 0 = (q : Int) := ⟨(l[j]?.getD 0).toNat, by omega⟩
        have hqk : q < k := by omega
        rw [hq] at hcyr
        have HQ := Lib.hid hq; clear hq
        clear hin
        have hcq := HOW.out.cellAt HLI.out.len hqk
        have hfq := HOW.out.free HLI.out.len q
        have HPUT := Lib.hid (HOW.out.put HLI.out.len q (o[j]?.getD 0))
        have h1 := HO.out.lo j (by rw [HS.out.len]; exact hlt)
        obtain ⟨x, hx⟩ : ∃ x, x = o[j]?.getD 0 := ⟨_, rfl⟩
        obtain ⟨y, hy⟩ : ∃ y, y = last[q]?.getD 0 := ⟨_, rfl⟩
        rw [← hx] at hcxr HPUT h1
        rw [← hy] at hcq
        have HX := Lib.hid hx; clear hx
        have HY := Lib.hid hy; clear hy
        by_cases hc : x < y
        · have g1 : decide (x < y) = true := by simpa using hc
          have HB : Hid (false = lanesB o k l) := by
            rw [Hid, HLB.out]
            exact allB_bad hlt (HLI.out.bad hqk HQ.out (by rw [← HX.out, ← HY.out]; exact hc) (by rw [← HX.out]; exact h1))
          clear h1 hc
          go_wp2
          go_ret
          exact ⟨bend HB.out, hW⟩
        · have g1 : decide (x < y) = false := by simpa using hc
          have HN : Hid (∀ t, t < j + 1 → laneOk o k l t = true) := ok_step HOK.out (HLI.out.ok hqk HQ.out (by rw [← HX.out, ← HY.out]; omega))
          have HL2 : Hid (LastInv o l (last.set q x) k (j + 1)) := by rw [Hid, HX.out]; exact HLI.out.step hqk HQ.out (by rw [← HX.out, ← HY.out]; omega)
          clear h1 hc
          go_wp2
          go_roundw
          case rel => exact ⟨j + 1, last.set q x, by omega, by go_num, HN, HL2, HPUT, hW.setCell (p := ⟨w.heap.size, q, none⟩) (Nat.le_refl _) _⟩
          case measure => simp [intOf]; omega
      · obtain rfl : j = m := by omega
        have HB : Hid (true = lanesB o k l) := by rw [Hid, HLB.out]; exact allB_good HOK.out
        go_wp2
        go_ret
        exact ⟨bend HB.out, hW⟩
end Go.Proofs.Ytmnnehpoaedifaa
/- Contract of package shunt: isDescent; the promise of CheckQueues. -/
namespace Go.Proofs.Ytmnnehpoaedifaa
open Go.RowKit

theorem qblock_pos (o l : List Int) (k : Int) : qblockB o k l = (posB l (k + 1) o.length && allB (desAt o l) (l.length - 1)) := by
  unfold qblockB posB
  rw [belowB_asc]
theorem posB_diff {zs : List Int} {k lim : Int} (h : posB zs k lim = true) : Diff zs := by
  unfold posB at h
  rw [Bool.and_eq_true] at h
  exact diff_of_asc h.2

set_option maxHeartbeats 800000 in
theorem isDescent_any (A B : Option Addr) (n c m d : Nat) (o l : List Int) (k : Nat) (w : World) (hs : Sl w A n c o) (hl : Sl w B m d l) (hn : n ≤ 60) (ho : Ord o) (hk : k ≤ 60) (hm : m ≤ 1099511627776) :
    Calls Try.prog 64 #[.slice A n c, .int .i64 k, .slice B m d] w fun e w' => e = .returned (.bool (qblockB o k l)) ∧ Dr w w' := by
  have HA := arePositions_any B m d l ((k : Int) + 1) (n : Int) w hl hm
  have HS := Lib.hid hs; clear hs
  have HL := Lib.hid hl; clear hl
  have HO := Lib.hid ho; clear ho
  have HSB : Hid (qblockB o k l = (posB l ((k : Int) + 1) n && allB (desAt o l) (l.length - 1))) := by rw [Hid, qblock_pos, HS.out.len]
  cases hb : posB l ((k : Int) + 1) (n : Int) with
  | false =>
    rw [hb] at HA
    have HAA := Lib.hid HA; clear HA
    have HB : Hid (false = qblockB o k l) := by rw [Hid, HSB.out, hb]; rfl
    clear hb
    go_enter Try.func64, Try.ntmps64
    go_wp2_with (go_at_call 77; refine HAA.out.mono ?_; clear HAA; rintro e w1 ⟨rfl, hd1⟩)
    go_ret
    exact ⟨bend HB.out, hd1⟩
  | true =>
    rw [hb] at HA
    have HAA := Lib.hid HA; clear HA
    obtain ⟨h3, hin⟩ := posB_at hb
    have HDL := Lib.hid (posB_diff hb)
    rw [HL.out.len] at h3 hin
    obtain rfl : m = k + 1 := by omega
    have HLB : Hid (qblockB o k l = allB (desAt o l) k) := by rw [Hid, HSB.out, hb, HL.out.len]; rfl
    have HIN := Lib.hid hin; clear hin
    clear hb h3 HSB
    go_enter Try.func64, Try.ntmps64
    go_wp2_with (go_at_call 77; refine HAA.out.mono ?_; clear HAA; rintro e w1 ⟨rfl, hd1⟩)
    go_loopw [7, 16] (fun _ i w' => ∃ j : Nat, j ≤ k ∧ i = .int .i64 j ∧ Hid (∀ t, t < j → desAt o l t = true) ∧ Dr w w') (fun _ i _ => k - (intOf i).toNat)
    case atStart => exact ⟨0, by omega, by go_num, fun t ht => absurd ht (by omega), hd1⟩
    case round =>
      obtain ⟨j, hj, rfl, HOK, hW⟩ := hrel
      by_cases hlt : j < k
      · obtain ⟨b1, off1, rfl, hcy⟩ := HL.out.cells (by omega)
        obtain ⟨x, hx⟩ : ∃ x : Nat, l[j]?.getD 0 = (x : Int) := ⟨(l[j]?.getD 0).toNat, by have := HIN.out j (by omega); omega⟩
        obtain ⟨y, hy⟩ : ∃ y : Nat, l[j + 1]?.getD 0 = (y : Int) := ⟨(l[j + 1]?.getD 0).toNat, by have := HIN.out (j + 1) (by omega); omega⟩
        have hxn : x < n := by have := (HIN.out j (by omega)).2; rw [hx] at this; omega
        have hyn : y < n := by have := (HIN.out (j + 1) (by omega)).2; rw [hy] at this; omega
        obtain ⟨b0, off0, rfl, hcx⟩ := HS.out.cells (by omega)
        have c1 := (hW.cell _).trans (hcy j (by omega))
        have c2 := (hW.cell _).trans (hcy (j + 1) (by omega))
        have c3 := (hW.cell _).trans (hcx x hxn)
        have c4 := (hW.cell _).trans (hcx y hyn)
        clear hcx hcy
        rw [hx] at c1
        rw [hy] at c2
        have HNE : Hid (o[x]?.getD 0 ≠ o[y]?.getD 0) := fun e => by
          have e2 := HO.out.diff x y (by rw [HS.out.len]; exact hxn) (by rw [HS.out.len]; exact hyn) e
          have := HDL.out j (j + 1) (by rw [HL.out.len]; omega) (by rw [HL.out.len]; omega) (by rw [hx, hy, e2])
          omega
        have HDE : Hid (desAt o l j = decide (o[y]?.getD 0 < o[x]?.getD 0)) := by unfold desAt elt; rw [Hid, hx, hy]; simp
        have HX := Lib.hid hx; clear hx
        have HY := Lib.hid hy; clear hy
        generalize o[x]?.getD 0 = a at *
        generalize o[y]?.getD 0 = b at *
        have hw1 : IntKind.i64.wrap ((j : Int) + 1) = (j : Int) + 1 := IntWalk.i64_in _ (by omega)
        by_cases h1 : a < b
        · have g1 : decide (a < b) = true := by simpa using h1
          have HB : Hid (false = qblockB o k l) := by rw [Hid, HLB.out]; exact allB_bad hlt (by rw [HDE.out]; exact decide_eq_false (by omega))
          clear h1
          go_wp2
          go_quiet (fail)
          go_wp2
          go_ret
          exact ⟨bend HB.out, hW.more _⟩
        · have g1 : decide (a < b) = false := by simpa using h1
          have HN : Hid (∀ t, t < j + 1 → desAt o l t = true) := ok_step HOK.out (by rw [HDE.out]; exact decide_eq_true (by have := HNE.out; omega))
          clear h1
          go_wp2
          go_quiet (fail)
          go_wp2
          go_roundw
          case rel => exact ⟨j + 1, by omega, by go_num, HN, hW.more _⟩
          case measure => simp [intOf]; omega
      · obtain rfl : j = k := by omega
        have HB : Hid (true = qblockB o j l) := by rw [Hid, HLB.out]; exact allB_good HOK.out
        go_wp2
        go_ret
        exact ⟨bend HB.out, hW⟩

theorem qblock_len {o b : List Int} {k : Int} (h : qblockB o k b = true) : (b.length : Int) = k + 1 := by
  rw [qblock_pos, Bool.and_eq_true] at h
  exact (posB_at h.1).1
theorem qblock_some {o b : List Int} {k : Int} (hk : 0 ≤ k) (h : qblockB o k b = true) : 0 < o.length := by
  have hl := qblock_len h
  rw [qblock_pos, Bool.and_eq_true] at h
  have := (posB_at h.1).2 0 (by omega)
  omega

set_option maxHeartbeats 1600000 in
theorem checkQueues_ok : CheckQueuesOk := by
  intro A B C n c m d r s o l b k w hs hl hb hm hr
  have H1 := Lib.hid (isOrder_any A n c o w hs)
  have HQ := Lib.hid (isQueueCount_any k)
  have HS := Lib.hid hs; clear hs
  have HL := Lib.hid hl; clear hl
  have HBL := Lib.hid hb; clear hb
  cases ho : ordB o 60 with
  | false =>
    rw [ho] at H1
    have HR : Hid (checkQueuesOf o k l b = 2) := by unfold checkQueuesOf; rw [Hid, if_neg (by rw [ho]; simp)]
    clear ho
    go_enter Try.func28, Try.ntmps28
    go_wp2_with (go_at_call 52; refine H1.out.mono ?_; clear H1; rintro e w1 ⟨rfl, hb1⟩)
    go_ret
    exact ⟨iend HR.out.symm, hb1⟩
  | true =>
    rw [ho] at H1
    obtain ⟨hord, h60⟩ := ordB_iff.1 ho
    have hn : n ≤ 60 := by rw [HS.out.len] at h60; omega
    clear h60
    have HORD := Lib.hid hord; clear hord
    cases hk : (decide (1 ≤ k) && decide (k ≤ 60)) with
    | false =>
      have HQ2 : Hid (∀ W, Calls Try.prog 60 #[.int .i64 k] W fun e w' => e = .returned (.bool false) ∧ W = w') := by rw [← hk]; exact HQ.out
      have HR : Hid (checkQueuesOf o k l b = 2) := by unfold checkQueuesOf; rw [Hid, if_neg (fun h => by simp [h.2.1, h.2.2] at hk)]
      clear hk HQ ho
      go_enter Try.func28, Try.ntmps28
      go_wp2_with (first | (go_at_call 52; refine H1.out.mono ?_; clear H1; rintro e w1 ⟨rfl, hb1⟩) | (go_at_call 60; refine (HQ2.out _).mono ?_; rintro e w2 ⟨rfl, rfl⟩))
      go_ret
      exact ⟨iend HR.out.symm, hb1⟩
    | true =>
      have HQ2 : Hid (∀ W, Calls Try.prog 60 #[.int .i64 k] W fun e w' => e = .returned (.bool true) ∧ W = w') := by rw [← hk]; exact HQ.out
      obtain ⟨hk1, hk2⟩ : 1 ≤ k ∧ k ≤ 60 := by simpa using hk
      clear hk HQ
      have HR0 : Hid (checkQueuesOf o k l b = if (lanesB o k l = true ∧ b.length = 0) ∨ (l.length = 0 ∧ 0 < o.length ∧ qblockB o k b = true) then 0 else 10) := by unfold checkQueuesOf; rw [Hid, if_pos ⟨ho, hk1, hk2⟩]
      clear ho
      obtain ⟨q, rfl⟩ : ∃ q : Nat, k = q := ⟨k.toNat, by omega⟩
      have hq60 : q ≤ 60 := by omega
      clear hk1 hk2
      have HPL : Hid (∀ W, Below w.heap.size w W → Calls Try.prog 63 #[.slice A n c, .int .i64 (q : Int), .slice B m d] W fun e w' => e = .returned (.bool (lanesB o q l)) ∧ Below w.heap.size w w') := fun W h =>
        (lanesSortL_any A B n c m d o l q W (HS.out.below h (Nat.le_refl _)) (HL.out.below h (Nat.le_refl _)) hn HORD.out hq60).mono fun e w' ⟨he, hb⟩ => ⟨he, h.trans (hb.mono h.size)⟩
      have HBK : Hid (∀ W, Below w.heap.size w W → Calls Try.prog 64 #[.slice A n c, .int .i64 (q : Int), .slice C r s] W fun e w' => e = .returned (.bool (qblockB o q b)) ∧ Below w.heap.size w w') := fun W h =>
        (isDescent_any A C n c r s o b q W (HS.out.below h (Nat.le_refl _)) (HBL.out.below h (Nat.le_refl _)) hn HORD.out hq60 hr).mono fun e w' ⟨he, hb⟩ => ⟨he, h.trans (hb.below _)⟩
      have hbl := HBL.out.len
      have hll := HL.out.len
      by_cases hr0 : r = 0
      · subst hr0
        have hsf : qblockB o q b = false := by
          cases h : qblockB o q b with
          | false => rfl
          | true => have := qblock_len h; omega
        cases hpl : lanesB o q l with
        | true =>
          have HR : Hid (checkQueuesOf o q l b = 0) := by rw [Hid, HR0.out, if_pos (.inl ⟨hpl, hbl⟩)]
          rw [hpl] at HPL
          clear hpl hsf hbl hll
          go_enter Try.func28, Try.ntmps28
          go_wp2_with (first | (go_at_call 52; refine H1.out.mono ?_; clear H1; rintro e w1 ⟨rfl, hb1⟩) | (go_at_call 60; refine (HQ2.out _).mono ?_; rintro e w9 ⟨rfl, rfl⟩) | (go_at_call 63; refine (HPL.out _ hb1).mono ?_; clear HPL; rintro e w2 ⟨rfl, hb2⟩))
          go_ret
          exact ⟨iend HR.out.symm, hb2⟩
        | false =>
          have HR : Hid (checkQueuesOf o q l b = 10) := by rw [Hid, HR0.out, if_neg (by rintro (h | h); rw [hpl] at h; cases h.1; rw [hsf] at h; cases h.2.2)]
          rw [hpl] at HPL
          rw [hsf] at HBK
          clear hpl hsf hbl hll
          by_cases hm0 : m = 0
          · subst hm0
            go_enter Try.func28, Try.ntmps28
            go_wp2_with (first | (go_at_call 52; refine H1.out.mono ?_; clear H1; rintro e w1 ⟨rfl, hb1⟩) | (go_at_call 60; refine (HQ2.out _).mono ?_; rintro e w9 ⟨rfl, rfl⟩) | (go_at_call 63; refine (HPL.out _ hb1).mono ?_; clear HPL; rintro e w2 ⟨rfl, hb2⟩) | (go_at_call 64; refine (HBK.out _ hb2).mono ?_; clear HBK; rintro e w3 ⟨rfl, hb3⟩))
            go_ret
            exact ⟨iend HR.out.symm, hb3⟩
          · have gm : ((m : Int) == 0) = false := by simp; omega
            go_enter Try.func28, Try.ntmps28
            go_wp2_with (first | (go_at_call 52; refine H1.out.mono ?_; clear H1; rintro e w1 ⟨rfl, hb1⟩) | (go_at_call 60; refine (HQ2.out _).mono ?_; rintro e w9 ⟨rfl, rfl⟩) | (go_at_call 63; refine (HPL.out _ hb1).mono ?_; clear HPL; rintro e w2 ⟨rfl, hb2⟩))
            go_ret
            exact ⟨iend HR.out.symm, hb2⟩
      · have gr : ((r : Int) == 0) = false := by simp; omega
        by_cases hm0 : m = 0
        · subst hm0
          cases hsb : qblockB o q b with
          | true =>
            have HR : Hid (checkQueuesOf o q l b = 0) := by rw [Hid, HR0.out, if_pos (.inr ⟨hll, qblock_some (by omega) hsb, hsb⟩)]
            rw [hsb] at HBK
            clear hsb hbl hll
            go_enter Try.func28, Try.ntmps28
            go_wp2_with (first | (go_at_call 52; refine H1.out.mono ?_; clear H1; rintro e w1 ⟨rfl, hb1⟩) | (go_at_call 60; refine (HQ2.out _).mono ?_; rintro e w9 ⟨rfl, rfl⟩) | (go_at_call 64; refine (HBK.out _ hb1).mono ?_; clear HBK; rintro e w3 ⟨rfl, hb3⟩))
            go_ret
            exact ⟨iend HR.out.symm, hb3⟩
          | false =>
            have HR : Hid (checkQueuesOf o q l b = 10) := by rw [Hid, HR0.out, if_neg (by rintro (h | h); omega; rw [hsb] at h; cases h.2.2)]
            rw [hsb] at HBK
            clear hsb hbl hll
            go_enter Try.func28, Try.ntmps28
            go_wp2_with (first | (go_at_call 52; refine H1.out.mono ?_; clear H1; rintro e w1 ⟨rfl, hb1⟩) | (go_at_call 60; refine (HQ2.out _).mono ?_; rintro e w9 ⟨rfl, rfl⟩) | (go_at_call 64; refine (HBK.out _ hb1).mono ?_; clear HBK; rintro e w3 ⟨rfl, hb3⟩))
            go_ret
            exact ⟨iend HR.out.symm, hb3⟩
        · have gm : ((m : Int) == 0) = false := by simp; omega
          have HR : Hid (checkQueuesOf o q l b = 10) := by rw [Hid, HR0.out, if_neg (by rintro (h | h) <;> omega)]
          clear hbl hll
          go_enter Try.func28, Try.ntmps28
          go_wp2_with (first | (go_at_call 52; refine H1.out.mono ?_; clear H1; rintro e w1 ⟨rfl, hb1⟩) | (go_at_call 60; refine (HQ2.out _).mono ?_; rintro e w9 ⟨rfl, rfl⟩))
          go_ret
          exact ⟨iend HR.out.symm, hb1⟩
end Go.Proofs.Ytmnnehpoaedifaa
/- The law ShuntQueues, from what the program's functions promise. -/
namespace Go.Proofs.Ytmnnehpoaedifaa
open Go.RowKit

theorem queues_bad (hA : AwakeOk) (hQ : QueuesOk) (hM : LeastOk) (hC : CheckQueuesOk) (A : Option Addr) (n c : Nat) (zs : List Int) (k : Int) (w : World) (hs : Sl w A n c zs) (m : Nat) (o : List Int) (hm : m = min n 61) (hoe : o = zs.take 61) (hlen : o.length = m) (hm61 : m ≤ 61)
    (hbe : false = ordB o 60) :
    Calls Try.prog 5 #[.slice A n c, .int .i64 k] w fun e w' => e = .returned (.bool true) ∧ Below w.heap.size w w' := by
  have HA := Lib.hid hA; clear hA
  have HQ := Lib.hid hQ; clear hQ
  have HM := Lib.hid hM; clear hM
  have HC := Lib.hid hC; clear hC
  have HL := Lib.hid (list_sl A n c zs w hs m o hm hoe); clear hs hm hoe
  have HNOT : Hid (¬ (ordB o 60 = true ∧ 1 ≤ k ∧ k ≤ 60)) := fun h => by rw [← hbe] at h; exact absurd h.1 (by decide)
  have HBE := Lib.hid hbe; clear hbe
  go_enter Try.func5, Try.ntmps5
  go_wp2_with (go_at_call 18; refine HL.out.mono ?_; rintro e w1 ⟨B, d, rfl, hsl, hb1⟩)
  go_wp2_with (go_at_call 26; refine (HQ.out B m d o k w1 hsl).mono ?_; rintro e w2 ⟨u, v, x, l, b, rfl, hou, hov, y1, y2, h1, z1, z2, hb2⟩; clear y1 y2 z1 z2; obtain ⟨rfl, rfl, rfl⟩ := h1 HNOT.out; clear h1; obtain ⟨U, u', rfl, hu2⟩ := hou.sl_len (n := 0) rfl (by omega); obtain ⟨V, v', rfl, hv2⟩ := hov.sl_len (n := 0) rfl (by omega))
  have hsl2 := hsl.below hb2 (Nat.le_refl _)
  go_wp2_with (go_at_call 27; refine (HM.out B m d o w2 hsl2).mono ?_; rintro e w3 ⟨t', y, rfl, h1, z1, hb3⟩; clear z1; obtain ⟨rfl, rfl⟩ := h1 HBE.out.symm; clear h1)
  have hsl3 := hsl2.below hb3 (Nat.le_refl _)
  have hu3 := hu2.below hb3 (Nat.le_refl _)
  have hv3 := hv2.below hb3 (Nat.le_refl _)
  have HO := Lib.hid (order_sl B m d o w3 hsl3 (by omega) false HBE.out)
  go_wp2_with (go_at_call 20; refine HO.out.mono ?_; rintro e w4 ⟨rfl, hb4⟩)
  have hsl4 := hsl3.below hb4 (Nat.le_refl _)
  have hu4 := hu3.below hb4 (Nat.le_refl _)
  have hv4 := hv3.below hb4 (Nat.le_refl _)
  have HK : Hid (Calls Try.prog 28 #[.slice B m d, .int .i64 k, .slice U 0 u', .slice V 0 v'] w4 fun e w' => e = .returned (.int .i64 2) ∧ Below w4.heap.size w4 w') := by
    have h := HC.out B U V m d 0 u' 0 v' o [] [] k w4 hsl4 hu4 hv4 (by omega) (by omega)
    rw [show checkQueuesOf o k [] [] = 2 from by unfold checkQueuesOf; rw [if_neg HNOT.out]] at h
    exact h
  go_wp2_with (first | (go_at_call 28; refine HK.out.mono ?_; rintro e w5 ⟨rfl, hb5⟩) | (go_at_call 22; refine (HA.out _).mono ?_; rintro e w6 ⟨rfl, hb6⟩))
  go_ret
  exact ⟨rfl, ((((Kp.call hb1 hb2).call hb3).call hb4).call hb5).call hb6⟩
theorem queues_low (hA : AwakeOk) (hQ : QueuesOk) (hM : LeastOk) (hC : CheckQueuesOk) (A : Option Addr) (n c : Nat) (zs : List Int) (k : Int) (w : World) (hs : Sl w A n c zs) (m : Nat) (o : List Int) (hm : m = min n 61) (hoe : o = zs.take 61) (hlen : o.length = m) (hm61 : m ≤ 61)
    (hbe : true = ordB o 60) (hk : k < 1) (t : Int) (ht : leastOf o = t) :
    Calls Try.prog 5 #[.slice A n c, .int .i64 k] w fun e w' => e = .returned (.bool true) ∧ Below w.heap.size w w' := by
  have HA := Lib.hid hA; clear hA
  have HQ := Lib.hid hQ; clear hQ
  have HM := Lib.hid hM; clear hM
  have HC := Lib.hid hC; clear hC
  have HL := Lib.hid (list_sl A n c zs w hs m o hm hoe); clear hs hm hoe
  have HNOT : Hid (¬ (ordB o 60 = true ∧ 1 ≤ k ∧ k ≤ 60)) := fun h => by omega
  have HBE := Lib.hid hbe; clear hbe
  have HT := Lib.hid ht; clear ht
  go_enter Try.func5, Try.ntmps5
  go_wp2_with (go_at_call 18; refine HL.out.mono ?_; rintro e w1 ⟨B, d, rfl, hsl, hb1⟩)
  go_wp2_with (go_at_call 26; refine (HQ.out B m d o k w1 hsl).mono ?_; rintro e w2 ⟨u, v, x, l, b, rfl, hou, hov, y1, y2, h1, z1, z2, hb2⟩; clear y1 y2 z1 z2; obtain ⟨rfl, rfl, rfl⟩ := h1 HNOT.out; clear h1; obtain ⟨U, u', rfl, hu2⟩ := hou.sl_len (n := 0) rfl (by omega); obtain ⟨V, v', rfl, hv2⟩ := hov.sl_len (n := 0) rfl (by omega))
  have hsl2 := hsl.below hb2 (Nat.le_refl _)
  go_wp2_with (go_at_call 27; refine (HM.out B m d o w2 hsl2).mono ?_; rintro e w3 ⟨t', y, rfl, z1, h1, hb3⟩; clear z1; obtain ⟨rfl, rfl⟩ := h1 HBE.out.symm; clear h1; rw [HT.out])
  have hsl3 := hsl2.below hb3 (Nat.le_refl _)
  have hu3 := hu2.below hb3 (Nat.le_refl _)
  have hv3 := hv2.below hb3 (Nat.le_refl _)
  have HO := Lib.hid (order_sl B m d o w3 hsl3 (by omega) true HBE.out)
  go_wp2_with (go_at_call 20; refine HO.out.mono ?_; rintro e w4 ⟨rfl, hb4⟩)
  have hsl4 := hsl3.below hb4 (Nat.le_refl _)
  have hu4 := hu3.below hb4 (Nat.le_refl _)
  have hv4 := hv3.below hb4 (Nat.le_refl _)
  have HRL := Lib.hid (least_any B m d o w4 hsl4 (by omega))
  rw [HT.out] at HRL
  go_wp2_with (go_at_call 29; refine HRL.out.mono ?_; rintro e w5 ⟨rfl, hb5⟩)
  have hsl5 := hsl4.below hb5 (Nat.le_refl _)
  have hu5 := hu4.below hb5 (Nat.le_refl _)
  have hv5 := hv4.below hb5 (Nat.le_refl _)
  have HK : Hid (Calls Try.prog 28 #[.slice B m d, .int .i64 k, .slice U 0 u', .slice V 0 v'] w5 fun e w' => e = .returned (.int .i64 2) ∧ Below w5.heap.size w5 w') := by
    have h := HC.out B U V m d 0 u' 0 v' o [] [] k w5 hsl5 hu5 hv5 (by omega) (by omega)
    rw [show checkQueuesOf o k [] [] = 2 from by unfold checkQueuesOf; rw [if_neg HNOT.out]] at h
    exact h
  go_wp2_with (first | (go_at_call 28; refine HK.out.mono ?_; rintro e w6 ⟨rfl, hb6⟩) | (go_at_call 22; refine (HA.out _).mono ?_; rintro e w7 ⟨rfl, hb7⟩))
  go_ret
  exact ⟨rfl, (((((Kp.call hb1 hb2).call hb3).call hb4).call hb5).call hb6).call hb7⟩
theorem queues_high (hA : AwakeOk) (hQ : QueuesOk) (hM : LeastOk) (hC : CheckQueuesOk) (A : Option Addr) (n c : Nat) (zs : List Int) (k : Int) (w : World) (hs : Sl w A n c zs) (m : Nat) (o : List Int) (hm : m = min n 61) (hoe : o = zs.take 61) (hlen : o.length = m) (hm61 : m ≤ 61)
    (hbe : true = ordB o 60) (hk0 : ¬ k < 1) (hk : 60 < k) (t : Int) (ht : leastOf o = t) :
    Calls Try.prog 5 #[.slice A n c, .int .i64 k] w fun e w' => e = .returned (.bool true) ∧ Below w.heap.size w w' := by
  have HA := Lib.hid hA; clear hA
  have HQ := Lib.hid hQ; clear hQ
  have HM := Lib.hid hM; clear hM
  have HC := Lib.hid hC; clear hC
  have HL := Lib.hid (list_sl A n c zs w hs m o hm hoe); clear hs hm hoe
  have HNOT : Hid (¬ (ordB o 60 = true ∧ 1 ≤ k ∧ k ≤ 60)) := fun h => by omega
  have HBE := Lib.hid hbe; clear hbe
  have HT := Lib.hid ht; clear ht
  go_enter Try.func5, Try.ntmps5
  go_wp2_with (go_at_call 18; refine HL.out.mono ?_; rintro e w1 ⟨B, d, rfl, hsl, hb1⟩)
  go_wp2_with (go_at_call 26; refine (HQ.out B m d o k w1 hsl).mono ?_; rintro e w2 ⟨u, v, x, l, b, rfl, hou, hov, y1, y2, h1, z1, z2, hb2⟩; clear y1 y2 z1 z2; obtain ⟨rfl, rfl, rfl⟩ := h1 HNOT.out; clear h1; obtain ⟨U, u', rfl, hu2⟩ := hou.sl_len (n := 0) rfl (by omega); obtain ⟨V, v', rfl, hv2⟩ := hov.sl_len (n := 0) rfl (by omega))
  have hsl2 := hsl.below hb2 (Nat.le_refl _)
  go_wp2_with (go_at_call 27; refine (HM.out B m d o w2 hsl2).mono ?_; rintro e w3 ⟨t', y, rfl, z1, h1, hb3⟩; clear z1; obtain ⟨rfl, rfl⟩ := h1 HBE.out.symm; clear h1; rw [HT.out])
  have hsl3 := hsl2.below hb3 (Nat.le_refl _)
  have hu3 := hu2.below hb3 (Nat.le_refl _)
  have hv3 := hv2.below hb3 (Nat.le_refl _)
  have HO := Lib.hid (order_sl B m d o w3 hsl3 (by omega) true HBE.out)
  go_wp2_with (go_at_call 20; refine HO.out.mono ?_; rintro e w4 ⟨rfl, hb4⟩)
  have hsl4 := hsl3.below hb4 (Nat.le_refl _)
  have hu4 := hu3.below hb4 (Nat.le_refl _)
  have hv4 := hv3.below hb4 (Nat.le_refl _)
  have HRL := Lib.hid (least_any B m d o w4 hsl4 (by omega))
  rw [HT.out] at HRL
  go_wp2_with (go_at_call 29; refine HRL.out.mono ?_; rintro e w5 ⟨rfl, hb5⟩)
  have hsl5 := hsl4.below hb5 (Nat.le_refl _)
  have hu5 := hu4.below hb5 (Nat.le_refl _)
  have hv5 := hv4.below hb5 (Nat.le_refl _)
  have HK : Hid (Calls Try.prog 28 #[.slice B m d, .int .i64 k, .slice U 0 u', .slice V 0 v'] w5 fun e w' => e = .returned (.int .i64 2) ∧ Below w5.heap.size w5 w') := by
    have h := HC.out B U V m d 0 u' 0 v' o [] [] k w5 hsl5 hu5 hv5 (by omega) (by omega)
    rw [show checkQueuesOf o k [] [] = 2 from by unfold checkQueuesOf; rw [if_neg HNOT.out]] at h
    exact h
  go_wp2_with (first | (go_at_call 28; refine HK.out.mono ?_; rintro e w6 ⟨rfl, hb6⟩) | (go_at_call 22; refine (HA.out _).mono ?_; rintro e w7 ⟨rfl, hb7⟩))
  go_ret
  exact ⟨rfl, (((((Kp.call hb1 hb2).call hb3).call hb4).call hb5).call hb6).call hb7⟩
theorem queues_yes (hA : AwakeOk) (hQ : QueuesOk) (hM : LeastOk) (hC : CheckQueuesOk) (A : Option Addr) (n c : Nat) (zs : List Int) (k : Int) (w : World) (hs : Sl w A n c zs) (m : Nat) (o : List Int) (hm : m = min n 61) (hoe : o = zs.take 61) (hlen : o.length = m) (hm61 : m ≤ 61)
    (hbe : true = ordB o 60) (k1 : 1 ≤ k) (k2 : k ≤ 60) (t : Int) (ht : leastOf o = t) (hk : t ≤ k) :
    Calls Try.prog 5 #[.slice A n c, .int .i64 k] w fun e w' => e = .returned (.bool true) ∧ Below w.heap.size w w' := by
  have HA := Lib.hid hA; clear hA
  have HQ := Lib.hid hQ; clear hQ
  have HM := Lib.hid hM; clear hM
  have HC := Lib.hid hC; clear hC
  have HL := Lib.hid (list_sl A n c zs w hs m o hm hoe); clear hs hm hoe
  have k3 : ¬ k < 1 := by omega
  have k4 : ¬ 60 < k := by omega
  have HBE := Lib.hid hbe; clear hbe
  have HT := Lib.hid ht; clear ht
  go_enter Try.func5, Try.ntmps5
  go_wp2_with (go_at_call 18; refine HL.out.mono ?_; rintro e w1 ⟨B, d, rfl, hsl, hb1⟩)
  go_wp2_with (go_at_call 26; refine (HQ.out B m d o k w1 hsl).mono ?_; rintro e w2 ⟨u, v, x, l, b, rfl, hou, hov, y1, y2, z1, h1, z2, hb2⟩; clear y2 z1 z2; obtain ⟨hp, rfl, rfl⟩ := h1 HBE.out.symm k1 k2 (by rw [HT.out]; exact hk); clear h1; have HP := Lib.hid hp; clear hp; obtain ⟨q, hq⟩ : ∃ q, l.length = q := ⟨_, rfl⟩; obtain ⟨U, u', rfl, hu2⟩ := hou.sl_len hq (by omega); obtain ⟨V, v', rfl, hv2⟩ := hov.sl_len (n := 0) rfl (by omega); rw [hq] at y1; clear hq)
  have hsl2 := hsl.below hb2 (Nat.le_refl _)
  go_wp2_with (go_at_call 27; refine (HM.out B m d o w2 hsl2).mono ?_; rintro e w3 ⟨t', y, rfl, z1, h1, hb3⟩; clear z1; obtain ⟨rfl, rfl⟩ := h1 HBE.out.symm; clear h1; rw [HT.out])
  have hsl3 := hsl2.below hb3 (Nat.le_refl _)
  have hu3 := hu2.below hb3 (Nat.le_refl _)
  have hv3 := hv2.below hb3 (Nat.le_refl _)
  have HO := Lib.hid (order_sl B m d o w3 hsl3 (by omega) true HBE.out)
  go_wp2_with (go_at_call 20; refine HO.out.mono ?_; rintro e w4 ⟨rfl, hb4⟩)
  have hsl4 := hsl3.below hb4 (Nat.le_refl _)
  have hu4 := hu3.below hb4 (Nat.le_refl _)
  have hv4 := hv3.below hb4 (Nat.le_refl _)
  have HRL := Lib.hid (least_any B m d o w4 hsl4 (by omega))
  rw [HT.out] at HRL
  go_wp2_with (go_at_call 29; refine HRL.out.mono ?_; rintro e w5 ⟨rfl, hb5⟩)
  have hsl5 := hsl4.below hb5 (Nat.le_refl _)
  have hu5 := hu4.below hb5 (Nat.le_refl _)
  have hv5 := hv4.below hb5 (Nat.le_refl _)
  have HK : Hid (Calls Try.prog 28 #[.slice B m d, .int .i64 k, .slice U q u', .slice V 0 v'] w5 fun e w' => e = .returned (.int .i64 0) ∧ Below w5.heap.size w5 w') := by
    have h := HC.out B U V m d q u' 0 v' o l [] k w5 hsl5 hu5 hv5 (by omega) (by omega)
    rw [show checkQueuesOf o k l [] = 0 from by unfold checkQueuesOf; rw [if_pos ⟨HBE.out.symm, k1, k2⟩, if_pos (.inl ⟨HP.out, rfl⟩)]] at h
    exact h
  go_wp2_with (go_at_call 28; refine HK.out.mono ?_; rintro e w6 ⟨rfl, hb6⟩)
  have hsl6 := hsl5.below hb6 (Nat.le_refl _)
  have hu6 := hu5.below hb6 (Nat.le_refl _)
  have HLS := Lib.hid (lanesSort_any B U m d q u' o l k w6 hsl6 hu6 (by omega) (by omega))
  rw [HP.out] at HLS
  go_wp2_with (first | (go_at_call 30; refine HLS.out.mono ?_; rintro e w7 ⟨rfl, hd7⟩) | (go_at_call 22; refine (HA.out _).mono ?_; rintro e w8 ⟨rfl, hb8⟩))
  go_ret
  exact ⟨rfl, ((((((Kp.call hb1 hb2).call hb3).call hb4).call hb5).call hb6).call (hd7.below _)).call hb8⟩
theorem queues_few (hA : AwakeOk) (hQ : QueuesOk) (hM : LeastOk) (hC : CheckQueuesOk) (A : Option Addr) (n c : Nat) (zs : List Int) (k : Int) (w : World) (hs : Sl w A n c zs) (m : Nat) (o : List Int) (hm : m = min n 61) (hoe : o = zs.take 61) (hlen : o.length = m) (hm61 : m ≤ 61)
    (hbe : true = ordB o 60) (k1 : 1 ≤ k) (k2 : k ≤ 60) (t : Int) (ht : leastOf o = t) (hk : k < t) :
    Calls Try.prog 5 #[.slice A n c, .int .i64 k] w fun e w' => e = .returned (.bool true) ∧ Below w.heap.size w w' := by
  have HA := Lib.hid hA; clear hA
  have HQ := Lib.hid hQ; clear hQ
  have HM := Lib.hid hM; clear hM
  have HC := Lib.hid hC; clear hC
  have HL := Lib.hid (list_sl A n c zs w hs m o hm hoe); clear hs hm hoe
  have HN : Hid (0 < o.length) := by
    rw [Hid]
    rcases Nat.eq_zero_or_pos o.length with h | h
    · rw [List.eq_nil_of_length_eq_zero h] at ht; have : (1 : Int) = t := ht; omega
    · exact h
  have k3 : ¬ k < 1 := by omega
  have k4 : ¬ 60 < k := by omega
  have HBE := Lib.hid hbe; clear hbe
  have HT := Lib.hid ht; clear ht
  go_enter Try.func5, Try.ntmps5
  go_wp2_with (go_at_call 18; refine HL.out.mono ?_; rintro e w1 ⟨B, d, rfl, hsl, hb1⟩)
  go_wp2_with (go_at_call 26; refine (HQ.out B m d o k w1 hsl).mono ?_; rintro e w2 ⟨u, v, x, l, b, rfl, hou, hov, y1, y2, z1, z2, h1, hb2⟩; clear y1 z1 z2; obtain ⟨rfl, hp, rfl⟩ := h1 HBE.out.symm k1 k2 (by rw [HT.out]; exact hk); clear h1; have HP := Lib.hid hp; clear hp; obtain ⟨q, hq⟩ : ∃ q, b.length = q := ⟨_, rfl⟩; obtain ⟨V, v', rfl, hv2⟩ := hov.sl_len hq (by omega); obtain ⟨U, u', rfl, hu2⟩ := hou.sl_len (n := 0) rfl (by omega); rw [hq] at y2; clear hq)
  have hsl2 := hsl.below hb2 (Nat.le_refl _)
  go_wp2_with (go_at_call 27; refine (HM.out B m d o w2 hsl2).mono ?_; rintro e w3 ⟨t', y, rfl, z1, h1, hb3⟩; clear z1; obtain ⟨rfl, rfl⟩ := h1 HBE.out.symm; clear h1; rw [HT.out])
  have hsl3 := hsl2.below hb3 (Nat.le_refl _)
  have hu3 := hu2.below hb3 (Nat.le_refl _)
  have hv3 := hv2.below hb3 (Nat.le_refl _)
  have HO := Lib.hid (order_sl B m d o w3 hsl3 (by omega) true HBE.out)
  go_wp2_with (go_at_call 20; refine HO.out.mono ?_; rintro e w4 ⟨rfl, hb4⟩)
  have hsl4 := hsl3.below hb4 (Nat.le_refl _)
  have hu4 := hu3.below hb4 (Nat.le_refl _)
  have hv4 := hv3.below hb4 (Nat.le_refl _)
  have HRL := Lib.hid (least_any B m d o w4 hsl4 (by omega))
  rw [HT.out] at HRL
  go_wp2_with (go_at_call 29; refine HRL.out.mono ?_; rintro e w5 ⟨rfl, hb5⟩)
  have hsl5 := hsl4.below hb5 (Nat.le_refl _)
  have hu5 := hu4.below hb5 (Nat.le_refl _)
  have hv5 := hv4.below hb5 (Nat.le_refl _)
  have HK : Hid (Calls Try.prog 28 #[.slice B m d, .int .i64 k, .slice U 0 u', .slice V q v'] w5 fun e w' => e = .returned (.int .i64 0) ∧ Below w5.heap.size w5 w') := by
    have h := HC.out B U V m d 0 u' q v' o [] b k w5 hsl5 hu5 hv5 (by omega) (by omega)
    rw [show checkQueuesOf o k [] b = 0 from by unfold checkQueuesOf; rw [if_pos ⟨HBE.out.symm, k1, k2⟩, if_pos (.inr ⟨rfl, HN.out, HP.out⟩)]] at h
    exact h
  go_wp2_with (go_at_call 28; refine HK.out.mono ?_; rintro e w6 ⟨rfl, hb6⟩)
  have hsl6 := hsl5.below hb6 (Nat.le_refl _)
  have hv6 := hv5.below hb6 (Nat.le_refl _)
  have HQB := Lib.hid (queuesBlock_any B V m d q v' o b k w6 hsl6 hv6 (by omega) (by omega) (by omega) (by omega))
  rw [HP.out] at HQB
  have hk' : ¬ t ≤ k := by omega
  go_wp2_with (first | (go_at_call 31; refine HQB.out.mono ?_; rintro e w7 ⟨rfl, hd7⟩) | (go_at_call 22; refine (HA.out _).mono ?_; rintro e w8 ⟨rfl, hb8⟩))
  go_ret
  exact ⟨rfl, ((((((Kp.call hb1 hb2).call hb3).call hb4).call hb5).call hb6).call (hd7.below _)).call hb8⟩
theorem queues_law (hA : AwakeOk) (hQ : QueuesOk) (hM : LeastOk) (hC : CheckQueuesOk) (A : Option Addr) (n c : Nat) (zs : List Int) (k : Int) (w : World) (hs : Sl w A n c zs) :
    Calls Try.prog 5 #[.slice A n c, .int .i64 k] w fun e w' => e = .returned (.bool true) ∧ Below w.heap.size w w' := by
  obtain ⟨m, o, hm, hoe, hlen, h61⟩ := list_has hs
  cases hb : ordB o 60 with
  | false => exact queues_bad hA hQ hM hC A n c zs k w hs m o hm hoe hlen h61 hb.symm
  | true =>
    by_cases k1 : k < 1
    · exact queues_low hA hQ hM hC A n c zs k w hs m o hm hoe hlen h61 hb.symm k1 _ rfl
    · by_cases k2 : 60 < k
      · exact queues_high hA hQ hM hC A n c zs k w hs m o hm hoe hlen h61 hb.symm k1 k2 _ rfl
      · by_cases h : leastOf o ≤ k
        · exact queues_yes hA hQ hM hC A n c zs k w hs m o hm hoe hlen h61 hb.symm (by omega) (by omega) _ rfl h
        · exact queues_few hA hQ hM hC A n c zs k w hs m o hm hoe hlen h61 hb.symm (by omega) (by omega) _ rfl (by omega)
end Go.Proofs.Ytmnnehpoaedifaa
