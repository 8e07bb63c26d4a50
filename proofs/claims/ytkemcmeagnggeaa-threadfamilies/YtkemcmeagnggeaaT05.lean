import Derived.Test.YtkemcmeagnggeaaT04
import Derived.Test.YtkemcmeagnggeaaT00
import Derived.Deep.WholeRow
/- Layer 3: the program's hasOnly, isWord, isLetters. -/
namespace Go.Proofs.Ytkemcmeagnggeaa
open Go.RowKit
set_option linter.unusedVariables false

set_option maxHeartbeats 800000 in
theorem hasOnly_any (s : ByteArray) (k : Nat) (w : World) (hk : k ≤ 4) (hs : s.size ≤ 1099511627776) :
    Calls Try.prog 57 #[.string s, .int .i64 (k : Int)] w fun e w' => e = .returned (.bool (lettersB (bs s) k)) ∧ Dr w w' := by
  have HBY := Lib.hid (fun W => byteOf_any k W (by omega))
  go_enter Try.func57, Try.ntmps57
  go_wp2
  go_loopw [5, 8, 9, 10, 11, 12, 13, 14, 15, 16, 17, 18, 19, 20, 21, 22, 23] (fun _ i _ _ _ _ _ _ _ _ _ _ _ _ _ _ _ w' => ∃ j : Nat, j ≤ s.size ∧ i = .int .i64 (j : Int) ∧ Hid (∀ t, t < j → letB (bs s) k t = true) ∧ Dr w w') (fun _ i _ _ _ _ _ _ _ _ _ _ _ _ _ _ _ _ => s.size - (intOf i).toNat)
  case atStart => exact ⟨0, by omega, by go_num, fun t ht => absurd ht (by omega), Dr.refl _⟩
  case round =>
    obtain ⟨j, hj, rfl, HOK, HD⟩ := hrel
    by_cases hlt : j < s.size
    · have HB := Lib.hid (bs_at s j hlt)
      have hb0 : s[j].toNat < 256 := s[j].toNat_lt
      have HL : Hid (letB (bs s) k j = (decide (97 ≤ (s[j].toNat : Int)) && decide ((s[j].toNat : Int) - 97 < k))) := by
        unfold letB; rw [Hid, HB.out]
      obtain ⟨x, hx⟩ : ∃ x, x = s[j].toNat := ⟨_, rfl⟩
      rw [← hx] at hb0 HL
      have hx' := hx.symm
      clear hx
      by_cases h1 : (x : Int) < 97
      · have g1 : decide ((x : Int) < 97) = true := by simpa using h1
        have HR : Hid (false = lettersB (bs s) k) := allB_bad (k := j) (by rw [bs_len]; exact hlt) (by rw [HL.out, decide_eq_false (by omega)]; rfl)
        go_wp2
        go_quiet ((go_at_call 53; exact quiet_same (HBY.out _)))
        go_wp2
        go_ret
        exact ⟨bend HR.out, HD.more _⟩
      · have g1 : decide ((x : Int) < 97) = false := decide_eq_false h1
        by_cases h2 : 97 + (k : Int) ≤ (x : Int)
        · have g2 : decide (97 + (k : Int) ≤ (x : Int)) = true := decide_eq_true h2
          have HR : Hid (false = lettersB (bs s) k) := allB_bad (k := j) (by rw [bs_len]; exact hlt) (by rw [HL.out, decide_eq_false (p := _ < (k : Int)) (by omega), Bool.and_false])
          go_wp2
          go_quiet ((go_at_call 53; exact quiet_same (HBY.out _)))
          go_wp2
          go_ret
          exact ⟨bend HR.out, HD.more _⟩
        · have g2 : decide (97 + (k : Int) ≤ (x : Int)) = false := decide_eq_false h2
          have HN : Hid (∀ t, t < j + 1 → letB (bs s) k t = true) := ok_step HOK.out (by rw [HL.out, decide_eq_true (by omega), decide_eq_true (p := _ < (k : Int)) (by omega)]; rfl)
          go_wp2
          go_quiet ((go_at_call 53; exact quiet_same (HBY.out _)))
          go_wp2
          go_roundw
          case rel => exact ⟨j + 1, by omega, by go_num, HN, HD.more _⟩
          case measure => simp [intOf]; omega
    · have HR : Hid (true = lettersB (bs s) k) := by
        obtain rfl : j = s.size := by omega
        unfold lettersB; rw [Hid, bs_len]; exact allB_good HOK.out
      go_wp2
      go_ret
      exact ⟨bend HR.out, HD⟩

theorem isWord_any (s : ByteArray) (w : World) (hs : s.size ≤ 1099511627776) :
    Calls Try.prog 48 #[.string s] w fun e w' => e = .returned (.bool (wordB (bs s))) ∧ Dr w w' := by
  have HL := Lib.hid (fun W => hasOnly_any s 4 W (by omega) hs)
  have HW : Hid (wordB (bs s) = (decide (s.size ≤ 60) && lettersB (bs s) 4)) := by unfold wordB; rw [Hid, bs_len]
  by_cases h : s.size ≤ 60
  · have HR : Hid (lettersB (bs s) 4 = wordB (bs s)) := by rw [Hid, HW.out, decide_eq_true h]; simp
    go_enter Try.func48, Try.ntmps48
    go_wp2_with (go_at_call 57; refine (HL.out _).mono ?_; rintro e w1 ⟨rfl, hd⟩)
    go_ret
    exact ⟨bend HR.out, hd⟩
  · have HR : Hid (false = wordB (bs s)) := by rw [Hid, HW.out, decide_eq_false h]; rfl
    go_enter Try.func48, Try.ntmps48
    go_wp2
    go_ret
    exact ⟨bend HR.out, Dr.refl _⟩

def lettersK (k : Int) : Bool := decide (1 ≤ k) && decide (k ≤ 4)
theorem isLetters_any (k : Int) (w : World) : Calls Try.prog 56 #[.int .i64 k] w fun e w' => e = .returned (.bool (lettersK k)) ∧ w = w' := by
  by_cases h1 : 1 ≤ k
  · by_cases h2 : k ≤ 4
    · have HR : Hid (true = lettersK k) := by unfold lettersK; rw [Hid, decide_eq_true h1, decide_eq_true h2]; rfl
      go_enter Try.func56, Try.ntmps56
      go_wp2
      go_ret
      exact ⟨bend (by rw [← HR.out]), rfl⟩
    · have HR : Hid (false = lettersK k) := by unfold lettersK; rw [Hid, decide_eq_false h2, Bool.and_false]
      go_enter Try.func56, Try.ntmps56
      go_wp2
      go_ret
      exact ⟨bend (by rw [← HR.out]), rfl⟩
  · have HR : Hid (false = lettersK k) := by unfold lettersK; rw [Hid, decide_eq_false h1]; rfl
    go_enter Try.func56, Try.ntmps56
    go_wp2
    go_ret
    exact ⟨bend (by rw [← HR.out]), rfl⟩
end Go.Proofs.Ytkemcmeagnggeaa
/- Layer 3: the program's countsOf. -/
namespace Go.Proofs.Ytkemcmeagnggeaa
open Go.RowKit
set_option linter.unusedVariables false

def cntG (w : List Int) (i : Nat) : Int := if i ≤ w.length then cntF w i else 0
def cntP (w : List Int) (q i : Nat) : Int := if q ≤ i ∧ i ≤ w.length then cntF w i else 0
theorem cntP_end (w : List Int) (i : Nat) : cntP w 0 i = cntG w i := by
  unfold cntP cntG
  by_cases h : i ≤ w.length
  · rw [if_pos ⟨Nat.zero_le _, h⟩, if_pos h]
  · rw [if_neg (fun e => h e.2), if_neg h]
theorem cntP_start (w : List Int) (i : Nat) : (0 : Int) = cntP w (w.length + 1) i := by
  unfold cntP
  rw [if_neg (by omega)]
theorem sumC_zero (w : List Int) (i : Nat) : sumC w i 0 = 1 := rfl
theorem cntP_next {w : List Int} {q : Nat} (hq : q ≤ w.length) (i : Nat) : upd (cntP w (q + 1)) q (sumC w q 4) i = cntP w q i := by
  unfold upd cntP
  by_cases e : i = q
  · subst e; rw [if_pos rfl, if_pos ⟨Nat.le_refl _, hq⟩, cntF_sum w i hq]
  · rw [if_neg e]
    by_cases h : q + 1 ≤ i ∧ i ≤ w.length
    · rw [if_pos h, if_pos ⟨by omega, h.2⟩]
    · rw [if_neg h, if_neg (by omega)]
theorem sumC_next {w : List Int} {q m : Nat} (hq : q ≤ w.length) (hw : w.length ≤ 60) : ∃ k : Nat, stepF w q m = (k : Int) ∧ k < 62 ∧ k ≠ q ∧ sumC w q (m + 1) = sumC w q m + cntP w (q + 1) k := by
  have hs : sumC w q (m + 1) = sumC w q m + if nextF w q (97 + (m : Int)) < 0 then 0 else cntF w (nextF w q (97 + (m : Int))).toNat := rfl
  rcases stepF_rng (w := w) q m with ⟨h1, h2⟩ | ⟨h1, h2, h3⟩
  · refine ⟨61, h1, by omega, by omega, ?_⟩
    rw [hs, h2, if_pos (by omega)]
    unfold cntP
    rw [if_neg (by omega)]
  · obtain ⟨k, hk⟩ : ∃ k : Nat, stepF w q m = (k : Int) := ⟨(stepF w q m).toNat, by omega⟩
    rw [hk] at h1 h2 h3
    refine ⟨k, hk, by omega, by omega, ?_⟩
    rw [hs, h3, if_neg (by omega), Int.toNat_natCast]
    unfold cntP
    rw [if_pos (by omega)]
/-- The two rows of countsOf. -/
structure CtW (w w' : World) (f : Nat → Int) : Prop where
  row : Rw w' (w.heap.size + 1) 86 62 f
  res : Rw w' w.heap.size 86 62 (fun _ => 0)
  below : Below w.heap.size w w'
theorem CtW.put {w w' : World} {f : Nat → Int} (h : CtW w w' f) (i : Nat) (x : Int) : CtW w (w'.setCell ⟨w.heap.size + 1, i, none⟩ (.int .i64 x)) (upd f i x) :=
  ⟨h.row.set x, h.res.setOther (a := ⟨w.heap.size + 1, i, none⟩) (by simp) _, h.below.setCell (p := ⟨w.heap.size + 1, i, none⟩) (Nat.le_succ _) _⟩
theorem CtW.congr {w w' : World} {f g : Nat → Int} (h : CtW w w' f) (e : ∀ i, f i = g i) : CtW w w' g := ⟨h.row.congr fun i _ => e i, h.res, h.below⟩
theorem CtW.drewN {w w' : World} {f : Nat → Int} (h : CtW w w' f) (n : Nat) : CtW w (w'.drewN n) f := ⟨h.row, h.res, h.below.trans ⟨rfl, rfl, rfl, Nat.le_refl _, fun _ _ => rfl⟩⟩
theorem Try.sizeCounts : (Try.prog.info? 86).map (·.size) = some 62 := by kernel_rfl
theorem upd_upd (f : Nat → Int) (k : Nat) (x y : Int) (i : Nat) : upd (upd f k x) k y i = upd f k y i := by
  unfold upd
  by_cases e : i = k
  · rw [if_pos e, if_pos e]
  · rw [if_neg e, if_neg e, if_neg e]

theorem run_index_arr (W : World) (arr : Array Value) (m : Nat) (v : Value) (hm : m < 4) (h : arr[m]? = some v) :
    (Instr.index 70 (.agg arr) (.int .i64 (m : Int))).run Try.prog W = .ok v W := by
  have hu := Try.underlying70
  have hi := Try.infoInt
  obtain ⟨i0, hi, hz0, hz1, hz2⟩ := info_parts hi
  have hs : (sizeOf 3).run Try.prog W = .ok 1 W := by
    simp [sizeOf, typeInfo, hi, hz1]
  have ha : (isAgg 3).run Try.prog W = .ok false W := by
    unfold isAgg
    rw [Sem.run_bind, run_underlying Try.underlying3 W]
    rfl
  simp [Instr.index, asIntOf, Sem.run_bind, run_underlying hu W, hm, part, hs, h]
set_option maxRecDepth 100000 in
set_option maxHeartbeats 800000 in
theorem countsOf_any (s : ByteArray) (b t : Nat) (w : World) (hs : s.size ≤ 60) (hr : Rw w b t 248 (stepG (bs s))) :
    Calls Try.prog 55 #[.string s, .pointer (some ⟨b, 0, none⟩)] w fun e w' => e = .returned (.agg (rowV 62 (cntG (bs s)))) ∧ Below w.heap.size w w' := by
  have hbl := hr.lt
  have HR := Lib.hid hr; clear hr
  have HSL := Lib.hid (bs_len s)
  go_enter Try.func55, Try.ntmps55
  go_wp2_with (refine wpList_alloc_row (by rfl) 86 (by rfl) _ Try.zeroCounts ?_)
  go_loopw [6, 8, 11, 12, 13, 14, 15, 16, 17, 18, 19, 20, 21, 22, 23, 24, 25, 26, 27, 28, 29, 30, 31, 32, 33] (fun p _ _ _ _ _ _ _ _ _ _ _ _ _ _ _ _ _ _ _ _ _ _ _ _ w' => ∃ q : Nat, q ≤ s.size + 1 ∧ p = .int .i64 ((q : Int) - 1) ∧ Hid (CtW w w' (cntP (bs s) q))) (fun p _ _ _ _ _ _ _ _ _ _ _ _ _ _ _ _ _ _ _ _ _ _ _ _ _ => (intOf p + 1).toNat)
  case atStart =>
    refine ⟨s.size + 1, Nat.le_refl _, by go_num, ?_⟩
    refine ⟨?_, (Rw.new w _ _ _).alloc _, ((Below.refl _ _).alloc (Nat.le_refl _) _).alloc (by simp) _⟩
    have h := Rw.new (w.alloc (.cells (rowV 62 fun _ => 0) 86)) 86 62 (fun _ => 0)
    rw [show (w.alloc (.cells (rowV 62 fun _ => 0) 86)).heap.size = w.heap.size + 1 from by simp] at h
    exact h.congr fun i hi => by rw [← HSL.out]; exact cntP_start _ i
  case round =>
    obtain ⟨q, hq, hp, HQ⟩ := hrel
    by_cases hpos : 0 < q
    · obtain ⟨q, rfl⟩ : ∃ m, q = m + 1 := ⟨q - 1, by omega⟩
      rw [show ((q + 1 : Nat) : Int) - 1 = (q : Int) from by omega] at hp
      subst hp
      have c0 := HQ.out.row.cell (i := q) (by omega)
      have f0 := HQ.out.row.free q
      have HQ1 : Hid (CtW w (wr.setCell ⟨w.heap.size + 1, q, none⟩ (.int .i64 1)) (upd (cntP (bs s) (q + 1)) q (sumC (bs s) q 0))) := HQ.out.put q 1
      have HRr := Lib.hid (HR.out.below HQ1.out.below hbl)
      have d0 := HRr.out.cell (i := q * 4) (by omega)
      have d1 := HRr.out.cell (i := q * 4 + 1) (by omega)
      have d2 := HRr.out.cell (i := q * 4 + 2) (by omega)
      have d3 := HRr.out.cell (i := q * 4 + 3) (by omega)
      go_wp2
      clear c0 f0 d0 d1 d2 d3
      obtain ⟨arr, harr⟩ : ∃ arr : Array Value, arr = #[.int .i64 (stepG (bs s) (q * 4)), .int .i64 (stepG (bs s) (q * 4 + 1)), .int .i64 (stepG (bs s) (q * 4 + 2)), .int .i64 (stepG (bs s) (q * 4 + 3))] := ⟨_, rfl⟩
      rw [← harr]
      have HAR : Hid (∀ m, m < 4 → arr[m]? = some (.int .i64 (stepF (bs s) q m))) := fun m hm => by
        rw [harr]
        have hg : ∀ m, m < 4 → stepG (bs s) (q * 4 + m) = stepF (bs s) q m := fun m hm => by
          unfold stepG
          rw [show (q * 4 + m) / 4 = q by omega, show (q * 4 + m) % 4 = m by omega]
        have h0 := hg 0 (by omega)
        rw [Nat.add_zero] at h0
        rw [h0, hg 1 (by omega), hg 2 (by omega), hg 3 (by omega)]
        rcases (by omega : m = 0 ∨ m = 1 ∨ m = 2 ∨ m = 3) with rfl | rfl | rfl | rfl <;> rfl
      clear harr
      generalize wr.setCell ⟨w.heap.size + 1, q, none⟩ (.int .i64 1) = W1 at HQ1 ⊢
      clear HRr HQ
      go_loopw [8, 22, 23, 24, 25, 26, 27, 28, 29, 30, 31, 32, 33] (fun _ j _ _ _ _ _ _ _ _ _ _ _ w' => ∃ m : Nat, m ≤ 4 ∧ j = .int .i64 (m : Int) ∧ Hid (CtW w w' (upd (cntP (bs s) (q + 1)) q (sumC (bs s) q m)))) (fun _ j _ _ _ _ _ _ _ _ _ _ _ _ => 4 - (intOf j).toNat)
      case atStart => exact ⟨0, by omega, rfl, HQ1⟩
      case round =>
        obtain ⟨m, hm, rfl, HM⟩ := hrel
        clear HQ1
        by_cases hm4 : m < 4
        · have hel := HAR.out m hm4
          obtain ⟨k, hk, hk62, hkq, hsum⟩ := sumC_next (w := bs s) (q := q) (m := m) (by rw [HSL.out]; omega) (by rw [HSL.out]; omega)
          rw [hk] at hel
          have hix := fun W => run_index_arr W arr m _ hm4 hel
          clear hel
          have hb1 := sumC_le4 (bs s) q (m + 1) (by omega) (by rw [HSL.out]; omega)
          have hb2 := cntF_bound (bs s) q (by rw [HSL.out]; omega) (by rw [HSL.out]; omega)
          have hb3 := sumC_pos (bs s) q m
          have hb4 : 0 ≤ cntP (bs s) (q + 1) k := by
            unfold cntP
            split
            · exact cntF_nonneg _ _
            · omega
          have hemq := HM.out.row.cell (i := q) (by omega)
          have hemk := HM.out.row.cell (i := k) hk62
          have hfq := HM.out.row.free q
          rw [upd_same] at hemq
          rw [upd_other _ _ hkq] at hemk
          have HNX : Hid (∀ W, CtW w W (upd (cntP (bs s) (q + 1)) q (sumC (bs s) q m)) → CtW w ((W.setCell ⟨w.heap.size + 1, q, none⟩ (.int .i64 (sumC (bs s) q m + cntP (bs s) (q + 1) k))).drewN 1) (upd (cntP (bs s) (q + 1)) q (sumC (bs s) q (m + 1)))) := fun W h => by
            have := h.put q (sumC (bs s) q m + cntP (bs s) (q + 1) k)
            rw [← hsum] at this ⊢
            exact (this.congr (upd_upd _ _ _ _)).drewN 1
          rw [hsum] at hb1
          clear hsum hk
          generalize sumC (bs s) q m = x at *
          generalize cntP (bs s) (q + 1) k = y at *
          have hk0 : (0 : Int) ≤ (k : Int) := by omega
          have hk1 : (k : Int) < 62 := by omega
          have hm0 : (0 : Int) ≤ (m : Int) := by omega
          have hq1 : (q : Int) < 62 := by omega
          go_wp2
          have hw1 : IntKind.i64.wrap (x + y) = x + y := IntWalk.i64_in _ (by omega)
          go_region
          clear hw1 hix
          go_wp2
          go_roundw
          case rel => exact ⟨m + 1, by omega, by go_num, HNX.out _ HM.out⟩
          case measure => (simp [intOf]; try omega)
        · obtain rfl : m = 4 := by omega
          have HN : Hid (CtW w wr (cntP (bs s) q)) := HM.out.congr fun i => cntP_next (by rw [HSL.out]; omega) i
          clear HM
          go_wp2
          go_roundw
          case rel => exact ⟨q, by omega, by go_num, HN⟩
          case measure => (simp [intOf]; try omega)
    · obtain rfl : q = 0 := by omega
      subst hp
      have HQ0 : Hid (CtW w wr (cntG (bs s))) := HQ.out.congr fun i => cntP_end _ i
      clear HQ
      have HR1 := Lib.hid HQ0.out.row
      have HR2 := Lib.hid HQ0.out.res
      have HBL := Lib.hid HQ0.out.below
      have HINF : Hid ((Try.prog.info? 86).map (·.size) = some (rowV 62 (cntG (bs s))).size) := by rw [Hid, rowV_size]; exact Try.sizeCounts
      have HZ : Hid ((rowV 62 fun _ => 0).size = (rowV 62 (cntG (bs s))).size) := by rw [Hid, rowV_size, rowV_size]
      have HONE := Lib.hid (rowV_one 62 (cntG (bs s)))
      clear HQ0
      go_wp2_with (first | (refine wpList_load_row (by rfl) 86 (.tmp 5) (by rfl) (w.heap.size + 1) (by rfl) 86 _ (0, 0) _ HR1.out Try.underlying86 (by rfl) HINF.out ?_) | (refine wpList_store_row (by rfl) 86 (.tmp 4) (.tmp 34) (by rfl) w.heap.size _ (by rfl) (by rfl) 86 _ HR2.out HINF.out HZ.out HONE.out ?_))
      refine bodyPost_ret (results_cell_row (by rfl) _ _ w.heap.size 86 _ (0, 0) _ (by rfl) (setRow_heap _ _ _ _ _ _ HR2.out) Try.underlying86 (by rfl) HINF.out) (by rfl) ⟨by rfl, ?_⟩
      exact ⟨HBL.out.os, HBL.out.tape, HBL.out.output, by simpa [World.setRow] using HBL.out.size, fun k hk => (setRow_other _ _ _ _ (by omega)).trans (HBL.out.block k hk)⟩
end Go.Proofs.Ytkemcmeagnggeaa
/- Layer 3: the program's Within, Count. -/
namespace Go.Proofs.Ytkemcmeagnggeaa
open Go.RowKit
set_option linter.unusedVariables false

theorem below_of_dr {B : Nat} {w w' : World} (h : Dr w w') : Below B w w' := by
  obtain ⟨n, rfl⟩ := h
  exact ⟨rfl, rfl, rfl, Nat.le_refl _, fun _ _ => rfl⟩
theorem Dr.size {w w' : World} (h : Dr w w') : w'.heap.size = w.heap.size := by obtain ⟨n, rfl⟩ := h; rfl
theorem below_more {B : Nat} {w w' : World} (h : Below B w w') (n : Nat) : Below B w (w'.drewN n) := ⟨h.os, h.tape, h.output, h.size, h.block⟩
theorem wpList_store_new {P : Program} {ops : Array Oper} {rest : List Oper} {o : Oper} {a : Act} {Q : Exit → Act → World → Prop} (hgd : o.guard = none) (ty : TypeId) (x y : Operand) (ho : o.op = .store ty x y)
    (w : World) (c c' : Array Value) (hx : a.eval x = .pointer (some ⟨w.heap.size, 0, none⟩)) (hy : a.eval y = .agg c') (hi : (P.info? ty).map (·.size) = some c'.size)
    (hold : c.size = c'.size) (h1 : c'.all (·.oneCell') = true)
    (h : wpList P ops Q rest (a.put o.dst undef) (w.alloc (.cells c' ty))) : wpList P ops Q (o :: rest) a (w.alloc (.cells c ty)) := by
  refine wpList_store_row hgd ty x y ho w.heap.size c' hx hy ty c (heap_alloc_last w _) hi hold h1 ?_
  rw [World.setRow_alloc_new]
  exact h
theorem Try.infSteps (f : Nat → Int) : (Try.prog.info? 72).map (·.size) = some (rowV 248 f).size := by rw [rowV_size]; exact Try.sizeSteps
theorem Try.infCounts (f : Nat → Int) : (Try.prog.info? 86).map (·.size) = some (rowV 62 f).size := by rw [rowV_size]; exact Try.sizeCounts
theorem rowV_same (n : Nat) (f g : Nat → Int) : (rowV n f).size = (rowV n g).size := by rw [rowV_size, rowV_size]
theorem isWord_is (s : ByteArray) (b : Bool) (w : World) (hs : s.size ≤ 1099511627776) (hb : wordB (bs s) = b) :
    Calls Try.prog 48 #[.string s] w fun e w' => e = .returned (.bool b) ∧ Dr w w' := by subst hb; exact isWord_any s w hs
/-- What stepsOf leaves in a local row. -/
structure StepsIn (w w' : World) (b : Nat) (f : Nat → Int) : Prop where
  row : Rw w' b 72 248 f
  low : w.heap.size ≤ b
  below : Below w.heap.size w w'
theorem StepsIn.of {w w1 w3 : World} {f : Nat → Int} (h1 : Dr w w1) (h3 : Below w1.heap.size w1 w3) : StepsIn w (w3.alloc (.cells (rowV 248 f) 72)) w3.heap.size f := by
  have hb : Below w.heap.size w w3 := by
    have := Below.trans (below_of_dr (B := w.heap.size) h1) (h3.mono (by rw [h1.size]; exact Nat.le_refl _))
    exact this
  exact ⟨Rw.new _ _ _ _, hb.size, hb.alloc hb.size _⟩
theorem letter_of {s : ByteArray} (hs : wordB (bs s) = true) {k : Nat} (hk : k < s.size) : ∃ c : Nat, c < 4 ∧ (bs s)[k]?.getD 0 = 97 + (c : Int) ∧ s[k].toNat = 97 + c := by
  unfold wordB at hs
  rw [Bool.and_eq_true] at hs
  have h := (lettersB_iff.1 hs.2) k (by rw [bs_len]; exact hk)
  have h2 := bs_at s k hk
  exact ⟨((bs s)[k]?.getD 0 - 97).toNat, by omega, by omega, by omega⟩
theorem word_size {s : ByteArray} (hs : wordB (bs s) = true) : s.size ≤ 60 := by unfold wordB at hs; simp at hs; rw [bs_len] at hs; exact hs.1
theorem stepF_next {w : List Int} {p c : Nat} : (nextF w p (97 + (c : Int)) < 0 ∧ stepF w p c = 61) ∨ (∃ k : Nat, nextF w p (97 + (c : Int)) = (k : Int) ∧ stepF w p c = (k : Int) ∧ p < k ∧ k ≤ w.length) := by
  rcases stepF_rng (w := w) p c with ⟨h1, h2⟩ | ⟨h1, h2, h3⟩
  · exact .inl ⟨by omega, h1⟩
  · exact .inr ⟨(stepF w p c).toNat, by omega, by omega, by omega, by omega⟩
theorem stepG_at (w : List Int) {p c : Nat} (hc : c < 4) : stepG w (p * 4 + c) = stepF w p c := by
  unfold stepG
  rw [show (p * 4 + c) / 4 = p by omega, show (p * 4 + c) % 4 = c by omega]

/-- The error: none, or ErrNone. -/
def okE (b : Bool) : Int := if b then 0 else 6

set_option maxHeartbeats 800000 in
theorem withinP_bad (u s : ByteArray) (w : World) (hu : u.size ≤ 1000000) (hs : s.size ≤ 1000000) (h : wordB (bs u) = false ∨ wordB (bs s) = false) :
    Calls Try.prog 18 #[.string u, .string s] w fun e w' => e = .returned (.tuple #[.slice none 0 0, .int .i64 2]) ∧ Dr w w' := by
  by_cases h1 : wordB (bs u) = true
  · have h2 : wordB (bs s) = false := by rcases h with h | h <;> simp_all
    have HU := Lib.hid (fun W => isWord_is u true W (by omega) h1)
    have HS := Lib.hid (fun W => isWord_is s false W (by omega) h2)
    clear h h1 h2
    go_enter Try.func18, Try.ntmps18
    go_wp2_with (first | (go_at_call 48; (with_reducible refine (HU.out _).mono ?_); rintro e w1 ⟨rfl, hd1⟩) | (go_at_call 48; (with_reducible refine (HS.out _).mono ?_); rintro e w2 ⟨rfl, hd2⟩))
    go_ret2
    exact ⟨rfl, hd1.trans hd2⟩
  · have HU := Lib.hid (fun W => isWord_is u false W (by omega) (by simpa using h1))
    clear h h1
    go_enter Try.func18, Try.ntmps18
    go_wp2_with (first | (go_at_call 48; (with_reducible refine (HU.out _).mono ?_); rintro e w1 ⟨rfl, hd1⟩))
    go_ret2
    exact ⟨rfl, hd1⟩

set_option maxRecDepth 100000 in
set_option maxHeartbeats 1600000 in
theorem withinP_any (u s : ByteArray) (w : World) (hu : wordB (bs u) = true) (hs : wordB (bs s) = true) :
    Calls Try.prog 18 #[.string u, .string s] w fun e w' => ∃ v, e = .returned (.tuple #[v, .int .i64 (okE (withinF (bs u) (bs s)).isSome)]) ∧ Ow w' w.heap.size 3 v ((withinF (bs u) (bs s)).getD []) ∧ Below w.heap.size w w' := by
  obtain ⟨i0, hi, hz0, hz1, hz2⟩ := info_parts Try.infoInt
  have HI : Hid (Try.prog.info? 3 = some i0 ∧ i0.zero = some (.int .i64 0) ∧ i0.size = 1 ∧ i0.bytes = 8) := ⟨hi, hz0, hz1, hz2⟩
  clear hi hz0 hz1 hz2
  have hu60 := word_size hu
  have hs60 := word_size hs
  have HBL := Lib.hid (bs_len u)
  have HSL := Lib.hid (bs_len s)
  have HU := Lib.hid (fun W => isWord_is u true W (by omega) hu)
  have HS := Lib.hid (fun W => isWord_is s true W (by omega) hs)
  have HST := Lib.hid (fun W => stepsOf_any s W hs)
  have HUW := Lib.hid hu; clear hu
  have HSW := Lib.hid hs; clear hs
  have HONE := Lib.hid (rowV_one 248 (stepG (bs s)))
  go_enter Try.func18, Try.ntmps18
  go_wp2_with (first | (go_at_call 48; (with_reducible refine (HU.out _).mono ?_); rintro e w1 ⟨rfl, hd1⟩) | (go_at_call 48; (with_reducible refine (HS.out _).mono ?_); rintro e w2 ⟨rfl, hd2⟩) | (go_at_call 49; refine (HST.out _).mono ?_; rintro e w3 ⟨rfl, hb3⟩) | (refine wpList_alloc_row (by rfl) 72 (by rfl) _ Try.zeroSteps ?_) | (refine wpList_store_new (by rfl) 72 (.tmp 6) (.tmp 19) (by rfl) w3 _ _ (by rfl) (by rfl) (Try.infSteps _) (rowV_same _ _ _) HONE.out ?_))
  have hsi := StepsIn.of (f := stepG (bs s)) (hd1.trans hd2) hb3
  generalize w3.heap.size = b at hsi ⊢
  generalize w3.alloc (.cells (rowV 248 (stepG (bs s))) 72) = w4 at hsi ⊢
  have HSI := Lib.hid hsi; clear hsi
  go_loopw [7, 8, 9, 22, 23, 24, 25, 26, 27, 28, 29, 30, 31, 32, 33, 34, 35, 36, 37, 38, 39, 40] (fun v p _ i _ _ _ _ _ _ _ _ _ _ _ _ _ _ _ _ _ _ w' => ∃ (k a : Nat) (l : List Int), k ≤ u.size ∧ i = .int .i64 (k : Int) ∧ p = .int .i64 (a : Int) ∧ Hid (withinTo (bs u) (bs s) k = some (l, a)) ∧ Hid (Ow w' w4.heap.size 3 v l) ∧ Below w4.heap.size w4 w') (fun _ _ _ i _ _ _ _ _ _ _ _ _ _ _ _ _ _ _ _ _ _ _ => u.size - (intOf i).toNat)
  case atStart => exact ⟨0, 0, [], by omega, by go_num, rfl, rfl, Ow.nil _ _ _, Below.refl _ _⟩
  case round =>
    obtain ⟨k, a, l, hk, rfl, rfl, HW, HO, hW⟩ := hrel
    have hsz := hW.size
    have hlen := withinTo_len HW.out
    dsimp only at hlen
    have HLL : Hid (l.length ≤ 1099511627776) := by rw [Hid]; omega
    have ha : a ≤ s.size := by have := hlen.2; rw [HSL.out] at this; exact this
    clear hlen
    by_cases hlt : k < u.size
    · obtain ⟨c, hc, hcu, hbv⟩ := letter_of HUW.out hlt
      have HLO := Lib.hid (fun W => letterOf_any c W (by omega))
      have HSTP : Hid (withinTo (bs u) (bs s) (k + 1) = if nextF (bs s) a (97 + (c : Int)) < 0 then none else some (l ++ [nextF (bs s) a (97 + (c : Int)) - 1], (nextF (bs s) a (97 + (c : Int))).toNat)) := by
        rw [Hid, withinTo, HW.out, hcu]
      clear hcu
      have hcell := (HSI.out.row.below hW HSI.out.row.lt).cell (i := a * 4 + c) (by omega)
      rw [stepG_at _ hc] at hcell
      have hk0 : (0 : Int) ≤ (k : Int) := by omega
      have hk1 : (k : Int) < (u.size : Int) := by omega
      have ha1 : (a : Int) < 62 := by omega
      have hc1 : (c : Int) < 4 := by omega
      rcases stepF_next (w := bs s) (p := a) (c := c) with ⟨hneg, he⟩ | ⟨q, hq, he, haq, hqs⟩
      · have HF : Hid (withinF (bs u) (bs s) = none) := by
          unfold withinF
          rw [Hid, withinTo_none (k := k + 1) (by rw [HBL.out]; omega) (by rw [HSTP.out, if_pos hneg])]; rfl
        rw [he] at hcell
        clear he hneg
        go_wp2
        go_quiet ((go_at_call 50; exact quiet_same (HLO.out _)))
        go_wp2
        go_ret2
        exact ⟨_, by rw [HF.out]; rfl, by rw [HF.out]; exact Ow.nil _ _ _, HSI.out.below.trans ((below_more hW _).mono HSI.out.below.size)⟩
      · have HS2 : Hid (withinTo (bs u) (bs s) (k + 1) = some (l ++ [(q : Int) - 1], q)) := by rw [Hid, HSTP.out, hq, if_neg (by omega), Int.toNat_natCast]
        rw [he] at hcell
        rw [HSL.out] at hqs
        clear he hq
        have gq : ((q : Int) == 61) = false := by simp; omega
        go_wp2
        go_quiet ((go_at_call 50; exact quiet_same (HLO.out _)))
        clear hcell
        go_wp2_with (at_builtin; go_must (refine push_law _ rfl (.tmp 35) (.tmp 38) 23 rfl w4.heap.size 3 i0 Try.underlying23 HI.out _ l ((q : Int) - 1) rfl rfl (HO.out.drewN _) HLL.out hsz ?_); intro v2 w2 hv2 hg2 hat2; clear hat2; have HV2 := Lib.hid hv2; clear hv2; have HG2 := Lib.hid hg2; clear hg2)
        go_roundw
        case rel => exact ⟨k + 1, q, l ++ [(q : Int) - 1], by omega, by go_num, rfl, HS2, HV2, (below_more hW _).grown HG2.out hsz (fun j e => (HO.out.lt e).1)⟩
        case measure => (simp [intOf]; try omega)
    · obtain rfl : k = u.size := by omega
      have HF : Hid (withinF (bs u) (bs s) = some l) := by
        unfold withinF
        rw [Hid, HBL.out, HW.out]; rfl
      go_wp2
      go_ret2
      exact ⟨_, by rw [HF.out]; rfl, by rw [HF.out]; exact HO.out.base HSI.out.below.size, HSI.out.below.trans (hW.mono HSI.out.below.size)⟩
end Go.Proofs.Ytkemcmeagnggeaa
