import Derived.Test.YtfeohcknopdamaaT00
import Derived.Deep.MidRow
import Derived.KernelRfl
import Derived.Test.YtfeohcknopdamaaT03
/- Layer 10: rows of ints in memory (tpl3's). -/
namespace Go.Proofs.Ytfeohcknopdamaa
open Go.RowKit
set_option linter.unusedVariables false

/-- A row of n ints. -/
def rowV (n : Nat) (f : Nat → Int) : Array Value := Array.ofFn (n := n) fun i => Value.int .i64 (f i.val)
theorem rowV_size (n : Nat) (f : Nat → Int) : (rowV n f).size = n := by simp [rowV]
theorem rowV_at (n : Nat) (f : Nat → Int) (i : Nat) (h : i < n) : (rowV n f)[i]? = some (.int .i64 (f i)) := by
  unfold rowV
  rw [Array.getElem?_ofFn, dif_pos h]
theorem rowV_one (n : Nat) (f : Nat → Int) : (rowV n f).all (·.oneCell') = true := by
  rw [Array.all_eq_true_iff_forall_mem]
  intro x hx
  unfold rowV at hx
  rw [Array.mem_ofFn] at hx
  obtain ⟨i, rfl⟩ := hx
  rfl
theorem rowV_ext {n : Nat} {f g : Nat → Int} (h : ∀ i, i < n → f i = g i) : rowV n f = rowV n g := by
  unfold rowV
  congr 1
  funext i
  rw [h i.val i.isLt]
/-- Block b is a row of n ints. -/
def Rw (w : World) (b t n : Nat) (f : Nat → Int) : Prop := w.heap[b]? = some (.cells (rowV n f) t (0, 0))
def upd (f : Nat → Int) (k : Nat) (x : Int) : Nat → Int := fun i => if i = k then x else f i
theorem upd_same (f : Nat → Int) (k : Nat) (x : Int) : upd f k x k = x := if_pos rfl
theorem upd_other (f : Nat → Int) {k i : Nat} (x : Int) (h : i ≠ k) : upd f k x i = f i := if_neg h
theorem Rw.cell {w : World} {b t n : Nat} {f : Nat → Int} (h : Rw w b t n f) {i : Nat} (hi : i < n) : w.cell? ⟨b, i, none⟩ = some (.int .i64 (f i)) := by
  rw [cell_of_row w b i _ t (0, 0) h, rowV_at n f i hi]
theorem Rw.free {w : World} {b t n : Nat} {f : Nat → Int} (h : Rw w b t n f) (i : Nat) : w.frozen? ⟨b, i, none⟩ = false := by
  unfold Rw at h
  simp [World.frozen?, h]
theorem Rw.lt {w : World} {b t n : Nat} {f : Nat → Int} (h : Rw w b t n f) : b < w.heap.size := (Array.getElem?_eq_some_iff.1 h).1
theorem Rw.drewN {w : World} {b t n : Nat} {f : Nat → Int} (h : Rw w b t n f) (m : Nat) : Rw (w.drewN m) b t n f := h
theorem Rw.of_block {w w' : World} {b t n : Nat} {f : Nat → Int} (h : Rw w b t n f) (k : w'.heap[b]? = w.heap[b]?) : Rw w' b t n f := k.trans h
theorem Rw.below {w w' : World} {b t n B : Nat} {f : Nat → Int} (h : Rw w b t n f) (k : Below B w w') (hb : b < B) : Rw w' b t n f := h.of_block (k.block b hb)
theorem Rw.alloc {w : World} {b t n : Nat} {f : Nat → Int} (h : Rw w b t n f) (o : Obj) : Rw (w.alloc o) b t n f := h.of_block (by show (w.heap.push o)[b]? = _; rw [Array.getElem?_push, if_neg (Nat.ne_of_lt h.lt)])
theorem Rw.new (w : World) (t n : Nat) (f : Nat → Int) : Rw (w.alloc (.cells (rowV n f) t)) w.heap.size t n f := heap_alloc_new _ _
theorem Rw.congr {w : World} {b t n : Nat} {f g : Nat → Int} (h : Rw w b t n f) (e : ∀ i, i < n → f i = g i) : Rw w b t n g := by
  unfold Rw at h ⊢
  rw [h, rowV_ext e]
theorem Rw.setOther {w : World} {b t n : Nat} {f : Nat → Int} (h : Rw w b t n f) {a : Addr} (ha : a.block ≠ b) (v : Value) : Rw (w.setCell a v) b t n f := h.of_block (Below.heap_setCell _ _ _ _ (fun e => ha e.symm))
theorem Rw.set {w : World} {b t n : Nat} {f : Nat → Int} (h : Rw w b t n f) {i : Nat} (x : Int) : Rw (w.setCell ⟨b, i, none⟩ (.int .i64 x)) b t n (upd f i x) := by
  unfold Rw at h ⊢
  rw [heap_setCell_same w b i _ t _ h]
  congr 2
  apply Array.ext (by simp [rowV_size])
  intro j h1 h2
  by_cases e : j = i
  · subst e; simp [rowV, upd_same]
  · rw [Array.getElem_setIfInBounds_ne (by simpa [rowV_size] using h1) (fun e2 => e e2.symm)]; simp [rowV, upd_other f x e]

/-- A new row of zeros, not written out. -/
theorem zero_of {P : Program} {ty : TypeId} {z : Array Value} (h : (P.info? ty).bind (·.zero) = some (.agg z)) (w : World) : (zeroValue ty).run P w = .ok (.agg z) w := by
  cases hq : P.info? ty with
  | none => simp [hq] at h
  | some i =>
    have hz : i.zero = some (.agg z) := by simpa [hq] using h
    simp [zeroValue, typeInfo, hq, hz]
theorem run_alloc_row {P : Program} {ty : TypeId} {z : Array Value} (h : (P.info? ty).bind (·.zero) = some (.agg z)) (w : World) (old : Value) :
    (Instr.alloc ty true old).run P w = .ok (.pointer (some ⟨w.heap.size, 0, none⟩)) (w.alloc (.cells z ty)) := by
  unfold Instr.alloc
  rw [Sem.run_bind, zero_of h]
  rfl
theorem wpList_alloc_row {P : Program} {ops : Array Oper} {rest : List Oper} {o : Oper} {a : Act} {w : World} {Q : Exit → Act → World → Prop} (hg : o.guard = none) (ty : TypeId) (ho : o.op = .alloc ty)
    (z : Array Value) (hz : (P.info? ty).bind (·.zero) = some (.agg z))
    (h : wpList P ops Q rest (a.put o.dst (.pointer (some ⟨w.heap.size, 0, none⟩))) (w.alloc (.cells z ty))) : wpList P ops Q (o :: rest) a w :=
  wpList_plain hg fun _ hK => by
    unfold Oper.wp execOp
    simp only [ho]
    rw [Sem.run_bind, run_alloc_row hz]
    exact hK _ _ h
/-- A value is n zeros. -/
def zerosB (n : Nat) : Option Value → Bool
  | some (.agg z) => z.toList.length == n && z.toList.all fun v => match v with | .int .i64 x => x == 0 | _ => false
  | _ => false
theorem zerosB_spec {n : Nat} {o : Option Value} (h : zerosB n o = true) : o = some (.agg (rowV n fun _ => 0)) := by
  unfold zerosB at h
  split at h
  · rename_i z
    rw [Bool.and_eq_true] at h
    have hl : z.size = n := by have := h.1; simpa using this
    congr 2
    apply Array.ext (by rw [hl, rowV_size])
    intro j h1 h2
    have h3 := List.all_eq_true.1 h.2 z[j] (by simp)
    have h4 : (rowV n fun _ => 0)[j] = Value.int .i64 0 := by
      have h5 := rowV_at n (fun _ => 0) j (by rw [← hl]; exact h1)
      rw [Array.getElem?_eq_getElem h2] at h5
      exact Option.some.inj h5
    rw [h4]
    split at h3
    · rename_i x e
      rw [e, eq_of_beq h3]
    · cases h3
  · cases h
theorem Try.zeroTable : (Try.prog.info? 77).bind (·.zero) = some (.agg (rowV 1681 fun _ => 0)) := zerosB_spec (by kernel_rfl)
theorem Try.zeroWays : (Try.prog.info? 68).bind (·.zero) = some (.agg (rowV 441 fun _ => 0)) := zerosB_spec (by kernel_rfl)
theorem Try.zeroPlaces : (Try.prog.info? 78).bind (·.zero) = some (.agg (rowV 19 fun _ => 0)) := zerosB_spec (by kernel_rfl)
end Go.Proofs.Ytfeohcknopdamaa
/- Layer 10: the table of the numbers of choices. -/
namespace Go.Proofs.Ytfeohcknopdamaa
open Go.RowKit
set_option linter.unusedVariables false

/-- The table: rows up to m, and of row m + 1 the first j. -/
def tabF (m j : Nat) (i : Nat) : Int := if i / 41 ≤ m ∨ (i / 41 = m + 1 ∧ i % 41 < j) then ((chs (i / 41) (i % 41) : Nat) : Int) else 0
theorem tab_start (i : Nat) : upd (fun _ => 0) 0 1 i = tabF 0 0 i := by
  unfold upd tabF
  by_cases h : i = 0
  · subst h; simp [chs]
  · rw [if_neg h]
    by_cases h1 : i / 41 ≤ 0
    · rw [if_pos (.inl h1), show i / 41 = 0 by omega]
      obtain ⟨k, hk⟩ : ∃ k, i % 41 = k + 1 := ⟨i % 41 - 1, by omega⟩
      rw [hk, chs]; rfl
    · rw [if_neg (by omega)]
theorem tab_one (m i : Nat) : upd (tabF m 0) ((m + 1) * 41) 1 i = tabF m 1 i := by
  unfold upd
  by_cases h : i = (m + 1) * 41
  · subst h
    rw [if_pos rfl, tabF, if_pos (.inr ⟨by omega, by omega⟩), show (m + 1) * 41 % 41 = 0 by omega, chs_zero]; rfl
  · rw [if_neg h]
    unfold tabF
    by_cases h1 : i / 41 ≤ m
    · rw [if_pos (.inl h1), if_pos (.inl h1)]
    · rw [if_neg (by omega), if_neg (by omega)]
theorem tab_at {m j x s : Nat} (hx : x ≤ m) (hs : s < 41) : tabF m j (x * 41 + s) = ((chs x s : Nat) : Int) := by
  unfold tabF
  rw [show (x * 41 + s) / 41 = x by omega, show (x * 41 + s) % 41 = s by omega, if_pos (.inl hx)]
theorem tab_next {m j : Nat} (hj : j + 1 < 41) (i : Nat) : upd (tabF m (j + 1)) ((m + 1) * 41 + (j + 1)) ((chs m (j + 1) : Int) + (chs m j : Int)) i = tabF m (j + 2) i := by
  unfold upd
  by_cases h : i = (m + 1) * 41 + (j + 1)
  · subst h
    rw [if_pos rfl, tabF, show ((m + 1) * 41 + (j + 1)) / 41 = m + 1 by omega, show ((m + 1) * 41 + (j + 1)) % 41 = j + 1 by omega, if_pos (.inr ⟨rfl, by omega⟩), chs]
    omega
  · rw [if_neg h]
    unfold tabF
    by_cases h1 : i / 41 ≤ m
    · rw [if_pos (.inl h1), if_pos (.inl h1)]
    · by_cases h2 : i / 41 = m + 1 ∧ i % 41 < j + 1
      · rw [if_pos (.inr h2), if_pos (.inr ⟨h2.1, by omega⟩)]
      · rw [if_neg (by omega), if_neg (by omega)]
theorem tab_row (m i : Nat) : tabF m (m + 2) i = tabF (m + 1) 0 i := by
  unfold tabF
  by_cases h1 : i / 41 ≤ m
  · rw [if_pos (.inl h1), if_pos (.inl (by omega))]
  · by_cases h2 : i / 41 = m + 1
    · rw [if_pos (c := i / 41 ≤ m + 1 ∨ _) (.inl (by omega))]
      by_cases h3 : i % 41 < m + 2
      · rw [if_pos (.inr ⟨h2, h3⟩)]
      · rw [if_neg (by omega), chs_over _ _ (by omega)]; rfl
    · rw [if_neg (by omega), if_neg (by omega)]
/-- Block tb holds the numbers of choices. -/
def Tab (w : World) (tb : Nat) : Prop := Rw w tb 77 1681 (tabF 40 0)
theorem Tab.below {w w' : World} {tb : Nat} (h : Tab w tb) (hb : Below w.heap.size w w') : Tab w' tb := Rw.below h hb h.lt
theorem look_any (x s tb : Nat) (w : World) (hx : x ≤ 40) (hs : s ≤ 40) (hT : Tab w tb) :
    Calls Try.prog 79 #[.int .i64 (x : Int), .int .i64 (s : Int), .pointer (some ⟨tb, 0, none⟩)] w fun e w' => e = .returned (.int .i64 ((chs x s : Nat) : Int)) ∧ w = w' := by
  have hc := hT.cell (i := x * 41 + s) (by omega)
  rw [tab_at hx (by omega)] at hc
  clear hT
  generalize chs x s = v at *
  go_enter Try.func79, Try.ntmps79
  go_wp2
  go_ret
  exact ⟨rfl, rfl⟩
set_option maxRecDepth 100000 in
set_option maxHeartbeats 3200000 in
theorem setsOfSize_any (w : World) : Calls Try.prog 61 #[] w fun e w' => e = .returned (.func (.func 79) #[] #[.pointer (some ⟨w.heap.size, 0, none⟩)]) ∧ Tab w' w.heap.size ∧ Below w.heap.size w w' := by
  have HT0 := Lib.hid (Rw.new w 77 1681 (fun _ => 0))
  have HB0 : Hid (Below w.heap.size w (w.alloc (.cells (rowV 1681 fun _ => 0) 77))) := (Below.refl _ w).alloc (Nat.le_refl _) _
  have HZ := Lib.hid Try.zeroTable
  go_enter Try.func61, Try.ntmps61
  go_wp2_with (refine wpList_alloc_row rfl 77 rfl _ HZ.out ?_; generalize w.alloc (.cells (rowV 1681 fun _ => 0) 77) = w0 at HT0 HB0 ⊢; have hc0 := HT0.out.cell (i := 0) (by omega); have hf0 := HT0.out.free 0)
  have HT1 : Hid (Rw (w0.setCell ⟨w.heap.size, 0, none⟩ (.int .i64 1)) w.heap.size 77 1681 (tabF 0 0)) := (HT0.out.set (i := 0) 1).congr (fun i _ => tab_start i)
  have HB1 : Hid (Below w.heap.size w (w0.setCell ⟨w.heap.size, 0, none⟩ (.int .i64 1))) := HB0.out.setCell (p := ⟨w.heap.size, 0, none⟩) (Nat.le_refl _) _
  clear hc0 hf0 HT0 HB0 HZ
  generalize w0.setCell ⟨w.heap.size, 0, none⟩ (.int .i64 1) = w1 at HT1 HB1 ⊢
  go_loopw [6] (fun i w' => ∃ m : Nat, m ≤ 40 ∧ i = .int .i64 (m : Int) ∧ Hid (Rw w' w.heap.size 77 1681 (tabF m 0)) ∧ Hid (Below w.heap.size w w')) (fun i _ => 40 - (intOf i).toNat)
  case atStart => exact ⟨0, by omega, by go_num, HT1, HB1⟩
  case round =>
    obtain ⟨m, hm, rfl, HT, HB⟩ := hrel
    clear HT1 HB1
    obtain ⟨wo, rfl⟩ : ∃ wo : World, wo = wr := ⟨_, rfl⟩
    by_cases hlt : m < 40
    · have i1 : (m : Int) < 40 := by omega
      have hc0 := HT.out.cell (i := (m + 1) * 41) (by omega)
      have hf0 := HT.out.free ((m + 1) * 41)
      go_wp2
      have HT2 : Hid (Rw (wo.setCell ⟨w.heap.size, (m + 1) * 41, none⟩ (.int .i64 1)) w.heap.size 77 1681 (tabF m 1)) := (HT.out.set (i := (m + 1) * 41) 1).congr (fun i _ => tab_one m i)
      have HB2 : Hid (Below w.heap.size w (wo.setCell ⟨w.heap.size, (m + 1) * 41, none⟩ (.int .i64 1))) := HB.out.setCell (p := ⟨w.heap.size, (m + 1) * 41, none⟩) (Nat.le_refl _) _
      clear hc0 hf0 HT HB
      generalize wo.setCell ⟨w.heap.size, (m + 1) * 41, none⟩ (.int .i64 1) = w2 at HT2 HB2 ⊢
      go_loopw [15] (fun i w' => ∃ j : Nat, j ≤ m + 1 ∧ i = .int .i64 (j : Int) ∧ Hid (Rw w' w.heap.size 77 1681 (tabF m (j + 1))) ∧ Hid (Below w.heap.size w w')) (fun i _ => m + 1 - (intOf i).toNat)
      case atStart => exact ⟨0, by omega, by go_num, HT2, HB2⟩
      case round =>
        obtain ⟨j, hj, rfl, HT, HB⟩ := hrel
        clear HT2 HB2
        obtain ⟨wi, rfl⟩ : ∃ wi : World, wi = wr := ⟨_, rfl⟩
        by_cases hlj : j < m + 1
        · have i2 : (j : Int) < (m : Int) + 1 := by omega
          have hc1 := HT.out.cell (i := m * 41 + (j + 1)) (by omega)
          have hc2 := HT.out.cell (i := m * 41 + j) (by omega)
          rw [tab_at (Nat.le_refl _) (by omega)] at hc1 hc2
          have hc3 := HT.out.cell (i := (m + 1) * 41 + (j + 1)) (by omega)
          have hf3 := HT.out.free ((m + 1) * 41 + (j + 1))
          have HN : Hid (∀ i, i < 1681 → upd (tabF m (j + 1)) ((m + 1) * 41 + (j + 1)) ((chs m (j + 1) : Int) + (chs m j : Int)) i = tabF m (j + 2) i) := fun i _ => tab_next (by omega) i
          have hx := Nat.le_trans (chs_le m (j + 1)) (two_le (by omega))
          have hy := Nat.le_trans (chs_le m j) (two_le (by omega))
          generalize chs m (j + 1) = x at *
          generalize chs m j = y at *
          have v1 : IntKind.i64.wrap ((x : Int) + (y : Int)) = (x : Int) + (y : Int) := IntWalk.i64_in _ (by omega)
          have f1 : (j : Int) + 1 < 41 := by omega
          have f2 : (m : Int) + 1 < 41 := by omega
          have f3 : (m : Int) < 41 := by omega
          have f4 : (j : Int) < 41 := by omega
          go_wp2
          go_region
          have HT3 : Hid (Rw (wi.setCell ⟨w.heap.size, (m + 1) * 41 + (j + 1), none⟩ (.int .i64 ((x : Int) + (y : Int)))).drew w.heap.size 77 1681 (tabF m (j + 2))) := (HT.out.set (i := (m + 1) * 41 + (j + 1)) _).congr HN.out
          have HB3 : Hid (Below w.heap.size w (wi.setCell ⟨w.heap.size, (m + 1) * 41 + (j + 1), none⟩ (.int .i64 ((x : Int) + (y : Int)))).drew) := (HB.out.setCell (p := ⟨w.heap.size, (m + 1) * 41 + (j + 1), none⟩) (Nat.le_refl _) _).drew
          clear hc1 hc2 hc3 hf3 HT HB HN v1 f1 f2 f3 f4
          generalize (wi.setCell ⟨w.heap.size, (m + 1) * 41 + (j + 1), none⟩ (.int .i64 ((x : Int) + (y : Int)))).drew = w3 at HT3 HB3 ⊢
          go_wp2
          exact ⟨⟨j + 1, by omega, by go_num, HT3.out, HB3.out⟩, by simp [intOf]; omega⟩
        · have hjm : j = m + 1 := by omega
          subst hjm
          have i2 : ¬ ((m + 1 : Nat) : Int) < (m : Int) + 1 := by omega
          have HT3 : Hid (Rw wi w.heap.size 77 1681 (tabF (m + 1) 0)) := HT.out.congr (fun i _ => tab_row m i)
          go_wp2
          exact ⟨⟨m + 1, by omega, by go_num, HT3.out, HB.out⟩, by simp [intOf]; omega⟩
    · have hm40 : m = 40 := by omega
      subst hm40
      go_wp2
      go_ret
      exact ⟨rfl, HT.out, HB.out⟩
end Go.Proofs.Ytfeohcknopdamaa
