import Derived.Test.YtkemcmeagnggeaaT01
import Derived.Deep.MidRow
import Derived.KernelRfl
/- Layer 3: rows of ints in memory; the steps of a word. -/
namespace Go.Proofs.Ytkemcmeagnggeaa
open Go.RowKit
set_option linter.unusedVariables false

/-- A row of n ints. -/
def rowV (n : Nat) (f : Nat → Int) : Array Value := Array.ofFn (n := n) fun i => Value.int .i64 (f i.val)
theorem rowV_size (n : Nat) (f : Nat → Int) : (rowV n f).size = n := by simp [rowV]
theorem rowV_at (n : Nat) (f : Nat → Int) (i : Nat) (h : i < n) : (rowV n f)[i]? = some (.int .i64 (f i)) := by
  unfold rowV
  rw [Array.getElem?_ofFn, dif_pos h]
theorem rowV_one (n : Nat) (f : Nat → Int) : (rowV n f).all (·.oneCell') = true := by
  rw [Array.all_eq_true_iff_forall_mem]
  intro x hx
  unfold rowV at hx
  rw [Array.mem_ofFn] at hx
  obtain ⟨i, rfl⟩ := hx
  rfl
theorem rowV_ext {n : Nat} {f g : Nat → Int} (h : ∀ i, i < n → f i = g i) : rowV n f = rowV n g := by
  unfold rowV
  congr 1
  funext i
  rw [h i.val i.isLt]
/-- Block b is a row of n ints. -/
def Rw (w : World) (b t n : Nat) (f : Nat → Int) : Prop := w.heap[b]? = some (.cells (rowV n f) t (0, 0))
def upd (f : Nat → Int) (k : Nat) (x : Int) : Nat → Int := fun i => if i = k then x else f i
theorem upd_same (f : Nat → Int) (k : Nat) (x : Int) : upd f k x k = x := if_pos rfl
theorem upd_other (f : Nat → Int) {k i : Nat} (x : Int) (h : i ≠ k) : upd f k x i = f i := if_neg h
theorem Rw.cell {w : World} {b t n : Nat} {f : Nat → Int} (h : Rw w b t n f) {i : Nat} (hi : i < n) : w.cell? ⟨b, i, none⟩ = some (.int .i64 (f i)) := by
  rw [cell_of_row w b i _ t (0, 0) h, rowV_at n f i hi]
theorem Rw.free {w : World} {b t n : Nat} {f : Nat → Int} (h : Rw w b t n f) (i : Nat) : w.frozen? ⟨b, i, none⟩ = false := by
  unfold Rw at h
  simp [World.frozen?, h]
theorem Rw.lt {w : World} {b t n : Nat} {f : Nat → Int} (h : Rw w b t n f) : b < w.heap.size := (Array.getElem?_eq_some_iff.1 h).1
theorem Rw.drewN {w : World} {b t n : Nat} {f : Nat → Int} (h : Rw w b t n f) (m : Nat) : Rw (w.drewN m) b t n f := h
theorem Rw.of_block {w w' : World} {b t n : Nat} {f : Nat → Int} (h : Rw w b t n f) (k : w'.heap[b]? = w.heap[b]?) : Rw w' b t n f := k.trans h
theorem Rw.below {w w' : World} {b t n B : Nat} {f : Nat → Int} (h : Rw w b t n f) (k : Below B w w') (hb : b < B) : Rw w' b t n f := h.of_block (k.block b hb)
theorem Rw.alloc {w : World} {b t n : Nat} {f : Nat → Int} (h : Rw w b t n f) (o : Obj) : Rw (w.alloc o) b t n f := h.of_block (by show (w.heap.push o)[b]? = _; rw [Array.getElem?_push, if_neg (Nat.ne_of_lt h.lt)])
theorem Rw.new (w : World) (t n : Nat) (f : Nat → Int) : Rw (w.alloc (.cells (rowV n f) t)) w.heap.size t n f := heap_alloc_new _ _
theorem Rw.congr {w : World} {b t n : Nat} {f g : Nat → Int} (h : Rw w b t n f) (e : ∀ i, i < n → f i = g i) : Rw w b t n g := by
  unfold Rw at h ⊢
  rw [h, rowV_ext e]
theorem Rw.setOther {w : World} {b t n : Nat} {f : Nat → Int} (h : Rw w b t n f) {a : Addr} (ha : a.block ≠ b) (v : Value) : Rw (w.setCell a v) b t n f := h.of_block (Below.heap_setCell _ _ _ _ (fun e => ha e.symm))
theorem Rw.set {w : World} {b t n : Nat} {f : Nat → Int} (h : Rw w b t n f) {i : Nat} (x : Int) : Rw (w.setCell ⟨b, i, none⟩ (.int .i64 x)) b t n (upd f i x) := by
  unfold Rw at h ⊢
  rw [heap_setCell_same w b i _ t _ h]
  congr 2
  apply Array.ext (by simp [rowV_size])
  intro j h1 h2
  by_cases e : j = i
  · subst e; simp [rowV, upd_same]
  · rw [Array.getElem_setIfInBounds_ne (by simpa [rowV_size] using h1) (fun e2 => e e2.symm)]; simp [rowV, upd_other f x e]

/-- A new row of zeros, not written out. -/
theorem zero_of {P : Program} {ty : TypeId} {z : Array Value} (h : (P.info? ty).bind (·.zero) = some (.agg z)) (w : World) : (zeroValue ty).run P w = .ok (.agg z) w := by
  cases hq : P.info? ty with
  | none => simp [hq] at h
  | some i =>
    have hz : i.zero = some (.agg z) := by simpa [hq] using h
    simp [zeroValue, typeInfo, hq, hz]
theorem run_alloc_row {P : Program} {ty : TypeId} {z : Array Value} (h : (P.info? ty).bind (·.zero) = some (.agg z)) (w : World) (old : Value) :
    (Instr.alloc ty true old).run P w = .ok (.pointer (some ⟨w.heap.size, 0, none⟩)) (w.alloc (.cells z ty)) := by
  unfold Instr.alloc
  rw [Sem.run_bind, zero_of h]
  rfl
theorem wpList_alloc_row {P : Program} {ops : Array Oper} {rest : List Oper} {o : Oper} {a : Act} {w : World} {Q : Exit → Act → World → Prop} (hg : o.guard = none) (ty : TypeId) (ho : o.op = .alloc ty)
    (z : Array Value) (hz : (P.info? ty).bind (·.zero) = some (.agg z))
    (h : wpList P ops Q rest (a.put o.dst (.pointer (some ⟨w.heap.size, 0, none⟩))) (w.alloc (.cells z ty))) : wpList P ops Q (o :: rest) a w :=
  wpList_plain hg fun _ hK => by
    unfold Oper.wp execOp
    simp only [ho]
    rw [Sem.run_bind, run_alloc_row hz]
    exact hK _ _ h
theorem Try.zeroSteps : (Try.prog.info? 72).bind (·.zero) = some (.agg (rowV 248 fun _ => 0)) := by kernel_rfl
theorem Try.zeroCounts : (Try.prog.info? 86).bind (·.zero) = some (.agg (rowV 62 fun _ => 0)) := by kernel_rfl
end Go.Proofs.Ytkemcmeagnggeaa
/- Layer 3: the program's stepsOf, and the small functions. -/
namespace Go.Proofs.Ytkemcmeagnggeaa
open Go.RowKit
set_option linter.unusedVariables false

/-- The place behind the next letter 97 + c, or 61. -/
def stepF (w : List Int) (p c : Nat) : Int := if nextF w p (97 + (c : Int)) < 0 then 61 else nextF w p (97 + (c : Int))
def stepG (w : List Int) (i : Nat) : Int := stepF w (i / 4) (i % 4)
theorem stepF_end {w : List Int} {p : Nat} (h : w.length ≤ p) (c : Nat) : stepF w p c = 61 := by
  unfold stepF
  rw [nextF_end w p h]; rfl
theorem stepF_step {w : List Int} {p : Nat} (h : p < w.length) (c : Nat) : stepF w p c = if w[p]?.getD 0 = 97 + (c : Int) then (p : Int) + 1 else stepF w (p + 1) c := by
  unfold stepF
  rw [nextF_step w p h]
  by_cases e : w[p]?.getD 0 = 97 + (c : Int)
  · rw [if_pos e, if_pos e, if_neg (by omega)]
  · rw [if_neg e, if_neg e]
theorem stepF_rng {w : List Int} (p c : Nat) : (stepF w p c = 61 ∧ nextF w p (97 + (c : Int)) = -1) ∨ ((p : Int) < stepF w p c ∧ stepF w p c ≤ w.length ∧ nextF w p (97 + (c : Int)) = stepF w p c) := by
  unfold stepF
  rcases nextF_rng w p (97 + (c : Int)) with h | h
  · left; rw [h]; exact ⟨rfl, rfl⟩
  · right; rw [if_neg (by omega)]; exact ⟨h.1, h.2, rfl⟩
theorem Rw.set4 {w : World} {b t n : Nat} {f : Nat → Int} (h : Rw w b t n f) (o : Nat) (x0 x1 x2 x3 : Int) :
    Rw (w.setCells b o [.int .i64 x0, .int .i64 x1, .int .i64 x2, .int .i64 x3]) b t n (upd (upd (upd (upd f o x0) (o + 1) x1) (o + 2) x2) (o + 3) x3) := (((h.set x0).set x1).set x2).set x3

/-- The two rows of stepsOf. -/
structure StW (w w' : World) (f : Nat → Int) : Prop where
  row : Rw w' (w.heap.size + 1) 72 248 f
  res : Rw w' w.heap.size 72 248 (fun _ => 0)
  below : Below w.heap.size w w'
theorem StW.put {w w' : World} {f : Nat → Int} (h : StW w w' f) (i : Nat) (x : Int) : StW w (w'.setCell ⟨w.heap.size + 1, i, none⟩ (.int .i64 x)) (upd f i x) :=
  ⟨h.row.set x, h.res.setOther (a := ⟨w.heap.size + 1, i, none⟩) (by simp) _, h.below.setCell (p := ⟨w.heap.size + 1, i, none⟩) (Nat.le_succ _) _⟩
theorem StW.put4 {w w' : World} {f : Nat → Int} (h : StW w w' f) (o : Nat) (x0 x1 x2 x3 : Int) :
    StW w (w'.setCells (w.heap.size + 1) o [.int .i64 x0, .int .i64 x1, .int .i64 x2, .int .i64 x3]) (upd (upd (upd (upd f o x0) (o + 1) x1) (o + 2) x2) (o + 3) x3) := (((h.put o x0).put (o + 1) x1).put (o + 2) x2).put (o + 3) x3
theorem StW.congr {w w' : World} {f g : Nat → Int} (h : StW w w' f) (e : ∀ i, i < 248 → f i = g i) : StW w w' g := ⟨h.row.congr e, h.res, h.below⟩
theorem StW.drewN {w w' : World} {f : Nat → Int} (h : StW w w' f) (n : Nat) : StW w (w'.drewN n) f := ⟨h.row, h.res, h.below.trans ⟨rfl, rfl, rfl, Nat.le_refl _, fun _ _ => rfl⟩⟩
theorem StW.there {w w' : World} {f : Nat → Int} (h : StW w w' f) (o n : Nat) (ho : o + n ≤ 248) : w'.there (w.heap.size + 1) o n := fun j hj => ⟨by rw [h.row.cell (by omega)]; rfl, h.row.free _⟩
theorem Rw.range {w : World} {b t n : Nat} {f : Nat → Int} (h : Rw w b t n f) (o : Nat) (ho : o + 4 ≤ n) : w.rangeAt b o [.int .i64 (f o), .int .i64 (f (o + 1)), .int .i64 (f (o + 2)), .int .i64 (f (o + 3))] := fun j v hv => by
  rcases (by have := (List.getElem?_eq_some_iff.1 hv).1; simp at this; omega : j = 0 ∨ j = 1 ∨ j = 2 ∨ j = 3) with rfl | rfl | rfl | rfl <;>
    (simp at hv; rw [← hv]; exact h.cell (by omega))
def fillA (n p : Nat) (i : Nat) : Int := if n ≤ i / 4 ∧ i / 4 < p then 61 else 0
def fillB (w : List Int) (q : Nat) (i : Nat) : Int := if i / 4 < q then 0 else stepG w i
theorem fillA_step {n p : Nat} (h : n ≤ p) (i : Nat) : upd (upd (upd (upd (fillA n p) (p * 4) 61) (p * 4 + 1) 61) (p * 4 + 2) 61) (p * 4 + 3) 61 i = fillA n (p + 1) i := by
  unfold upd fillA
  split <;> split <;> (try split) <;> (try split) <;> (try split) <;> omega
theorem fill_mid (w : List Int) (i : Nat) : fillA w.length 62 i = fillB w w.length i ∨ 248 ≤ i := by
  unfold fillA fillB
  by_cases h : 248 ≤ i
  · exact .inr h
  · left
    by_cases e : w.length ≤ i / 4
    · rw [if_pos ⟨e, by omega⟩, if_neg (by omega)]; exact (stepF_end e _).symm
    · rw [if_neg (by omega), if_pos (by omega)]
theorem fillB_end (w : List Int) (i : Nat) : fillB w 0 i = stepG w i := if_neg (by omega)
theorem fillB_step {w : List Int} {q c : Nat} (hq : q < w.length) (hc : c < 4) (hw : w[q]?.getD 0 = 97 + (c : Int)) (i : Nat) :
    upd (upd (upd (upd (upd (fillB w (q + 1)) (q * 4) (fillB w (q + 1) ((q + 1) * 4))) (q * 4 + 1) (fillB w (q + 1) ((q + 1) * 4 + 1))) (q * 4 + 2) (fillB w (q + 1) ((q + 1) * 4 + 2))) (q * 4 + 3) (fillB w (q + 1) ((q + 1) * 4 + 3))) (q * 4 + c) ((q : Int) + 1) i = fillB w q i := by
  have hst : ∀ d, d < 4 → fillB w (q + 1) ((q + 1) * 4 + d) = stepF w (q + 1) d := fun d hd => by
    unfold fillB
    rw [if_neg (by omega)]
    unfold stepG
    rw [show ((q + 1) * 4 + d) / 4 = q + 1 by omega, show ((q + 1) * 4 + d) % 4 = d by omega]
  have hnew : ∀ d, d < 4 → fillB w q (q * 4 + d) = if d = c then (q : Int) + 1 else stepF w (q + 1) d := fun d hd => by
    unfold fillB
    rw [if_neg (by omega)]
    unfold stepG
    rw [show (q * 4 + d) / 4 = q by omega, show (q * 4 + d) % 4 = d by omega, stepF_step hq, hw]
    by_cases e : d = c
    · subst e; simp
    · rw [if_neg e, if_neg (by omega)]
  have h0 := hst 0 (by omega)
  have h1 := hst 1 (by omega)
  have h2 := hst 2 (by omega)
  have h3 := hst 3 (by omega)
  have h0 : fillB w (q + 1) ((q + 1) * 4) = stepF w (q + 1) 0 := h0
  rw [h0, h1, h2, h3]
  by_cases hi : i / 4 = q
  · obtain ⟨d, hd, rfl⟩ : ∃ d, d < 4 ∧ i = q * 4 + d := ⟨i % 4, by omega, by omega⟩
    rw [hnew d hd]
    unfold upd
    by_cases e : d = c
    · rw [if_pos (by omega), if_pos e]
    · rw [if_neg (by omega), if_neg e]
      rcases (by omega : d = 0 ∨ d = 1 ∨ d = 2 ∨ d = 3) with rfl | rfl | rfl | rfl <;> simp
  · unfold upd
    rw [if_neg (by omega), if_neg (by omega), if_neg (by omega), if_neg (by omega), if_neg (by omega)]
    unfold fillB
    by_cases e : i / 4 < q
    · rw [if_pos e, if_pos (by omega)]
    · rw [if_neg e, if_neg (by omega)]
theorem Try.sizeFour : (Try.prog.info? 70).map (·.size) = some 4 := by kernel_rfl
theorem Try.sizeSteps : (Try.prog.info? 72).map (·.size) = some 248 := by kernel_rfl

theorem letterOf_any (c : Nat) (w : World) (h : c ≤ 100) :
    Calls Try.prog 50 #[.int .u8 (97 + (c : Int))] w fun e w' => e = .returned (.int .i64 (c : Int)) ∧ w = w' := by
  go_enter Try.func50, Try.ntmps50
  go_wp2
  go_ret
  exact ⟨iend (by omega), rfl⟩
theorem byteOf_any (c : Nat) (w : World) (h : c ≤ 100) :
    Calls Try.prog 53 #[.int .i64 (c : Int)] w fun e w' => e = .returned (.int .u8 (97 + (c : Int))) ∧ w = w' := by
  go_enter Try.func53, Try.ntmps53
  go_wp2
  go_ret
  exact ⟨rfl, rfl⟩

set_option maxHeartbeats 800000 in
theorem stepsOf_any (s : ByteArray) (w : World) (hs : wordB (bs s) = true) :
    Calls Try.prog 49 #[.string s] w fun e w' => e = .returned (.agg (rowV 248 (stepG (bs s)))) ∧ Below w.heap.size w w' := by
  have hs60 : s.size ≤ 60 := by unfold wordB at hs; simp at hs; rw [bs_len] at hs; exact hs.1
  have HWD := Lib.hid hs; clear hs
  go_enter Try.func49, Try.ntmps49
  go_wp2_with (refine wpList_alloc_row (by rfl) 72 (by rfl) _ Try.zeroSteps ?_)
  go_loopw [4, 8, 9, 10, 11, 12, 13, 14] (fun p _ _ _ _ _ _ _ w' => ∃ j : Nat, s.size ≤ j ∧ j ≤ 62 ∧ p = .int .i64 (j : Int) ∧ Hid (StW w w' (fillA s.size j))) (fun p _ _ _ _ _ _ _ _ => 62 - (intOf p).toNat)
  case atStart =>
    refine ⟨s.size, by omega, by omega, rfl, ?_⟩
    refine ⟨?_, (Rw.new w _ _ _).alloc _, ((Below.refl _ _).alloc (Nat.le_refl _) _).alloc (by simp) _⟩
    have h := Rw.new (w.alloc (.cells (rowV 248 fun _ => 0) 72)) 72 248 (fun _ => 0)
    rw [show (w.alloc (.cells (rowV 248 fun _ => 0) 72)).heap.size = w.heap.size + 1 from by simp] at h
    exact h.congr fun i hi => (by unfold fillA; rw [if_neg (by omega)])
  case round =>
    obtain ⟨j, hj1, hj2, rfl, HS⟩ := hrel
    by_cases hlt : j ≤ 61
    · have c0 := HS.out.row.cell (i := j * 4) (by omega)
      have c1 := HS.out.row.cell (i := j * 4 + 1) (by omega)
      have c2 := HS.out.row.cell (i := j * 4 + 2) (by omega)
      have c3 := HS.out.row.cell (i := j * 4 + 3) (by omega)
      have f0 := HS.out.row.free (j * 4)
      have f1 := HS.out.row.free (j * 4 + 1)
      have f2 := HS.out.row.free (j * 4 + 2)
      have f3 := HS.out.row.free (j * 4 + 3)
      go_wp2
      clear c0 c1 c2 c3 f0 f1 f2 f3
      go_roundw
      case rel => exact ⟨j + 1, by omega, by omega, by go_num, (HS.out.put4 (j * 4) 61 61 61 61).congr fun i _ => fillA_step hj1 i⟩
      case measure => simp [intOf]; omega
    · have hj62 : j = 62 := by omega
      have HSB : Hid (StW w wr (fillB (bs s) s.size)) := by
       rw [hj62] at HS
       exact HS.out.congr fun i hi => by
        have := fill_mid (bs s) i
        rw [bs_len] at this
        rcases this with h | h
        · exact h
        · omega
      clear HS hj62
      obtain ⟨wo, rfl⟩ : ∃ wo : World, wo = wr := ⟨_, rfl⟩
      go_wp2
      go_loopw [5, 20, 21, 22, 23, 24, 25, 26, 27, 28, 29, 30, 31, 32, 33, 34, 35, 36] (fun p _ _ _ _ _ _ _ _ _ _ _ _ _ _ _ _ _ w' => ∃ q : Nat, q ≤ s.size ∧ p = .int .i64 ((q : Int) - 1) ∧ Hid (StW w w' (fillB (bs s) q))) (fun p _ _ _ _ _ _ _ _ _ _ _ _ _ _ _ _ _ _ => (intOf p + 1).toNat)
      case atStart => exact ⟨s.size, Nat.le_refl _, by go_num, HSB⟩
      case round =>
        obtain ⟨q, hq, hp, HQ⟩ := hrel
        clear HSB
        by_cases hpos : 0 < q
        · obtain ⟨q, rfl⟩ : ∃ m, q = m + 1 := ⟨q - 1, by omega⟩
          rw [show ((q + 1 : Nat) : Int) - 1 = (q : Int) from by omega] at hp
          subst hp
          have hqs : q < s.size := by omega
          obtain ⟨c, hc, hcu⟩ : ∃ c : Nat, c < 4 ∧ (bs s)[q]?.getD 0 = 97 + (c : Int) := by
            have h := HWD.out
            unfold wordB at h
            rw [Bool.and_eq_true] at h
            have h := (lettersB_iff.1 h.2) q (by rw [bs_len]; exact hqs)
            exact ⟨((bs s)[q]?.getD 0 - 97).toNat, by omega, by omega⟩
          have HCU := Lib.hid hcu
          rw [bs_at s q hqs] at hcu
          have hbv : s[q].toNat = 97 + c := by omega
          clear hcu
          have c0 := HQ.out.row.cell (i := q * 4) (by omega)
          have c1 := HQ.out.row.cell (i := q * 4 + 1) (by omega)
          have c2 := HQ.out.row.cell (i := q * 4 + 2) (by omega)
          have c3 := HQ.out.row.cell (i := q * 4 + 3) (by omega)
          have f0 := HQ.out.row.free (q * 4)
          have f1 := HQ.out.row.free (q * 4 + 1)
          have f2 := HQ.out.row.free (q * 4 + 2)
          have f3 := HQ.out.row.free (q * 4 + 3)
          have d0 := HQ.out.row.cell (i := (q + 1) * 4) (by omega)
          have d1 := HQ.out.row.cell (i := (q + 1) * 4 + 1) (by omega)
          have d2 := HQ.out.row.cell (i := (q + 1) * 4 + 2) (by omega)
          have d3 := HQ.out.row.cell (i := (q + 1) * 4 + 3) (by omega)
          have HLO := Lib.hid (fun W => letterOf_any c W (by omega))
          go_wp2
          clear c0 c1 c2 c3 f0 f1 f2 f3 d0 d1 d2 d3
          obtain ⟨x0, e0⟩ : ∃ x, x = fillB (bs s) (q + 1) ((q + 1) * 4) := ⟨_, rfl⟩
          obtain ⟨x1, e1⟩ : ∃ x, x = fillB (bs s) (q + 1) ((q + 1) * 4 + 1) := ⟨_, rfl⟩
          obtain ⟨x2, e2⟩ : ∃ x, x = fillB (bs s) (q + 1) ((q + 1) * 4 + 2) := ⟨_, rfl⟩
          obtain ⟨x3, e3⟩ : ∃ x, x = fillB (bs s) (q + 1) ((q + 1) * 4 + 3) := ⟨_, rfl⟩
          have HR4 := HQ.out.put4 (q * 4) x0 x1 x2 x3
          rw [← e0, ← e1, ← e2, ← e3]
          have HE := Lib.hid (And.intro e0 (And.intro e1 (And.intro e2 e3)))
          clear e0 e1 e2 e3
          simp only [World.setCells] at HR4
          generalize (((wr.setCell ⟨w.heap.size + 1, q * 4, none⟩ (.int .i64 x0)).setCell ⟨w.heap.size + 1, q * 4 + 1, none⟩ (.int .i64 x1)).setCell ⟨w.heap.size + 1, q * 4 + 2, none⟩ (.int .i64 x2)).setCell ⟨w.heap.size + 1, q * 4 + 3, none⟩ (.int .i64 x3) = W4 at HR4 ⊢
          have HS4 := Lib.hid HR4; clear HR4
          have c0 := HS4.out.row.cell (i := q * 4 + c) (by omega)
          have f0 := HS4.out.row.free (q * 4 + c)
          go_region_with (go_at_call 50; refine (HLO.out _).mono ?_; rintro e w1 ⟨rfl, rfl⟩)
          all_goals clear c0 f0
          all_goals
            go_wp2
            go_roundw
            case rel =>
              refine ⟨q, by omega, by go_num, ?_⟩
              refine ((HS4.out.put (q * 4 + c) ((q : Int) + 1)).drewN 1).congr fun i _ => ?_
              obtain ⟨e0, e1, e2, e3⟩ := HE.out
              rw [e0, e1, e2, e3]
              exact fillB_step (by rw [bs_len]; exact hqs) hc HCU.out i
            case measure => simp [intOf]; try omega
        · obtain rfl : q = 0 := by omega
          subst hp
          have HQ0 : Hid (StW w wr (stepG (bs s))) := HQ.out.congr fun i _ => fillB_end _ i
          clear HQ
          have HR1 := Lib.hid HQ0.out.row
          have HR2 := Lib.hid HQ0.out.res
          have HBL := Lib.hid HQ0.out.below
          have HINF : Hid ((Try.prog.info? 72).map (·.size) = some (rowV 248 (stepG (bs s))).size) := by rw [Hid, rowV_size]; exact Try.sizeSteps
          have HZ : Hid ((rowV 248 fun _ => 0).size = (rowV 248 (stepG (bs s))).size) := by rw [Hid, rowV_size, rowV_size]
          have HONE := Lib.hid (rowV_one 248 (stepG (bs s)))
          clear HQ0
          go_wp2_with (first | (refine wpList_load_row (by rfl) 72 (.tmp 3) (by rfl) (w.heap.size + 1) (by rfl) 72 _ (0, 0) _ HR1.out Try.underlying72 (by rfl) HINF.out ?_) | (refine wpList_store_row (by rfl) 72 (.tmp 2) (.tmp 37) (by rfl) w.heap.size _ (by rfl) (by rfl) 72 _ HR2.out HINF.out HZ.out HONE.out ?_))
          refine bodyPost_ret (results_cell_row (by rfl) _ _ w.heap.size 72 _ (0, 0) _ (by rfl) (setRow_heap _ _ _ _ _ _ HR2.out) Try.underlying72 (by rfl) HINF.out) (by rfl) ⟨by rfl, ?_⟩
          exact ⟨HBL.out.os, HBL.out.tape, HBL.out.output, by simpa [World.setRow] using HBL.out.size, fun k hk => (setRow_other _ _ _ _ (by omega)).trans (HBL.out.block k hk)⟩
end Go.Proofs.Ytkemcmeagnggeaa
