import Derived.Test.YtfeohcknopdamaaT34
import Derived.Test.YtfeohcknopdamaaT23
import Derived.Test.YtfeohcknopdamaaT17
import Derived.Laws.Rows
/- Layer 10: slices.Index, smallerBefore, placeOfOrder, firstDifference. -/
namespace Go.Proofs.Ytfeohcknopdamaa
open Go.RowKit
set_option linter.unusedVariables false

theorem index_any (zs : List Int) (x : Int) (p : Nat) (A : Option Addr) (n c : Nat) (w : World) (h : Sl w A n c zs) (hp : p < n) (hx : atI zs p = x) (hb : ∀ j, j < p → atI zs j ≠ x) :
    Calls Try.prog 92 #[.slice A n c, .int .i64 x] w fun e w' => e = .returned (.int .i64 (p : Int)) ∧ w = w' := by
  have hbig := h.big
  have HS := Lib.hid h
  have HX := Lib.hid hx
  have HB := Lib.hid hb
  clear h hx hb
  go_enter Try.func92, Try.ntmps92
  go_wp2
  go_loopw [8] (fun i w' => ∃ k : Nat, k ≤ p ∧ i = .int .i64 (k : Int) ∧ w = w') (fun i _ => p - (intOf i).toNat)
  case atStart => exact ⟨0, Nat.zero_le _, by go_num, rfl⟩
  case round =>
    obtain ⟨k, hk, rfl, rfl⟩ := hrel
    have i1 : (k : Int) < (n : Int) := by omega
    obtain ⟨b, off, rfl, hcell⟩ := HS.out.at_ (k := k) (by omega)
    rw [show zs[k]?.getD 0 = atI zs k from rfl] at hcell
    by_cases hkp : k < p
    · have n1 : (x == atI zs k) = false := by rw [beq_eq_false_iff_ne]; exact fun e => HB.out k hkp e.symm
      generalize atI zs k = z at *
      go_wp2
      exact ⟨⟨k + 1, by omega, by go_num, trivial⟩, by simp [intOf]; omega⟩
    · obtain rfl : k = p := by omega
      rw [HX.out] at hcell
      have n1 : (x == x) = true := by simp
      go_wp2
      go_ret
      exact ⟨rfl, rfl⟩
/-- How many of the first k are smaller than x. -/
def cntB (zs : List Int) (x : Int) (k : Nat) : Nat := ((zs.take k).filter fun y => decide (y < x)).length
theorem cntB_step {zs : List Int} {x : Int} {k : Nat} (h : k < zs.length) : cntB zs x (k + 1) = cntB zs x k + if atI zs k < x then 1 else 0 := by
  unfold cntB
  rw [List.take_succ_eq_append_getElem h, List.filter_append, List.length_append, ← atI_get h]
  congr 1
  by_cases e : atI zs k < x
  · rw [if_pos e, List.filter_cons, if_pos (decide_eq_true e)]; rfl
  · rw [if_neg e, List.filter_cons, if_neg (by rw [decide_eq_true_iff]; exact e)]; rfl
theorem cntB_le (zs : List Int) (x : Int) (k : Nat) : cntB zs x k ≤ k := by
  unfold cntB
  exact Nat.le_trans (List.length_filter_le _ _) (List.length_take_le _ _)
set_option maxHeartbeats 1600000 in
theorem smallerBefore_any (zs : List Int) (x : Int) (p : Nat) (A : Option Addr) (n c : Nat) (w : World) (h : Sl w A n c zs) (hp : p < n) (hx : atI zs p = x) (hb : ∀ j, j < p → atI zs j ≠ x) :
    Calls Try.prog 82 #[.slice A n c, .int .i64 x] w fun e w' => e = .returned (.int .i64 ((cntB zs x p : Nat) : Int)) ∧ w = w' := by
  have hbig := h.big
  have hcap := h.cap
  have HS := Lib.hid h
  have HL : Hid (zs.length = n) := h.len
  have HI := Lib.hid (index_any zs x p A n c w h hp hx hb)
  have hsl := fun W => slice_hd A n c (k := p) (by omega) hcap W
  clear h hx hb
  go_enter Try.func82, Try.ntmps82
  go_wp2_with (go_at_call 92; (with_reducible refine HI.out.mono ?_); rintro e w1 ⟨rfl, rfl⟩)
  clear hsl
  go_loopw [5, 14] (fun s i w' => ∃ k : Nat, k ≤ p ∧ i = .int .i64 (k : Int) ∧ s = .int .i64 ((cntB zs x k : Nat) : Int) ∧ w = w') (fun _ i _ => p - (intOf i).toNat)
  case atStart => exact ⟨0, Nat.zero_le _, by go_num, rfl, rfl⟩
  case round =>
    obtain ⟨k, hk, rfl, rfl, rfl⟩ := hrel
    by_cases hkp : k < p
    · have i1 : (k : Int) < (p : Int) := by omega
      obtain ⟨b, off, rfl, hcell⟩ := HS.out.at_ (k := k) (by omega)
      rw [show zs[k]?.getD 0 = atI zs k from rfl] at hcell
      have hst := cntB_step (zs := zs) (x := x) (k := k) (by rw [HL.out]; omega)
      have hle := cntB_le zs x k
      generalize atI zs k = z at *
      by_cases hzx : z < x
      · rw [if_pos hzx] at hst
        have HST := Lib.hid hst
        have d1 : decide (z < x) = true := decide_eq_true hzx
        clear hst
        generalize cntB zs x k = s at *
        go_wp2
        exact ⟨⟨k + 1, by omega, by go_num, by rw [HST.out]; go_num, trivial⟩, by simp [intOf]; omega⟩
      · rw [if_neg hzx] at hst
        have HST := Lib.hid hst
        have d1 : decide (z < x) = false := decide_eq_false hzx
        clear hst
        go_wp2
        exact ⟨⟨k + 1, by omega, by go_num, by rw [HST.out]; rfl, trivial⟩, by simp [intOf]; omega⟩
    · obtain rfl : k = p := by omega
      have i1 : ¬ (k : Int) < (k : Int) := by omega
      go_wp2
      go_ret
      exact ⟨rfl, rfl⟩
theorem OrP.upTo {n : Nat} {zs : List Int} (h : OrP n zs) : ∀ d k, k + d = n → OrP k (upTo k zs)
  | 0, k, e => by
    obtain rfl : k = n := by omega
    rw [upTo_same fun x hx => (h.rng x hx).2]; exact h
  | d + 1, k, e => by
    have := (OrP.upTo h d (k + 1) (by omega)).down.1
    rwa [upTo_upTo (Nat.le_succ k)] at this
theorem OrP.mem {n : Nat} {zs : List Int} (h : OrP n zs) {m : Nat} (hm : m < n) : ((m + 1 : Nat) : Int) ∈ zs := by
  have := (h.upTo (n - (m + 1)) (m + 1) (by omega)).top
  unfold Go.Proofs.Ytfeohcknopdamaa.upTo at this
  exact (List.mem_filter.1 this).1
/-- Where a number stands, and how many smaller ones before it. -/
theorem OrP.place {n : Nat} {zs : List Int} (h : OrP n zs) {m : Nat} (hm : m < n) : ∃ p, p < n ∧ atI zs p = ((m + 1 : Nat) : Int) ∧ (∀ j, j < p → atI zs j ≠ ((m + 1 : Nat) : Int)) ∧ cntB zs ((m + 1 : Nat) : Int) p = ixN (Go.Proofs.Ytfeohcknopdamaa.upTo (m + 1) zs) ((m + 1 : Nat) : Int) := by
  obtain ⟨s, t, e, h1, h2, h3⟩ := mem_split (h.mem hm) h.nd
  have hl := h.len
  rw [e, List.length_append, List.length_cons] at hl
  have hat : ∀ j, j < s.length → atI zs j = atI s j := fun j hj => by
    unfold atI
    rw [e, List.getElem?_append_left hj]
  refine ⟨s.length, by omega, ?_, fun j hj => ?_, ?_⟩
  · unfold atI
    rw [e, List.getElem?_append_right (Nat.le_refl _), Nat.sub_self]; rfl
  · rw [hat j hj, atI_get hj]
    intro e2
    exact h1 (e2 ▸ List.getElem_mem hj)
  · have hu : Go.Proofs.Ytfeohcknopdamaa.upTo (m + 1) zs = Go.Proofs.Ytfeohcknopdamaa.upTo (m + 1) s ++ ((m + 1 : Nat) : Int) :: Go.Proofs.Ytfeohcknopdamaa.upTo (m + 1) t := by
      unfold Go.Proofs.Ytfeohcknopdamaa.upTo
      rw [e, List.filter_append, List.filter_cons, if_pos (decide_eq_true (Int.le_refl _))]
    have hns : ((m + 1 : Nat) : Int) ∉ Go.Proofs.Ytfeohcknopdamaa.upTo (m + 1) s := fun hx => by
      unfold Go.Proofs.Ytfeohcknopdamaa.upTo at hx
      exact h1 (List.mem_filter.1 hx).1
    rw [hu, ixN_split hns]
    unfold cntB Go.Proofs.Ytfeohcknopdamaa.upTo
    rw [e, List.take_left' rfl]
    congr 1
    refine List.filter_congr fun y hy => ?_
    have : y ≠ ((m + 1 : Nat) : Int) := by rintro rfl; exact h1 hy
    by_cases hlt : y < ((m + 1 : Nat) : Int)
    · rw [decide_eq_true hlt, decide_eq_true (by omega)]
    · rw [decide_eq_false hlt, decide_eq_false (by omega)]
theorem rkO_step (k : Nat) (zs : List Int) : rkO (k + 1) (upTo (k + 1) zs) = (k + 1) * rkO k (upTo k zs) + dirN (k + 1) (decide (rkO k (upTo k zs) % 2 = 0)) (ixN (upTo (k + 1) zs) ((k + 1 : Nat) : Int)) := by
  rw [rkO, upTo_upTo (Nat.le_succ k)]
set_option maxRecDepth 100000 in
set_option maxHeartbeats 3200000 in
theorem placeOfOrder_any (zs : List Int) (A : Option Addr) (n c : Nat) (w : World) (h : Sl w A n c zs) (ho : OrP n zs) (hn : n ≤ 18) :
    Calls Try.prog 65 #[.slice A n c] w fun e w' => e = .returned (.int .i64 ((rkO n zs : Nat) : Int)) ∧ Below w.heap.size w w' := by
  have HS := Lib.hid (fun V (hV : Below w.heap.size w V) => h.below hV (Nat.le_refl _))
  have HO := Lib.hid ho
  clear h ho
  go_enter Try.func65, Try.ntmps65
  go_wp2
  go_loopw [3, 8] (fun a i w' => ∃ k : Nat, k ≤ n ∧ i = .int .i64 (k : Int) ∧ a = .int .i64 ((rkO k (upTo k zs) : Nat) : Int) ∧ Hid (Below w.heap.size w w')) (fun _ i _ => n - (intOf i).toNat)
  case atStart => exact ⟨0, Nat.zero_le _, by go_num, rfl, Below.refl _ _⟩
  case round =>
    obtain ⟨k, hk, rfl, rfl, HB⟩ := hrel
    obtain ⟨wo, rfl⟩ : ∃ wo : World, wo = wr := ⟨_, rfl⟩
    by_cases hlt : k < n
    · have i1 : (k : Int) < (n : Int) := by omega
      obtain ⟨p, hp, hx, hbf, hcn⟩ := HO.out.place hlt
      have hst := rkO_step k zs
      have ho1 := HO.out.upTo (n - (k + 1)) (k + 1) (by omega)
      have hle := ho1.down.2.1
      rw [← hcn] at hst hle
      have hr1 := (oN_rkO k _ (HO.out.upTo (n - k) k (by omega))).2
      have hr2 := (oN_rkO (k + 1) _ ho1).2
      have hf1 := fac_le (n := k) (by omega)
      have hf2 := fac_le (n := k + 1) (by omega)
      have HSB := Lib.hid (fun V (hV : Below w.heap.size w V) => smallerBefore_any zs ((k + 1 : Nat) : Int) p A n c V (HS.out V hV) hp hx hbf)
      clear hx hbf hcn ho1
      generalize cntB zs ((k + 1 : Nat) : Int) p = q at *
      generalize rkO k (upTo k zs) = a at *
      obtain ⟨q2, hq2⟩ : ∃ q2, q2 = dirN (k + 1) (decide (a % 2 = 0)) q := ⟨_, rfl⟩
      have hq2l : q2 < k + 1 := by rw [hq2]; exact dirN_lt (by omega)
      rw [← hq2] at hst
      obtain ⟨V1, hV1⟩ : ∃ V1, V1 = dirW wo ((k + 1 : Nat) : Int) (decide (a % 2 = 0)) := ⟨_, rfl⟩
      have hdc := dirW_cells wo ((k + 1 : Nat) : Int) (decide (a % 2 = 0))
      have hdb := dirW_below wo ((k + 1 : Nat) : Int) (decide (a % 2 = 0))
      have HIN : Hid (Calls Try.prog 80 #[.int .i64 ((k : Int) + 1), .int .i64 (a : Int)] wo fun e w' => e = .returned (.func (.func 89) #[] #[.pointer (some ⟨wo.heap.size + 1, 0, none⟩), .pointer (some ⟨wo.heap.size, 0, none⟩)]) ∧ w' = V1) :=
        (inserted_any (k + 1) a wo (by omega) (by omega)).mono fun e w' he => ⟨he.1, by rw [he.2, hV1]⟩
      rw [← hV1] at hdc hdb
      clear hV1
      have HCL : Hid (Calls Try.prog 89 #[.int .i64 (q : Int), .pointer (some ⟨wo.heap.size + 1, 0, none⟩), .pointer (some ⟨wo.heap.size, 0, none⟩)] V1 fun e w' => e = .returned (.int .i64 (q2 : Int)) ∧ V1 = w') := by
        have := dirc_any (k + 1) q wo.heap.size (decide (a % 2 = 0)) V1 (by omega) (by omega) hdc.1 hdc.2
        rw [← hq2] at this
        exact this
      have HBV : Hid (Below w.heap.size w V1) := HB.out.trans (hdb.mono HB.out.size)
      have HSC : Hid (Calls Try.prog 82 #[.slice A n c, .int .i64 ((k : Int) + 1)] V1 fun e w' => e = .returned (.int .i64 (q : Int)) ∧ V1 = w') := HSB.out V1 HBV.out
      have hp1 : a * (k + 1) ≤ 6402373705728000 := by
        rw [hst, Nat.mul_comm] at hr2
        omega
      have W1 : Hid (IntKind.i64.wrap ((a : Int) * ((k : Int) + 1)) = ((a * (k + 1) : Nat) : Int)) := by rw [Hid, show (k : Int) + 1 = ((k + 1 : Nat) : Int) from rfl, ← Int.natCast_mul]; exact IntWalk.i64_in _ (by omega)
      have W2 : Hid (IntKind.i64.wrap (((a * (k + 1) : Nat) : Int) + (q2 : Int)) = ((a * (k + 1) + q2 : Nat) : Int)) := by rw [Hid, ← Int.natCast_add]; exact IntWalk.i64_in _ (by omega)
      have HST : Hid (rkO (k + 1) (upTo (k + 1) zs) = a * (k + 1) + q2) := by rw [Hid, hst, Nat.mul_comm]
      clear hdc hdb hst hr1 hr2 hp1 hq2 hf1 hf2 hle HSB
      generalize a * (k + 1) = s at *
      have x1 := W1.out
      have x2 := W2.out
      go_wp2_with (first | (go_at_call 80; (with_reducible refine HIN.out.mono ?_); rintro e w1 ⟨rfl, rfl⟩) | (go_at_call 82; (with_reducible refine HSC.out.mono ?_); rintro e w1 ⟨rfl, rfl⟩) | (go_at_call 89; (with_reducible refine HCL.out.mono ?_); rintro e w1 ⟨rfl, rfl⟩))
      clear x1 x2
      exact ⟨⟨k + 1, by omega, by go_num, by rw [HST.out, Int.natCast_add], HBV.out⟩, by simp [intOf]; omega⟩
    · have hkn : k = n := by omega
      have HX : Hid (rkO n zs = rkO k (upTo k zs)) := by rw [Hid, hkn, upTo_same fun x hx => (HO.out.rng x hx).2]
      have i1 : ¬ (k : Int) < (n : Int) := by omega
      clear hkn
      generalize rkO k (upTo k zs) = a at *
      go_wp2
      go_ret
      exact ⟨by rw [HX.out]; rfl, HB.out⟩
set_option maxHeartbeats 1600000 in
theorem firstDifference_any (xs ys : List Int) (p : Nat) (A B : Option Addr) (n c d : Nat) (w : World) (hx : Sl w A n c xs) (hy : Sl w B n d ys) (hp : p < n) (he : ∀ j, j < p → atI xs j = atI ys j) (hd : atI xs p ≠ atI ys p) :
    Calls Try.prog 83 #[.slice A n c, .slice B n d] w fun e w' => e = .returned (.int .i64 (p : Int)) ∧ Dr w w' := by
  have hbig := hx.big
  have HX := Lib.hid (fun V (hV : Dr w V) => hx.dr hV)
  have HY := Lib.hid (fun V (hV : Dr w V) => hy.dr hV)
  have HE := Lib.hid he
  have HD := Lib.hid hd
  clear hx hy he hd
  go_enter Try.func83, Try.ntmps83
  go_wp2
  go_loopw [5] (fun i w' => ∃ k : Nat, k ≤ p ∧ i = .int .i64 (k : Int) ∧ Hid (Dr w w')) (fun i _ => p - (intOf i).toNat)
  case atStart => exact ⟨0, Nat.zero_le _, by go_num, Dr.refl _⟩
  case round =>
    obtain ⟨k, hk, rfl, HDR⟩ := hrel
    obtain ⟨wo, rfl⟩ : ∃ wo : World, wo = wr := ⟨_, rfl⟩
    have i1 : (k : Int) < (n : Int) := by omega
    have hx1 := (HX.out wo HDR.out).at_ (k := k) (by omega)
    have hy1 := (HY.out wo HDR.out).at_ (k := k) (by omega)
    rw [show xs[k]?.getD 0 = atI xs k from rfl] at hx1
    rw [show ys[k]?.getD 0 = atI ys k from rfl] at hy1
    by_cases hkp : k < p
    · have h1 := HE.out k hkp
      rw [← h1] at hy1
      clear h1
      generalize atI xs k = x at *
      obtain ⟨b1, o1, rfl, e1⟩ := hx1
      obtain ⟨b2, o2, rfl, e2⟩ := hy1
      have n1 : (x == x) = true := by simp
      go_wp2
      go_quiet (fail)
      go_wp2
      exact ⟨⟨k + 1, by omega, by go_num, HDR.out.more _⟩, by simp [intOf]; omega⟩
    · obtain rfl : k = p := by omega
      have n1 : (atI xs k == atI ys k) = false := by rw [beq_eq_false_iff_ne]; exact HD.out
      generalize atI xs k = x at *
      generalize atI ys k = y at *
      obtain ⟨b1, o1, rfl, e1⟩ := hx1
      obtain ⟨b2, o2, rfl, e2⟩ := hy1
      go_wp2
      go_quiet (fail)
      go_wp2
      go_ret
      exact ⟨rfl, HDR.out.more _⟩
end Go.Proofs.Ytfeohcknopdamaa
/- Layer 10: turn, OrderAt, Turn, case by case. -/
namespace Go.Proofs.Ytfeohcknopdamaa
open Go.RowKit
set_option linter.unusedVariables false

theorem swp_first {n t : Nat} {zs ys : List Int} (ho : OrP n zs) (h : Swp zs ys t) : t + 1 < n ∧ (∀ j, j < t → atI zs j = atI ys j) ∧ atI zs t ≠ atI ys t := by
  obtain ⟨h1, h2, h3, h4, h5⟩ := h
  have hl := ho.len
  refine ⟨by omega, fun j hj => (h5 j (by omega) (by omega)).symm, ?_⟩
  rw [h3, atI_get (by omega), atI_get h2]
  have hnd := ho.nd
  rw [List.nodup_iff_pairwise_ne, List.pairwise_iff_getElem] at hnd
  exact hnd t (t + 1) (by omega) h2 (by omega)
theorem Try.infoTwo : (Try.prog.info? 35).map (·.size) = some 2 := by kernel_rfl
theorem results_row_tmp {P : Program} {fn : Func} {p u : Tmp} {ty : TypeId} (h : fn.results = #[.cell p ty, .tmp u]) (tmps : Array Value) (w : World) (g : Nat) (t : TypeId) (cs : Array Value) (fr : Nat × Nat) (d : TypeDesc)
    (hp : tmps.getD p undef = .pointer (some ⟨g, 0, none⟩)) (hg : w.heap[g]? = some (.cells cs t fr))
    (hu : P.underlying ty = some d) (hd : (match d with | .struct _ | .array _ _ => true | _ => false) = true) (hi : (P.info? ty).map (·.size) = some cs.size) :
    (results fn tmps).run P w = .ok (.tuple #[.agg cs, tmps.getD u undef]) w := by
  have hp' : tmps[p]?.getD undef = .pointer (some ⟨g, 0, none⟩) := by simpa using hp
  simp [results, h, hp', asAddr, run_loadVar_row w g t ty cs fr d hg hu hd hi]
theorem below_setRow {B g : Nat} {w W : World} (h : Below B w W) (hB : B ≤ g) (cs : Array Value) : Below B w (W.setRow g cs) :=
  ⟨h.os, h.tape, h.output, by simpa [World.setRow] using h.size, fun k hk => (setRow_other _ _ _ _ (by omega)).trans (h.block k hk)⟩
def two (x y : Int) : Array Value := #[.int .i64 x, .int .i64 y]
theorem two_one (x y : Int) : (two x y).all (·.oneCell') = true := by simp [two, Value.oneCell']
/-- The box of a pair. -/
def Bx2 (w : World) (g : Nat) (x y : Int) : Prop := w.heap[g]? = some (.cells (two x y) 35 (0, 0))
theorem Bx2.below {w W : World} {g B : Nat} {x y : Int} (h : Bx2 w g x y) (hb : Below B w W) (hg : g < B) : Bx2 W g x y := (hb.block g hg).trans h
theorem Bx2.new (w : World) (x y : Int) : Bx2 (w.alloc (.cells #[.int .i64 x, .int .i64 y] 35)) w.heap.size x y := World.alloc_heap_new _ _
theorem Bx2.lt {w : World} {g : Nat} {x y : Int} (h : Bx2 w g x y) : g < w.heap.size := (Array.getElem?_eq_some_iff.1 h).1
set_option maxRecDepth 100000 in
set_option maxHeartbeats 3200000 in
theorem turn_last (zs : List Int) (A : Option Addr) (n c : Nat) (w : World) (h : Sl w A n c zs) (ho : OrP n zs) (hn : n ≤ 18) (hr : rkO n zs + 1 = fac n) :
    Calls Try.prog 66 #[.slice A n c] w fun e w' => e = .returned (.agg (two (-1) (-1))) ∧ Below w.heap.size w w' := by
  have HP := Lib.hid (fun V (hV : Below w.heap.size w V) => placeOfOrder_any zs A n c V (h.below hV (Nat.le_refl _)) ho hn)
  have HF := Lib.hid (fun V => factorial_any n V hn)
  have hf := fac_le hn
  have HINF : Hid ((Try.prog.info? 35).map (·.size) = some (two (-1) (-1)).size) := Try.infoTwo
  clear h ho
  generalize rkO n zs = r at *
  rw [← hr] at HF hf
  clear hr
  have HBX : Hid (Below w.heap.size w (w.alloc (.cells #[.int .i64 0, .int .i64 0] 35))) := below_one w _
  have H0 := Lib.hid (Bx2.new w 0 0)
  have V1 : IntKind.i64.wrap ((r : Int) + 1) = (r : Int) + 1 := IntWalk.i64_in _ (by omega)
  go_enter Try.func66, Try.ntmps66
  go_wp2_with (first | (go_at_call 65; (with_reducible refine (HP.out _ HBX.out).mono ?_); rintro e w1 ⟨rfl, hb⟩; have HB1 := Lib.hid (HBX.out.trans (hb.mono HBX.out.size)); have H1 := Lib.hid (H0.out.below hb H0.out.lt); clear hb) | (go_at_call 62; (with_reducible refine (HF.out _).mono ?_); rintro e w2 ⟨rfl, hb⟩; have HB2 := Lib.hid (HB1.out.trans (hb.mono HB1.out.size)); have H2 := Lib.hid (H1.out.below hb H1.out.lt); clear hb) | (refine wpList_store_row (by rfl) 35 (.tmp 2) (.tmp 15) (by rfl) w.heap.size (two (-1) (-1)) (by rfl) (by rfl) 35 _ H2.out HINF.out (by rfl) (two_one _ _) ?_))
  refine bodyPost_ret (results_cell_row (by rfl) _ _ w.heap.size 35 (two (-1) (-1)) (0, 0) _ (by rfl) (setRow_heap _ _ _ _ _ _ H2.out) Try.underlying35 (by rfl) HINF.out) (by rfl) ⟨by rfl, ?_⟩
  exact below_setRow HB2.out (Nat.le_refl _) _
set_option maxRecDepth 100000 in
set_option maxHeartbeats 3200000 in
theorem turn_next (zs : List Int) (t : Nat) (A : Option Addr) (n c : Nat) (w : World) (h : Sl w A n c zs) (ho : OrP n zs) (hn : n ≤ 18) (hr : rkO n zs + 1 < fac n) (ht : Swp zs (oN n (rkO n zs + 1)) t) :
    Calls Try.prog 66 #[.slice A n c] w fun e w' => e = .returned (.agg (two (t : Int) ((t : Int) + 1))) ∧ Below w.heap.size w w' := by
  have HP := Lib.hid (fun V (hV : Below w.heap.size w V) => placeOfOrder_any zs A n c V (h.below hV (Nat.le_refl _)) ho hn)
  have HF := Lib.hid (fun V => factorial_any n V hn)
  have hf := fac_le hn
  have HS := Lib.hid (fun V (hV : Below w.heap.size w V) => h.below hV (Nat.le_refl _))
  obtain ⟨ht1, ht2, ht3⟩ := swp_first ho ht
  have HD := Lib.hid (fun V B d (hV : Below w.heap.size w V) (hs : Sl V B n d (oN n (rkO n zs + 1))) => firstDifference_any zs (oN n (rkO n zs + 1)) t A B n c d V (h.below hV (Nat.le_refl _)) hs (by omega) ht2 ht3)
  have HO : Hid (∀ V, Calls Try.prog 63 #[.int .i64 (n : Int), .int .i64 ((rkO n zs : Int) + 1)] V fun e w' => (∃ v, e = .returned v ∧ Ow w' V.heap.size 3 v (oN n (rkO n zs + 1))) ∧ Below V.heap.size V w') := fun V => orderIn_any n (rkO n zs + 1) V hn hr
  have HON : Hid ((oN n (rkO n zs + 1)).length = n) := oN_len _ _
  have HINF : Hid ((Try.prog.info? 35).map (·.size) = some (two (t : Int) ((t : Int) + 1)).size) := Try.infoTwo
  clear h ho ht ht2 ht3
  generalize oN n (rkO n zs + 1) = ys at *
  generalize rkO n zs = r at *
  have HBX : Hid (Below w.heap.size w (w.alloc (.cells #[.int .i64 0, .int .i64 0] 35))) := below_one w _
  have H0 := Lib.hid (Bx2.new w 0 0)
  have V1 : IntKind.i64.wrap ((r : Int) + 1) = (r : Int) + 1 := IntWalk.i64_in _ (by omega)
  generalize fac n = q at *
  have e1 : ((r : Int) + 1 == (q : Int)) = false := by rw [beq_eq_false_iff_ne]; omega
  go_enter Try.func66, Try.ntmps66
  go_wp2_with (first
    | (go_at_call 65; (with_reducible refine (HP.out _ HBX.out).mono ?_); rintro e w1 ⟨rfl, hb⟩; have HB1 := Lib.hid (HBX.out.trans (hb.mono HBX.out.size)); have H1 := Lib.hid (H0.out.below hb H0.out.lt); clear hb)
    | (go_at_call 62; (with_reducible refine (HF.out _).mono ?_); rintro e w2 ⟨rfl, hb⟩; have HB2 := Lib.hid (HB1.out.trans (hb.mono HB1.out.size)); have H2 := Lib.hid (H1.out.below hb H1.out.lt); clear hb)
    | (go_at_call 63; (with_reducible refine (HO.out _).mono ?_); rintro e w3 ⟨⟨v, rfl, hv⟩, hb⟩; obtain ⟨B, d, rfl, hs⟩ := hv.sl_len HON.out (by omega); have HB3 := Lib.hid (HB2.out.trans (hb.mono HB2.out.size)); have H3 := Lib.hid (H2.out.below hb H2.out.lt); have HS3 := Lib.hid hs; clear hv hs hb)
    | (go_at_call 83; (with_reducible refine (HD.out _ _ _ HB3.out HS3.out).mono ?_); rintro e w4 ⟨rfl, hd⟩; have hb := hd.below w3.heap.size; have HB4 := Lib.hid (HB3.out.trans (hb.mono HB3.out.size)); have H4 := Lib.hid (H3.out.below hb H3.out.lt); clear hb hd)
    | (refine wpList_store_row (by rfl) 35 (.tmp 2) (.tmp 24) (by rfl) w.heap.size (two (t : Int) ((t : Int) + 1)) (by rfl) (by rfl) 35 _ H4.out HINF.out (by rfl) (two_one _ _) ?_))
  refine bodyPost_ret (results_cell_row (by rfl) _ _ w.heap.size 35 (two (t : Int) ((t : Int) + 1)) (0, 0) _ (by rfl) (setRow_heap _ _ _ _ _ _ H4.out) Try.underlying35 (by rfl) HINF.out) (by rfl) ⟨by rfl, ?_⟩
  exact below_setRow HB4.out (Nat.le_refl _) _
theorem orderAt_bad (zs : List Int) (A : Option Addr) (n c : Nat) (w : World) (hs : Sl w A n c zs) (h : ordB zs = false) : Calls Try.prog 31 #[.slice A n c] w fun e w' => e = .returned (.tuple #[.int .i64 0, .int .i64 2]) ∧ Below w.heap.size w w' := by
  have HI := Lib.hid (isOrder_any zs A n c w hs)
  rw [h] at HI
  clear h hs
  go_enter Try.func31, Try.ntmps31
  go_wp2_with (go_at_call 64; (with_reducible refine HI.out.mono ?_); rintro e w1 ⟨rfl, hb⟩; have HB := Lib.hid hb; clear hb)
  go_ret2
  exact ⟨rfl, HB.out⟩
theorem orderAt_ok (zs : List Int) (A : Option Addr) (n c : Nat) (w : World) (hs : Sl w A n c zs) (ho : OrP n zs) (hn : n ≤ 18) : Calls Try.prog 31 #[.slice A n c] w fun e w' => e = .returned (.tuple #[.int .i64 ((rkO n zs : Nat) : Int), .int .i64 0]) ∧ Below w.heap.size w w' := by
  have HI := Lib.hid (isOrder_any zs A n c w hs)
  have HP := Lib.hid (fun V (hV : Below w.heap.size w V) => placeOfOrder_any zs A n c V (hs.below hV (Nat.le_refl _)) ho hn)
  rw [or_ordB ho hn] at HI
  clear ho hs
  go_enter Try.func31, Try.ntmps31
  go_wp2_with (first | (go_at_call 64; (with_reducible refine HI.out.mono ?_); rintro e w1 ⟨rfl, hb⟩; have HB := Lib.hid hb; clear hb) | (go_at_call 65; (with_reducible refine (HP.out _ HB.out).mono ?_); rintro e w2 ⟨rfl, hb⟩; have HB2 := Lib.hid (HB.out.trans (hb.mono HB.out.size)); clear hb))
  go_ret2
  exact ⟨rfl, HB2.out⟩
theorem turnP_bad (zs : List Int) (A : Option Addr) (n c : Nat) (w : World) (hs : Sl w A n c zs) (h : ordB zs = false) : Calls Try.prog 32 #[.slice A n c] w fun e w' => e = .returned (.tuple #[.agg (two 0 0), .int .i64 2]) ∧ Below w.heap.size w w' := by
  have HI := Lib.hid (fun V (hV : Below w.heap.size w V) => isOrder_any zs A n c V (hs.below hV (Nat.le_refl _)))
  rw [h] at HI
  have HINF : Hid ((Try.prog.info? 35).map (·.size) = some (two 0 0).size) := Try.infoTwo
  have HBX : Hid (Below w.heap.size w (w.alloc (.cells #[.int .i64 0, .int .i64 0] 35))) := below_one w _
  have H0 := Lib.hid (Bx2.new w 0 0)
  clear h hs
  go_enter Try.func32, Try.ntmps32
  go_wp2_with (first | (go_at_call 64; (with_reducible refine (HI.out _ HBX.out).mono ?_); rintro e w1 ⟨rfl, hb⟩; have HB := Lib.hid (HBX.out.trans (hb.mono HBX.out.size)); have H1 := Lib.hid (H0.out.below hb H0.out.lt); clear hb) | (refine wpList_store_row (by rfl) 35 (.tmp 2) (.tmp 7) (by rfl) w.heap.size (two 0 0) (by rfl) (by rfl) 35 _ H1.out HINF.out (by rfl) (two_one _ _) ?_))
  refine bodyPost_ret (results_row_tmp (by rfl) _ _ w.heap.size 35 (two 0 0) (0, 0) _ (by rfl) (setRow_heap _ _ _ _ _ _ H1.out) Try.underlying35 (by rfl) HINF.out) (by rfl) ⟨by rfl, ?_⟩
  exact below_setRow HB.out (Nat.le_refl _) _
/-- Turn's answer x, y is what turn gives. -/
theorem turnP_ok (zs : List Int) (x y : Int) (A : Option Addr) (n c : Nat) (w : World) (hs : Sl w A n c zs) (ho : OrP n zs) (hn : n ≤ 18)
    (ht : ∀ V, Sl V A n c zs → Calls Try.prog 66 #[.slice A n c] V fun e w' => e = .returned (.agg (two x y)) ∧ Below V.heap.size V w') :
    Calls Try.prog 32 #[.slice A n c] w fun e w' => e = .returned (.tuple #[.agg (two x y), .int .i64 0]) ∧ Below w.heap.size w w' := by
  have HI := Lib.hid (fun V (hV : Below w.heap.size w V) => isOrder_any zs A n c V (hs.below hV (Nat.le_refl _)))
  rw [or_ordB ho hn] at HI
  have HT := Lib.hid (fun V (hV : Below w.heap.size w V) => ht V (hs.below hV (Nat.le_refl _)))
  have HINF : Hid ((Try.prog.info? 35).map (·.size) = some (two x y).size) := Try.infoTwo
  have HBX : Hid (Below w.heap.size w (w.alloc (.cells #[.int .i64 0, .int .i64 0] 35))) := below_one w _
  have H0 := Lib.hid (Bx2.new w 0 0)
  clear ho hs ht
  go_enter Try.func32, Try.ntmps32
  go_wp2_with (first | (go_at_call 64; (with_reducible refine (HI.out _ HBX.out).mono ?_); rintro e w1 ⟨rfl, hb⟩; have HB := Lib.hid (HBX.out.trans (hb.mono HBX.out.size)); have H1 := Lib.hid (H0.out.below hb H0.out.lt); clear hb) | (go_at_call 66; (with_reducible refine (HT.out _ HB.out).mono ?_); rintro e w2 ⟨rfl, hb⟩; have HB2 := Lib.hid (HB.out.trans (hb.mono HB.out.size)); have H2 := Lib.hid (H1.out.below hb H1.out.lt); clear hb) | (refine wpList_store_row (by rfl) 35 (.tmp 2) (.tmp 9) (by rfl) w.heap.size (two x y) (by rfl) (by rfl) 35 _ H2.out HINF.out (by rfl) (two_one _ _) ?_))
  refine bodyPost_ret (results_row_tmp (by rfl) _ _ w.heap.size 35 (two x y) (0, 0) _ (by rfl) (setRow_heap _ _ _ _ _ _ H2.out) Try.underlying35 (by rfl) HINF.out) (by rfl) ⟨by rfl, ?_⟩
  exact below_setRow HB2.out (Nat.le_refl _) _
end Go.Proofs.Ytfeohcknopdamaa
