import Derived.Test.YtcnjkdkkflpgnaaT15
/- Layer 8: rest, its walk. -/
namespace Go.Proofs.Ytcnjkdkkflpgnaa
open Go.RowKit Go.Shelf
set_option linter.unusedVariables false
attribute [local go_sem] Oper.semAt_some

theorem wp_then_false {P : Program} {c : Code} {K : Act → World → Prop} {Q : Exit → Act → World → Prop} {a : Act} {w : World} (h : c.wp P (Exit.then K (fun _ _ _ => False)) a w) : c.wp P (Exit.then K Q) a w :=
  Code.wp_mono (fun e a w hq => by
    cases e
    case normal => exact hq
    all_goals exact hq.elim) h
/-- The rows of rest that are ready: the last j + 1. -/
def RsA (w V : World) (pr n nn : Nat) (F : Nat → List Int) (j : Nat) : Prop :=
  ∃ cs, V.heap[pr]? = some (.cells cs 22 (0, 0)) ∧ cs.size = n + 1 ∧ ∀ i, n - j ≤ i → i ≤ n → ∃ g, cs[i]? = some (.slice (some ⟨g, 0, none⟩) nn nn) ∧ Ow V w.heap.size 3 (.slice (some ⟨g, 0, none⟩) nn nn) (F (n - i))
/-- What rest keeps. -/
structure RsI (w : World) (rb b1 b5 pr n nn : Nat) (F : Nat → List Int) (j : Nat) (V : World) : Prop where
  r1 : V.heap[b1]? = some (.cells #[.pointer (some ⟨rb, 0, none⟩)] 85 (0, 0))
  r5 : V.heap[b5]? = some (.cells #[.slice (some ⟨pr, 0, none⟩) (n + 1) (n + 1)] 43 (0, 0))
  ar : RsA w V pr n nn F j
  bl : Below w.heap.size w V
theorem Ow.blk {w : World} {B g n m : Nat} {zs : List Int} (h : Ow w B 3 (.slice (some ⟨g, 0, none⟩) n m) zs) : ∃ cur, w.heap[g]? = some (.cells cur 3 (0, 0)) := by
  rcases h.2 with ⟨e, _⟩ | ⟨g2, cap, cur, h1, h2, h3, h4⟩
  · cases e
  · injection h1 with h1 _ _
    have h1 := Option.some.inj h1
    injection h1 with h1 _ _
    subst h1
    exact ⟨cur, h3⟩
/-- Changes at blocks that are none of these. -/
theorem RsI.keep {w : World} {rb b1 b5 pr n nn : Nat} {F : Nat → List Int} {j : Nat} {V V' : World} (h : RsI w rb b1 b5 pr n nn F j V) (hk : ∀ (k : Nat) (o : Obj), V.heap[k]? = some o → (∃ cs t f, o = Obj.cells cs t f) → V'.heap[k]? = V.heap[k]?) (hb : Below w.heap.size w V') : RsI w rb b1 b5 pr n nn F j V' := by
  obtain ⟨cs, h1, h2, h3⟩ := h.ar
  refine ⟨(hk _ _ h.r1 ⟨_, _, _, rfl⟩).trans h.r1, (hk _ _ h.r5 ⟨_, _, _, rfl⟩).trans h.r5, ⟨cs, (hk _ _ h1 ⟨_, _, _, rfl⟩).trans h1, h2, fun i hi hi2 => ?_⟩, hb⟩
  obtain ⟨g, hg, ho⟩ := h3 i hi hi2
  obtain ⟨cur, hc⟩ := ho.blk
  exact ⟨g, hg, ho.at_ (hk _ _ hc ⟨_, _, _, rfl⟩)⟩
/-- A list while it is filled. -/
def mixL (f : Nat → Int) (n t : Nat) : List Int := (List.range t).map f ++ List.replicate (n - t) 0
theorem mixL_len (f : Nat → Int) {n t : Nat} (h : t ≤ n) : (mixL f n t).length = n := by simp [mixL]; omega
theorem mixL_set (f : Nat → Int) {n t : Nat} (h : t < n) : (mixL f n t).set t (f t) = mixL f n (t + 1) := by
  unfold mixL
  rw [List.set_append, if_neg (by simp), List.length_map, List.length_range, Nat.sub_self, List.range_succ, List.map_append, List.append_assoc]
  obtain ⟨m, hm⟩ : ∃ m, n - t = m + 1 := ⟨n - t - 1, by omega⟩
  rw [hm, List.replicate_succ, List.set_cons_zero, show n - (t + 1) = m by omega]
  rfl
/-- What stands while one row of rest is made, in block g. -/
structure BdS (w V0 : World) (g pr n1 : Nat) (cs2 : Array Value) (cur : List Int) (X : World) : Prop where
  pa : X.heap[pr]? = some (.cells cs2 22 (0, 0))
  own : Ow X w.heap.size 3 (.slice (some ⟨g, 0, none⟩) n1 n1) cur
  bl : Below w.heap.size w X
  oth : ∀ k, k < V0.heap.size → k ≠ pr → X.heap[k]? = V0.heap[k]?
  sz : V0.heap.size ≤ X.heap.size
section
variable {w V0 : World} {g pr n1 : Nat} {cs2 : Array Value} {cur : List Int} {X : World}
theorem BdS.next (h : BdS w V0 g pr n1 cs2 cur X) {X' : World} (hb : Below X.heap.size X X') : BdS w V0 g pr n1 cs2 cur X' :=
  ⟨(hb.block pr (Array.getElem?_eq_some_iff.1 h.pa).1).trans h.pa, h.own.below hb (Nat.le_refl _), h.bl.trans (hb.mono h.bl.size), fun k hk hne => (hb.block k (Nat.lt_of_lt_of_le hk h.sz)).trans (h.oth k hk hne), Nat.le_trans h.sz hb.size⟩
theorem BdS.ne (h : BdS w V0 g pr n1 cs2 cur X) : g ≠ pr := fun e => by
  obtain ⟨c1, h1⟩ := h.own.blk
  have h2 := h.pa
  rw [← e, h1] at h2
  injection h2 with h2
  injection h2 with _ h2 _
  exact absurd h2 (by decide)
theorem BdS.put (h : BdS w V0 g pr n1 cs2 cur X) (hl : cur.length = n1) (hg : V0.heap.size ≤ g) (hw : w.heap.size ≤ g) (k : Nat) (x : Int) : BdS w V0 g pr n1 cs2 (cur.set k x) (X.setCell ⟨g, k, none⟩ (.int .i64 x)) :=
  ⟨(set_oth h.ne.symm).trans h.pa, h.own.put hl k x, h.bl.setCell (p := ⟨g, k, none⟩) hw _, fun j hj hne => (set_oth (by omega)).trans (h.oth j hj hne), by simpa [World.setCell] using h.sz⟩
end
set_option maxRecDepth 100000 in
set_option maxHeartbeats 6400000 in
theorem rest_any (m : Nat) (L R : List (List Int)) (zs : List Int) (A : Option Addr) (n c rb : Nat) (w : World) (hL : LaidR m L R) (h : RowR w rb L R) (hs : Sl w A n c zs) (hn : n ≤ 60) (hz : ∀ i, i < n → ∃ r : Nat, atI zs i = (r : Int) ∧ r < m) :
    Calls Try.prog 62 #[.pointer (some ⟨rb, 0, none⟩), .slice A n c] w fun e w' => (∃ pr, e = .returned (.slice (some ⟨pr, 0, none⟩) (n + 1) (n + 1)) ∧ RsA w w' pr n L.length (rjF L R (m - 1) zs) n) ∧ Below w.heap.size w w' := by
  obtain ⟨Rr, hR⟩ : ∃ R' : Ending → World → Prop, R' = fun e w' => (∃ pr, e = .returned (.slice (some ⟨pr, 0, none⟩) (n + 1) (n + 1)) ∧ RsA w w' pr n L.length (rjF L R (m - 1) zs) n) ∧ Below w.heap.size w w' := ⟨_, rfl⟩
  rw [← hR]
  have HRR := Lib.hid hR
  have HL : Hid (zs.length = n) := hs.len
  have HAL : Hid (∀ b off, A = some ⟨b, off, none⟩ → 0 < n → b < w.heap.size) := fun b off hA h0 => by
    obtain ⟨b2, o2, h1, h2⟩ := hs.at_ h0
    rw [hA] at h1
    have h1 := Option.some.inj h1
    injection h1 with h1 _ _
    rw [h1]
    exact cell_lt h2
  have HSL := Lib.hid (fun V (hV : Below w.heap.size w V) => hs.below hV (Nat.le_refl _))
  have HRW := Lib.hid (fun V (hV : Below w.heap.size w V) => h.below hV)
  have HLA := Lib.hid hL
  have HZ := Lib.hid hz
  have HFS : Hid (∀ j, j ≤ n → smallZ (rjF L R (m - 1) zs j) 1000) := fun j hj i => by
    have := rjF_small hL (zs := zs) (fun i hi => hz i (by rw [HL.out] at hi; exact hi)) j (by rw [HL.out]; exact hj) i
    omega
  obtain ⟨nn, hnn⟩ : ∃ nn, nn = L.length := ⟨_, rfl⟩
  rw [← hnn] at HRR
  have HFL : Hid (∀ j, (rjF L R (m - 1) zs j).length = nn) := fun j => by rw [rjF_len, hnn]
  obtain ⟨A1, n1, c1, e1, h1⟩ := h.o
  have hn1 : n1 = nn := by have := h1.len; omega
  subst hn1
  have hbig := h1.big
  have HRB : Hid (rb < w.heap.size) := h.lt
  have HE1 : Hid (∀ V, Below w.heap.size w V → V.cell? ⟨rb, 0, none⟩ = some (.slice A1 n1 c1)) := fun V hV => (hV.cell (p := ⟨rb, 0, none⟩) h.lt).trans e1
  obtain ⟨F, hF⟩ : ∃ F, F = rjF L R (m - 1) zs := ⟨_, rfl⟩
  rw [← hF] at HRR HFS HFL
  have HF := Lib.hid hF
  have HNN := Lib.hid hnn
  obtain ⟨w1, hw1⟩ : ∃ v, v = w.alloc (.cells #[.pointer (some ⟨rb, 0, none⟩)] 85) := ⟨_, rfl⟩
  have hb1 : Below w.heap.size w w1 := by rw [hw1]; exact (Below.refl _ w).alloc (Nat.le_refl _) _
  have hr1 : w1.heap[w.heap.size]? = some (.cells #[.pointer (some ⟨rb, 0, none⟩)] 85 (0, 0)) := by rw [hw1]; exact heap_alloc_new _ _
  have hz1 : w1.heap.size = w.heap.size + 1 := by rw [hw1]; simp
  obtain ⟨w2, u1, ⟨cs, u2, u3, u4⟩, u5⟩ := run_makeS w1 (n + 1) (by omega)
  have u0 := u1
  clear u1
  have u1 : (Instr.makeSlice 43 (.int .i64 ((n : Int) + 1)) (.int .i64 ((n : Int) + 1))).run Try.prog w1 = .ok (.slice (some ⟨w1.heap.size, 0, none⟩) (n + 1) (n + 1)) w2 := u0
  have v1 : IntKind.i64.wrap ((n : Int) + 1) = (n : Int) + 1 := IntWalk.i64_in _ (by omega)
  have HW1 := Lib.hid hw1
  clear hL h hs hz hR hnn h1 e1 hF hw1 u0
  refine (callsIn_wide (n := 9)).1 ?_
  refine callsIn_of_wp_marks Try.func62 rfl trivial ?_ rfl
  simp only [Try.ntmps62, List.size_toArray, List.length_cons, List.length_nil, Nat.reduceAdd, Nat.reduceSub, Array.replicate_succ, Array.replicate_zero, List.push_toArray, List.append_toArray, List.nil_append, List.cons_append]
  refine wpIn_wide.2 ?_
  have HB1 := Lib.hid hb1
  have HR1 := Lib.hid hr1
  have HZ1 := Lib.hid hz1
  have HU2 := Lib.hid u2
  have HU3 := Lib.hid u3
  have HU4 := Lib.hid u4
  have HU5 := Lib.hid u5
  clear hb1 hr1 hz1 u2 u3 u4 u5
  go_upto_region 1 with (fail)
  rw [← HW1.out]
  go_upto_region 2 with (fail)
  obtain ⟨W3, hW3⟩ : ∃ V, V = w2.alloc (.cells #[.slice (some ⟨w1.heap.size, 0, none⟩) (n + 1) (n + 1)] 43) := ⟨_, rfl⟩
  rw [← hW3]
  have hbe : Below w1.heap.size w1 w2 := ⟨HU5.out.os, HU5.out.tape, HU5.out.output, HU5.out.size, fun k hk => HU5.out.block k hk (by simp)⟩
  have hb23 : Below w2.heap.size w2 W3 := by rw [hW3]; exact (Below.refl _ w2).alloc (Nat.le_refl _) _
  have hz2 : w1.heap.size < w2.heap.size := (Array.getElem?_eq_some_iff.1 HU2.out).1
  have hz3 : W3.heap.size = w2.heap.size + 1 := by rw [hW3]; simp
  have h5 : W3.heap[w2.heap.size]? = some (.cells #[.slice (some ⟨w1.heap.size, 0, none⟩) (n + 1) (n + 1)] 43 (0, 0)) := by rw [hW3]; exact heap_alloc_new _ _
  have hpr : W3.heap[w1.heap.size]? = some (.cells cs 22 (0, 0)) := (hb23.block _ hz2).trans HU2.out
  have h1 : W3.heap[w.heap.size]? = some (.cells #[.pointer (some ⟨rb, 0, none⟩)] 85 (0, 0)) := (hb23.block _ (by have := HZ1.out; omega)).trans ((hbe.block _ (by have := HZ1.out; omega)).trans HR1.out)
  have hb03 : Below w.heap.size w W3 := (HB1.out.trans (hbe.mono (by have := HZ1.out; omega))).trans (hb23.mono (by have := HZ1.out; omega))
  have HZS : Hid (w.heap.size < w1.heap.size ∧ w1.heap.size < w2.heap.size ∧ w2.heap.size + 1 = W3.heap.size) := ⟨by have := HZ1.out; omega, hz2, by omega⟩
  have H1 := Lib.hid h1
  have H5 := Lib.hid h5
  have HPR := Lib.hid hpr
  have HB3 := Lib.hid hb03
  clear hW3 hbe hb23 hz2 hz3 h5 hpr h1 hb03 HU2 HU5 HB1 HR1 HZ1 HW1 u1
  generalize w1.heap.size = pr at *
  generalize w2.heap.size = b5 at *
  obtain ⟨w4, u1, u2, u3⟩ := run_makeI W3.drew n1 w.heap.size hbig HB3.out.size
  have hs4 : W3.heap.size < w4.heap.size := (u2.lt (k := W3.heap.size) rfl).2
  have HSX : Hid (∀ V : World, (∀ k, k < W3.heap.size → V.heap[k]? = W3.heap[k]?) → V.cell? ⟨b5, 0, none⟩ = some (.slice (some ⟨pr, 0, none⟩) (n + 1) (n + 1)) ∧ V.cell? ⟨w.heap.size, 0, none⟩ = some (.pointer (some ⟨rb, 0, none⟩)) ∧ V.cell? ⟨rb, 0, none⟩ = some (.slice A1 n1 c1)) := fun V hV => by
    have hz := HZS.out
    refine ⟨cell_in ((hV b5 (by omega)).trans H5.out) rfl, cell_in ((hV _ (by omega)).trans H1.out) rfl, ?_⟩
    have hc := HE1.out W3 HB3.out
    exact (World.cell?_of_block (a := ⟨rb, 0, none⟩) (hV rb (cell_lt hc))).trans hc
  have HX0 := Lib.hid (HSX.out W3.drew (fun _ _ => rfl))
  have HX4 := Lib.hid (HSX.out w4 (fun k hk => u3.block k hk (by simp)))
  have hp4 : w4.heap[pr]? = some (.cells cs 22 (0, 0)) := (u3.block pr (by have := HZS.out; show pr < W3.heap.size; omega) (by simp)).trans HPR.out
  have cp4 : w4.cell? ⟨pr, n, none⟩ = some (.slice none 0 0) := cell_in hp4 (HU4.out n (Nat.lt_succ_self n))
  have fp4 := frz (i := n) hp4
  have HX5 : Hid ((w4.setCell ⟨pr, n, none⟩ (.slice (some ⟨W3.heap.size, 0, none⟩) n1 n1)).cell? ⟨b5, 0, none⟩ = some (.slice (some ⟨pr, 0, none⟩) (n + 1) (n + 1)) ∧ (w4.setCell ⟨pr, n, none⟩ (.slice (some ⟨W3.heap.size, 0, none⟩) n1 n1)).cell? ⟨w.heap.size, 0, none⟩ = some (.pointer (some ⟨rb, 0, none⟩)) ∧ (w4.setCell ⟨pr, n, none⟩ (.slice (some ⟨W3.heap.size, 0, none⟩) n1 n1)).cell? ⟨rb, 0, none⟩ = some (.slice A1 n1 c1)) := by
    have hz := HZS.out
    have hrb := HRB.out
    have h4 := HX4.out
    refine ⟨(World.cell?_of_block (a := ⟨b5, 0, none⟩) (set_oth (show b5 ≠ pr by omega))).trans h4.1, (World.cell?_of_block (a := ⟨w.heap.size, 0, none⟩) (set_oth (show w.heap.size ≠ pr by omega))).trans h4.2.1, (World.cell?_of_block (a := ⟨rb, 0, none⟩) (set_oth (show rb ≠ pr by omega))).trans h4.2.2⟩
  have HU6 := Lib.hid u2
  have HU7 := Lib.hid u3
  have HP4 := Lib.hid hp4
  have i1 : (n : Int) < (n : Int) + 1 := by omega
  clear u2 u3 hp4
  refine wp_then_false ?_
  go_region_held_law (fun V => V.cell? ⟨b5, 0, none⟩ = some (.slice (some ⟨pr, 0, none⟩) (n + 1) (n + 1)) ∧ V.cell? ⟨w.heap.size, 0, none⟩ = some (.pointer (some ⟨rb, 0, none⟩)) ∧ V.cell? ⟨rb, 0, none⟩ = some (.slice A1 n1 c1))
    (first | assumption | exact HX0.out | exact HX4.out | exact HX5.out) (fail)
  obtain ⟨V5, hV5⟩ : ∃ V, V = w4.setCell ⟨pr, n, none⟩ (.slice (some ⟨W3.heap.size, 0, none⟩) n1 n1) := ⟨_, rfl⟩
  rw [← hV5]
  have hb34 : Below W3.heap.size W3 w4 := ⟨HU7.out.os, HU7.out.tape, HU7.out.output, HU7.out.size, fun k hk => HU7.out.block k hk (by simp)⟩
  have hI5 : RsI w rb w.heap.size b5 pr n n1 F 0 V5 := by
    have hz := HZS.out
    refine ⟨?_, ?_, ⟨cs.setIfInBounds n (.slice (some ⟨W3.heap.size, 0, none⟩) n1 n1), by rw [hV5]; exact set_row1 HP4.out, by rw [Array.size_setIfInBounds]; exact HU3.out, fun i h1 h2 => ⟨W3.heap.size, ?_, ?_⟩⟩, ?_⟩
    · rw [hV5, set_oth (by omega)]; exact (hb34.block _ (by omega)).trans H1.out
    · rw [hV5, set_oth (by omega)]; exact (hb34.block _ (by omega)).trans H5.out
    · obtain rfl : i = n := by omega
      rw [Array.getElem?_setIfInBounds, if_pos rfl, if_pos (by rw [HU3.out]; omega)]
    · obtain rfl : i = n := by omega
      rw [Nat.sub_self, HF.out]
      show Ow V5 w.heap.size _ _ (List.replicate L.length 0)
      rw [← HNN.out, hV5]
      exact HU6.out.at_ (set_oth (show W3.heap.size ≠ pr by omega))
    · rw [hV5]; exact (HB3.out.trans (hb34.mono (by omega))).setCell (p := ⟨pr, n, none⟩) (by show w.heap.size ≤ pr; omega) _
  have hzV : b5 < V5.heap.size := (Array.getElem?_eq_some_iff.1 hI5.r5).1
  clear hb34 hV5 cp4 fp4 u1 HX0 HX4 HX5 HSX HU6 HU7 HP4 hs4 H1 H5 HPR HB3 v1 i1
  obtain ⟨W6, hW6⟩ : ∃ V, V = V5.alloc (.cells #[.slice A n c] 22) := ⟨_, rfl⟩
  have hb56 : Below V5.heap.size V5 W6 := by rw [hW6]; exact (Below.refl _ V5).alloc (Nat.le_refl _) _
  have hr6 : W6.heap[V5.heap.size]? = some (.cells #[.slice A n c] 22 (0, 0)) := by rw [hW6]; exact heap_alloc_new _ _
  have hz6 : W6.heap.size = V5.heap.size + 1 := by rw [hW6]; simp
  have HI6 : Hid (RsI w rb w.heap.size b5 pr n n1 F 0 W6) := hI5.keep (fun k o ho _ => hb56.block k (Array.getElem?_eq_some_iff.1 ho).1) (hI5.bl.trans (hb56.mono hI5.bl.size))
  have hit := back_okC 8 zs A n c V5.heap.size W6 (HSL.out W6 HI6.out.bl) hr6
  have hrd := backRd_lt (HSL.out W6 HI6.out.bl) (show V5.heap.size < W6.heap.size by omega)
  have HBK := Lib.hid (backward_any A n c V5)
  have HIT := Lib.hid hit
  have HRD := Lib.hid hrd
  have HZ6 : Hid (W6.heap.size = V5.heap.size + 1 ∧ b5 < V5.heap.size) := ⟨hz6, hzV⟩
  have HW6 := Lib.hid hW6
  clear hb56 hr6 hz6 hit hrd hW6 hI5 hzV
  go_wp2_with (go_at_call 75; refine HBK.out.mono ?_; rintro e w' ⟨rfl, rfl⟩; rw [← HW6.out])
  refine (wpIn_wide (n := 9)).1 ?_
  gi_wp2
  refine range_lawC (n := 8) (gf := 91) (lb := #[.pointer (some ⟨V5.heap.size, 0, none⟩)]) (by rfl) (enters_of Try.func91 (by kernel_rfl) rfl) HIT.out (fun x hx => by obtain ⟨j, hj, rfl⟩ := List.mem_map.1 hx; rfl) HRD.out (RsI w rb w.heap.size b5 pr n n1 F) ?_ ?_ ?_ ?_
  · intro j l o W X hl hX hi
    refine hi.keep (fun k o2 ho hc => World.putObj_heap_other ?_) (hi.bl.trans (below_put W ?_ o))
    · rintro rfl
      rw [hX] at ho
      obtain ⟨cs2, t, f, rfl⟩ := hc
      cases ho
    · have h1 := HZS.out
      have h2 := HZ6.out
      omega
  · intro R0
    have hb2 : Below W6.heap.size W6 ((W6.alloc (.deferred (some []))).alloc (.loop R0)) := ((Below.refl _ W6).alloc (Nat.le_refl _) _).alloc (by simp) _
    exact HI6.out.keep (fun k o ho _ => hb2.block k (Array.getElem?_eq_some_iff.1 ho).1) (HI6.out.bl.trans (hb2.mono HI6.out.bl.size))
  · intro l j x W hx hl0 hlX hi
    obtain ⟨hj, rfl⟩ := backL_inv zs hx
    generalize hK : (fun (a₁ : Act) (W₁ : World) => Below W.heap.size W W₁ ∧ ∀ o, _) = K
    have HK := Lib.hid hK; clear hK
    have HII := Lib.hid hi
    have HLX := Lib.hid hlX
    rw [HL.out] at hj
    clear hx hi hlX
    gi_wp2
    rw [← HK.out]
    refine ⟨Below.refl _ W, fun o => ?_⟩
    clear HK
    obtain ⟨V, hV⟩ : ∃ V, V = W.putObj l o := ⟨_, rfl⟩
    rw [← hV]
    have HV : Hid (RsI w rb w.heap.size b5 pr n n1 F j V) := by
      obtain ⟨X, hX⟩ := HLX.out
      rw [Hid, hV]
      refine HII.out.keep (fun k o2 ho hc => World.putObj_heap_other ?_) (HII.out.bl.trans (below_put W ?_ o))
      · rintro rfl
        rw [hX] at ho
        obtain ⟨cs2, t, f, rfl⟩ := hc
        cases ho
      · have h1 := HZS.out
        have h2 := HZ6.out
        omega
    have HVS : Hid (W6.heap.size ≤ V.heap.size) := by
      have := (Array.getElem?_eq_some_iff.1 HLX.out.choose_spec).1
      rw [Hid, hV]
      simp
      omega
    obtain ⟨i, hi⟩ : ∃ i, i = zs.length - 1 - j := ⟨_, rfl⟩
    rw [← hi]
    have hll := HL.out
    have hin : i < n := by omega
    obtain ⟨r, hr, hrm⟩ := HZ.out i hin
    rw [hr]
    have hji : n - (i + 1) = j := by omega
    have hji2 : n - i = j + 1 := by omega
    have HFN : Hid (F (j + 1) = lowF R (m - 1) ((List.range n1).map fun k => srvV L R (F j) k r)) := by
      rw [Hid, HF.out]
      show lowF R (m - 1) ((List.range L.length).map fun k => srvV L R _ k (atI zs (zs.length - 1 - j)).toNat) = _
      rw [← hi, hr, Int.toNat_natCast, HNN.out]
    have HI := Lib.hid (show i + 1 ≤ n ∧ n - (i + 1) = j ∧ n - i = j + 1 from ⟨hin, hji, hji2⟩)
    have HR := Lib.hid hrm
    clear hV hi hll hr hji hji2 hrm
    gi_upto_region 6 with (fail)
    obtain ⟨w7, u1, u2, u3⟩ := run_makeI V.drew n1 w.heap.size hbig HV.out.bl.size
    have hs7 : V.heap.size < w7.heap.size := (u2.lt (k := V.heap.size) rfl).2
    obtain ⟨cs1, q1, q2, q3⟩ := HV.out.ar
    have HSX : Hid (∀ X : World, (∀ k, k < V.heap.size → k ≠ pr → X.heap[k]? = V.heap[k]?) → X.cell? ⟨b5, 0, none⟩ = some (.slice (some ⟨pr, 0, none⟩) (n + 1) (n + 1)) ∧ X.cell? ⟨w.heap.size, 0, none⟩ = some (.pointer (some ⟨rb, 0, none⟩)) ∧ X.cell? ⟨rb, 0, none⟩ = some (.slice A1 n1 c1)) := fun X hX => by
      have hz := HZS.out
      have hrb := HRB.out
      have hc := HE1.out V HV.out.bl
      refine ⟨cell_in ((hX b5 (Array.getElem?_eq_some_iff.1 HV.out.r5).1 (by omega)).trans HV.out.r5) rfl, cell_in ((hX _ (Array.getElem?_eq_some_iff.1 HV.out.r1).1 (by omega)).trans HV.out.r1) rfl, ?_⟩
      exact (World.cell?_of_block (a := ⟨rb, 0, none⟩) (hX rb (cell_lt hc) (by omega))).trans hc
    have HX0 := Lib.hid (HSX.out V.drew (fun _ _ _ => rfl))
    have HX7 := Lib.hid (HSX.out w7 (fun k hk _ => u3.block k hk (by simp)))
    have HX8 := Lib.hid (HSX.out (w7.setCell ⟨pr, i, none⟩ (.slice (some ⟨V.heap.size, 0, none⟩) n1 n1)) (fun k hk hne => (set_oth hne).trans (u3.block k hk (by simp))))
    have hp7 : w7.heap[pr]? = some (.cells cs1 22 (0, 0)) := (u3.block pr (Array.getElem?_eq_some_iff.1 q1).1 (by simp)).trans q1
    obtain ⟨vold, hvo⟩ : ∃ v, cs1[i]? = some v := ⟨_, Array.getElem?_eq_some_iff.2 ⟨by omega, rfl⟩⟩
    have cp7 : w7.cell? ⟨pr, i, none⟩ = some vold := cell_in hp7 hvo
    have fp7 := frz (i := i) hp7
    have HU6 := Lib.hid u2
    have HU7 := Lib.hid u3
    have HP7 := Lib.hid hp7
    have HQ2 := Lib.hid q2
    have HQ3 := Lib.hid q3
    have HQ1 := Lib.hid q1
    have i1 : (i : Int) < (n : Int) + 1 := by omega
    have i2 : (0 : Int) ≤ (i : Int) := by omega
    clear u2 u3 hp7 q1 q2 q3 hvo
    refine wpIn_region_round (S := fun X => X.cell? ⟨b5, 0, none⟩ = some (.slice (some ⟨pr, 0, none⟩) (n + 1) (n + 1)) ∧ X.cell? ⟨w.heap.size, 0, none⟩ = some (.pointer (some ⟨rb, 0, none⟩)) ∧ X.cell? ⟨rb, 0, none⟩ = some (.slice A1 n1 c1)) (by kernel_rfl) (by kernel_rfl) HX0.out ?_
    have hHeld := HX0.out
    refine wpAnyH_takeX (i := 0) (v := ?_) (by simp only [↓List.getElem?_toArray, ↓List.getElem?_cons_zero]; rfl) (by kernel_rfl) (by kernel_rfl) (by kernel_rfl) (by assumption) ?_ ?_ ?_
    rotate_left
    · exact fun _ _ _ h => h
    · exact Or.inl ⟨by rfl, by (intro V hV; (try dsimp only at hV); go_simp; try with_reducible rfl)⟩
    simp only [Act.put, List.setIfInBounds_toArray, List.set_cons_zero, List.set_cons_succ]
    refine wpAnyH_takeX (i := 1) (v := ?_) (by simp only [↓List.getElem?_toArray, ↓List.getElem?_cons_succ, ↓List.getElem?_cons_zero]; rfl) (by kernel_rfl) (by kernel_rfl) (by kernel_rfl) (by assumption) ?_ ?_ ?_
    rotate_left
    · exact fun _ _ _ h => h
    · exact Or.inl ⟨by rfl, by (intro V hV; (try dsimp only at hV); go_simp; try with_reducible rfl)⟩
    simp only [Act.put, List.setIfInBounds_toArray, List.set_cons_zero, List.set_cons_succ]
    refine wpAnyH_takeX (i := 2) (v := ?_) (by simp only [↓List.getElem?_toArray, ↓List.getElem?_cons_succ, ↓List.getElem?_cons_zero]; rfl) (by kernel_rfl) (by kernel_rfl) (by kernel_rfl) (by assumption) ?_ ?_ ?_
    rotate_left
    · exact fun _ _ _ h => h
    · exact Or.inl ⟨by rfl, by (intro V hV; (try dsimp only at hV); go_simp; try with_reducible rfl)⟩
    simp only [Act.put, List.setIfInBounds_toArray, List.set_cons_zero, List.set_cons_succ]
    refine wpAnyH_takeX (i := 3) (v := ?_) (by simp only [↓List.getElem?_toArray, ↓List.getElem?_cons_succ, ↓List.getElem?_cons_zero]; rfl) (by kernel_rfl) (by kernel_rfl) (by kernel_rfl) (by assumption) ?_ ?_ ?_
    rotate_left
    · exact fun _ _ _ h => h
    · exact Or.inl ⟨by rfl, by (intro V hV; (try dsimp only at hV); go_simp; try with_reducible rfl)⟩
    simp only [Act.put, List.setIfInBounds_toArray, List.set_cons_zero, List.set_cons_succ]
    refine wpAnyH_takeX (i := 4) (v := ?_) (by simp only [↓List.getElem?_toArray, ↓List.getElem?_cons_succ, ↓List.getElem?_cons_zero]; rfl) (by kernel_rfl) (by kernel_rfl) (by kernel_rfl) (by assumption) ?_ ?_ ?_
    rotate_left
    · exact fun _ _ _ h => h
    · exact Or.inl ⟨by rfl, by (intro V hV; (try dsimp only at hV); go_simp; try with_reducible rfl)⟩
    simp only [Act.put, List.setIfInBounds_toArray, List.set_cons_zero, List.set_cons_succ]
    refine wpAnyH_takeX (i := 5) (v := ?_) (by simp only [↓List.getElem?_toArray, ↓List.getElem?_cons_succ, ↓List.getElem?_cons_zero]; rfl) (by kernel_rfl) (by kernel_rfl) (by kernel_rfl) (by assumption) ?_ ?_ ?_
    rotate_left
    · exact fun _ _ _ h => h
    · exact Or.inl ⟨by rfl, by (intro V hV; (try dsimp only at hV); go_simp; try with_reducible rfl)⟩
    simp only [Act.put, List.setIfInBounds_toArray, List.set_cons_zero, List.set_cons_succ]
    refine wpAnyH_takeX (i := 6) (v := ?_) (by simp only [↓List.getElem?_toArray, ↓List.getElem?_cons_succ, ↓List.getElem?_cons_zero]; rfl) (by kernel_rfl) (by kernel_rfl) (by kernel_rfl) (by assumption) ?_ ?_ ?_
    rotate_left
    · exact fun _ _ _ h => h
    · exact Or.inl ⟨by rfl, by (intro V hV; (try dsimp only at hV); go_simp; try with_reducible rfl)⟩
    simp only [Act.put, List.setIfInBounds_toArray, List.set_cons_zero, List.set_cons_succ]
    refine wpAnyH_ready (rs := [7]) (by kernel_rfl) (by simp) ?_
    refine AllReadyH.cons rfl (fun K hK => ?_) AllReadyH.nil
    go_simp
    refine hK.out _ _ HX7.out (fun hHeld => ?_)
    clear hK K
    try simp only [Act.put, List.setIfInBounds_toArray, List.set_cons_zero, List.set_cons_succ]
    refine wpAnyH_takeX (i := 8) (v := ?_) (by simp only [↓List.getElem?_toArray, ↓List.getElem?_cons_succ, ↓List.getElem?_cons_zero]; rfl) (by kernel_rfl) (by kernel_rfl) (by kernel_rfl) (by assumption) ?_ ?_ ?_
    rotate_left
    · exact fun _ _ _ h => h
    · exact Or.inl ⟨by rfl, by (intro V hV; (try dsimp only at hV); go_simp; try with_reducible rfl)⟩
    simp only [Act.put, List.setIfInBounds_toArray, List.set_cons_zero, List.set_cons_succ]
    refine wpAnyH_ready (rs := [9]) (by kernel_rfl) (by simp) ?_
    refine AllReadyH.cons rfl (fun K hK => ?_) AllReadyH.nil
    go_simp
    refine hK.out _ _ HX8.out (fun hHeld => ?_)
    clear hK K
    refine wpAnyH_done (by kernel_rfl) ?_ _
    simp only [Exit.then]
    obtain ⟨V8, hV8⟩ : ∃ X, X = w7.setCell ⟨pr, i, none⟩ (.slice (some ⟨V.heap.size, 0, none⟩) n1 n1) := ⟨_, rfl⟩
    rw [← hV8]
    obtain ⟨cs2, hcs2⟩ : ∃ c, c = cs1.setIfInBounds i (.slice (some ⟨V.heap.size, 0, none⟩) n1 n1) := ⟨_, rfl⟩
    obtain ⟨g2, hg2, ho2⟩ := HQ3.out (i + 1) (by have := HI.out; omega) (by have := HI.out; omega)
    have HG2 : Hid (Ow V w.heap.size 3 (.slice (some ⟨g2, 0, none⟩) n1 n1) (F j)) := by
      have := HI.out
      rw [show n - (i + 1) = j by omega] at ho2
      exact ho2
    have hg2l : g2 < V.heap.size := (ho2.lt (k := g2) rfl).2
    have hg2p : g2 ≠ pr := fun e => by
      obtain ⟨c1, h1⟩ := ho2.blk
      have h2 := HQ1.out
      rw [← e, h1] at h2
      injection h2 with h2
      injection h2 with _ h2 _
      exact absurd h2 (by decide)
    have hprV : pr < V.heap.size := (Array.getElem?_eq_some_iff.1 HQ1.out).1
    have HC1 : Hid (cs2[i]? = some (.slice (some ⟨V.heap.size, 0, none⟩) n1 n1)) := by
      have := HI.out
      rw [Hid, hcs2, Array.getElem?_setIfInBounds, if_pos rfl, if_pos (by rw [HQ2.out]; omega)]
    have HC2 : Hid (cs2[i + 1]? = some (.slice (some ⟨g2, 0, none⟩) n1 n1)) := by
      rw [Hid, hcs2, Array.getElem?_setIfInBounds, if_neg (by omega)]
      exact hg2
    have hb7 : Below V.heap.size V w7 := ⟨HU7.out.os, HU7.out.tape, HU7.out.output, HU7.out.size, fun k hk => HU7.out.block k hk (by simp)⟩
    obtain ⟨f, hf⟩ : ∃ f : Nat → Int, f = fun k => srvV L R (F j) k r := ⟨_, rfl⟩
    have HB8 : Hid (BdS w V V.heap.size pr n1 cs2 (mixL f n1 0) V8) := by
      refine ⟨by rw [hV8, hcs2]; exact set_row1 HP7.out, ?_, ?_, fun k hk hne => ?_, ?_⟩
      · rw [hV8, show mixL f n1 0 = List.replicate n1 0 by simp [mixL]]
        exact HU6.out.at_ (set_oth (show V.heap.size ≠ pr by omega))
      · rw [hV8]; exact (HV.out.bl.trans (hb7.mono HV.out.bl.size)).setCell (p := ⟨pr, i, none⟩) (by have := HZS.out; show w.heap.size ≤ pr; omega) _
      · rw [hV8, set_oth hne]; exact hb7.block k hk
      · rw [hV8]; have := hb7.size; simpa [World.setCell] using this
    have HFD : Hid (F (j + 1) = lowF R (m - 1) ((List.range n1).map f)) := by rw [Hid, hf]; exact HFN.out
    have HFF := Lib.hid hf
    have HGV := Lib.hid (show g2 < V.heap.size ∧ g2 ≠ pr ∧ pr < V.heap.size from ⟨hg2l, hg2p, hprV⟩)
    have HC3 : Hid (cs2.size = n + 1 ∧ ∀ k, k ≠ i → cs2[k]? = cs1[k]?) := by
      refine ⟨by rw [hcs2, Array.size_setIfInBounds]; exact HQ2.out, fun k hk => ?_⟩
      rw [hcs2, Array.getElem?_setIfInBounds, if_neg (fun e => hk e.symm)]
    clear hV8 hcs2 hg2 ho2 hg2l hg2p hprV hb7 hf HX0 HX7 HX8 HU6 HU7 HP7 HSX u1 cp7 fp7 hHeld hs7
    have d0 : V8.cell? ⟨w.heap.size, 0, none⟩ = some (.pointer (some ⟨rb, 0, none⟩)) := cell_in ((HB8.out.oth _ (Array.getElem?_eq_some_iff.1 HV.out.r1).1 (by have := HZS.out; omega)).trans HV.out.r1) rfl
    have d1 : V8.cell? ⟨rb, 0, none⟩ = some (.slice A1 n1 c1) := HE1.out V8 HB8.out.bl
    gi_wp2
    clear d0 d1 i1
    have HS10 : Hid (∀ cur X, BdS w V V.heap.size pr n1 cs2 cur X → X.cell? ⟨b5, 0, none⟩ = some (.slice (some ⟨pr, 0, none⟩) (n + 1) (n + 1)) ∧ X.cell? ⟨w.heap.size, 0, none⟩ = some (.pointer (some ⟨rb, 0, none⟩)) ∧ X.cell? ⟨pr, i, none⟩ = some (.slice (some ⟨V.heap.size, 0, none⟩) n1 n1) ∧ X.cell? ⟨pr, i + 1, none⟩ = some (.slice (some ⟨g2, 0, none⟩) n1 n1)) := fun cur X hX => by
      have hz := HZS.out
      exact ⟨cell_in ((hX.oth b5 (Array.getElem?_eq_some_iff.1 HV.out.r5).1 (by omega)).trans HV.out.r5) rfl, cell_in ((hX.oth _ (Array.getElem?_eq_some_iff.1 HV.out.r1).1 (by omega)).trans HV.out.r1) rfl, cell_in hX.pa HC1.out, cell_in hX.pa HC2.out⟩
    have HSE : Hid (∀ t cur X, t < n1 → BdS w V V.heap.size pr n1 cs2 cur X → Calls Try.prog 79 #[.pointer (some ⟨rb, 0, none⟩), .int .i64 (t : Int), .int .i64 (r : Int), .slice (some ⟨g2, 0, none⟩) n1 n1] X fun e w' => e = .returned (.int .i64 (f t)) ∧ Below X.heap.size X w') := fun t cur X ht hX => by
      have how : Ow X w.heap.size 3 (.slice (some ⟨g2, 0, none⟩) n1 n1) (F j) := HG2.out.at_ (hX.oth g2 HGV.out.1 HGV.out.2.1)
      obtain ⟨A5, c5, e5, hsl⟩ := how.sl_len (HFL.out j) (by omega)
      injection e5 with e5 _ e6
      subst e5 e6
      rw [HFF.out]
      refine served_any m L R (F j) _ n1 _ t r rb X HLA.out (HRW.out X hX.bl) hsl HNN.out ht HR.out (fun q => ?_)
      have := HFS.out j (by have := HI.out; omega) q
      omega
    gi_loopw [41] (fun x w' => ∃ t : Nat, t ≤ n1 ∧ x = .int .i64 (t : Int) ∧ Hid (BdS w V V.heap.size pr n1 cs2 (mixL f n1 t) w')) (fun x _ => n1 - (intOf x).toNat)
    case atStart => exact ⟨0, Nat.zero_le _, by go_num, HB8.out⟩
    case round =>
      obtain ⟨t, ht, rfl, HB⟩ := hrel
      obtain ⟨wo, rfl⟩ : ∃ wo : World, wo = wr := ⟨_, rfl⟩
      clear HB8
      by_cases hlt : t < n1
      · have i1 : (t : Int) < (n1 : Int) := by omega
        have i3 : (i : Int) < (n : Int) + 1 := by have := HI.out; omega
        have i4 : (i : Int) + 1 < (n : Int) + 1 := by have := HI.out; omega
        have i5 : (0 : Int) ≤ (i : Int) + 1 := by omega
        have i6 : ((i : Int) + 1).toNat = i + 1 := by omega
        have v1 : IntKind.i64.wrap ((i : Int) + 1) = (i : Int) + 1 := IntWalk.i64_in _ (by have := HI.out; omega)
        have HBD : Hid (BdS w V V.heap.size pr n1 cs2 (mixL f n1 t) wo.drew) := HB.out.next (Below.refl _ wo).drew
        have HS0 := Lib.hid (HS10.out _ _ HBD.out)
        gi_upto_region 10 with (fail)
        refine wpIn_region_round (S := (fun X => X.cell? ⟨b5, 0, none⟩ = some (.slice (some ⟨pr, 0, none⟩) (n + 1) (n + 1)) ∧ X.cell? ⟨w.heap.size, 0, none⟩ = some (.pointer (some ⟨rb, 0, none⟩)) ∧ X.cell? ⟨pr, i, none⟩ = some (.slice (some ⟨V.heap.size, 0, none⟩) n1 n1) ∧ X.cell? ⟨pr, i + 1, none⟩ = some (.slice (some ⟨g2, 0, none⟩) n1 n1))) (by kernel_rfl) (by kernel_rfl) HS0.out ?_
        have hHeld := HS0.out
        generalize wo.drew = V0 at *
        refine wpAnyH_takeX (i := 0) (v := ?_) (by simp only [↓List.getElem?_toArray, ↓List.getElem?_cons_zero]; rfl) (by kernel_rfl) (by kernel_rfl) (by kernel_rfl) (by assumption) ?_ ?_ ?_
        rotate_left
        · exact fun _ _ _ h => h
        · exact Or.inl ⟨by rfl, by (intro V hV; (try dsimp only at hV); go_simp; try with_reducible rfl)⟩
        simp only [Act.put, List.setIfInBounds_toArray, List.set_cons_zero, List.set_cons_succ]
        refine wpAnyH_takeX (i := 1) (v := ?_) (by simp only [↓List.getElem?_toArray, ↓List.getElem?_cons_succ, ↓List.getElem?_cons_zero]; rfl) (by kernel_rfl) (by kernel_rfl) (by kernel_rfl) (by assumption) ?_ ?_ ?_
        rotate_left
        · exact fun _ _ _ h => h
        · exact Or.inl ⟨by rfl, by (intro V hV; (try dsimp only at hV); go_simp; try with_reducible rfl)⟩
        simp only [Act.put, List.setIfInBounds_toArray, List.set_cons_zero, List.set_cons_succ]
        refine wpAnyH_takeX (i := 2) (v := ?_) (by simp only [↓List.getElem?_toArray, ↓List.getElem?_cons_succ, ↓List.getElem?_cons_zero]; rfl) (by kernel_rfl) (by kernel_rfl) (by kernel_rfl) (by assumption) ?_ ?_ ?_
        rotate_left
        · exact fun _ _ _ h => h
        · exact Or.inl ⟨by rfl, by (intro V hV; (try dsimp only at hV); go_simp; try with_reducible rfl)⟩
        simp only [Act.put, List.setIfInBounds_toArray, List.set_cons_zero, List.set_cons_succ]
        refine wpAnyH_takeX (i := 3) (v := ?_) (by simp only [↓List.getElem?_toArray, ↓List.getElem?_cons_succ, ↓List.getElem?_cons_zero]; rfl) (by kernel_rfl) (by kernel_rfl) (by kernel_rfl) (by assumption) ?_ ?_ ?_
        rotate_left
        · exact fun _ _ _ h => h
        · exact Or.inl ⟨by rfl, by (intro V hV; (try dsimp only at hV); go_simp; try with_reducible rfl)⟩
        simp only [Act.put, List.setIfInBounds_toArray, List.set_cons_zero, List.set_cons_succ]
        refine wpAnyH_takeX (i := 4) (v := ?_) (by simp only [↓List.getElem?_toArray, ↓List.getElem?_cons_succ, ↓List.getElem?_cons_zero]; rfl) (by kernel_rfl) (by kernel_rfl) (by kernel_rfl) (by assumption) ?_ ?_ ?_
        rotate_left
        · exact fun _ _ _ h => h
        · exact Or.inl ⟨by rfl, by (intro V hV; (try dsimp only at hV); go_simp; try with_reducible rfl)⟩
        simp only [Act.put, List.setIfInBounds_toArray, List.set_cons_zero, List.set_cons_succ]
        refine wpAnyH_takeX (i := 5) (v := ?_) (by simp only [↓List.getElem?_toArray, ↓List.getElem?_cons_succ, ↓List.getElem?_cons_zero]; rfl) (by kernel_rfl) (by kernel_rfl) (by kernel_rfl) (by assumption) ?_ ?_ ?_
        rotate_left
        · exact fun _ _ _ h => h
        · exact Or.inl ⟨by rfl, by (intro V hV; (try dsimp only at hV); go_simp; try with_reducible rfl)⟩
        simp only [Act.put, List.setIfInBounds_toArray, List.set_cons_zero, List.set_cons_succ]
        refine wpAnyH_takeX (i := 6) (v := ?_) (by simp only [↓List.getElem?_toArray, ↓List.getElem?_cons_succ, ↓List.getElem?_cons_zero]; rfl) (by kernel_rfl) (by kernel_rfl) (by kernel_rfl) (by assumption) ?_ ?_ ?_
        rotate_left
        · exact fun _ _ _ h => h
        · exact Or.inl ⟨by rfl, by (intro V hV; (try dsimp only at hV); go_simp; try with_reducible rfl)⟩
        simp only [Act.put, List.setIfInBounds_toArray, List.set_cons_zero, List.set_cons_succ]
        refine wpAnyH_takeX (i := 7) (v := ?_) (by simp only [↓List.getElem?_toArray, ↓List.getElem?_cons_succ, ↓List.getElem?_cons_zero]; rfl) (by kernel_rfl) (by kernel_rfl) (by kernel_rfl) (by assumption) ?_ ?_ ?_
        rotate_left
        · exact fun _ _ _ h => h
        · exact Or.inl ⟨by rfl, by (intro V hV; (try dsimp only at hV); go_simp; try with_reducible rfl)⟩
        simp only [Act.put, List.setIfInBounds_toArray, List.set_cons_zero, List.set_cons_succ]
        refine wpAnyH_takeX (i := 8) (v := ?_) (by simp only [↓List.getElem?_toArray, ↓List.getElem?_cons_succ, ↓List.getElem?_cons_zero]; rfl) (by kernel_rfl) (by kernel_rfl) (by kernel_rfl) (by assumption) ?_ ?_ ?_
        rotate_left
        · exact fun _ _ _ h => h
        · exact Or.inl ⟨by rfl, by (intro V hV; (try dsimp only at hV); go_simp; try with_reducible rfl)⟩
        simp only [Act.put, List.setIfInBounds_toArray, List.set_cons_zero, List.set_cons_succ]
        refine wpAnyH_takeX (i := 9) (v := ?_) (by simp only [↓List.getElem?_toArray, ↓List.getElem?_cons_succ, ↓List.getElem?_cons_zero]; rfl) (by kernel_rfl) (by kernel_rfl) (by kernel_rfl) (by assumption) ?_ ?_ ?_
        rotate_left
        · exact fun _ _ _ h => h
        · exact Or.inl ⟨by rfl, by (intro V hV; (try dsimp only at hV); go_simp; try with_reducible rfl)⟩
        simp only [Act.put, List.setIfInBounds_toArray, List.set_cons_zero, List.set_cons_succ]
        refine wpAnyH_takeX (i := 10) (v := ?_) (by simp only [↓List.getElem?_toArray, ↓List.getElem?_cons_succ, ↓List.getElem?_cons_zero]; rfl) (by kernel_rfl) (by kernel_rfl) (by kernel_rfl) (by assumption) ?_ ?_ ?_
        rotate_left
        · exact fun _ _ _ h => h
        · exact Or.inl ⟨by rfl, by (intro V hV; (try dsimp only at hV); go_simp; try with_reducible rfl)⟩
        simp only [Act.put, List.setIfInBounds_toArray, List.set_cons_zero, List.set_cons_succ]
        refine wpAnyH_takeX (i := 11) (v := ?_) (by simp only [↓List.getElem?_toArray, ↓List.getElem?_cons_succ, ↓List.getElem?_cons_zero]; rfl) (by kernel_rfl) (by kernel_rfl) (by kernel_rfl) (by assumption) ?_ ?_ ?_
        rotate_left
        · exact fun _ _ _ h => h
        · exact Or.inl ⟨by rfl, by (intro V hV; (try dsimp only at hV); go_simp; try with_reducible rfl)⟩
        simp only [Act.put, List.setIfInBounds_toArray, List.set_cons_zero, List.set_cons_succ]
        refine wpAnyH_takeX (i := 12) (v := ?_) (by simp only [↓List.getElem?_toArray, ↓List.getElem?_cons_succ, ↓List.getElem?_cons_zero]; rfl) (by kernel_rfl) (by kernel_rfl) (by kernel_rfl) (by assumption) ?_ ?_ ?_
        rotate_left
        · exact fun _ _ _ h => h
        · exact Or.inl ⟨by rfl, by (intro V hV; (try dsimp only at hV); go_simp; try with_reducible rfl)⟩
        simp only [Act.put, List.setIfInBounds_toArray, List.set_cons_zero, List.set_cons_succ]
        refine wpAnyH_ready (rs := [13]) (by kernel_rfl) (by simp) ?_
        refine AllReadyH.cons rfl (fun K hK => ?_) AllReadyH.nil
        go_simp
        go_wp2_with (go_at_call 79; (with_reducible refine (HSE.out t _ _ hlt HBD.out).mono ?_); rintro e v1 ⟨rfl, hb⟩)
        have HB1 := Lib.hid (HBD.out.next hb)
        clear hb
        refine hK.out _ _ (HS10.out _ _ HB1.out) (fun hHeld => ?_)
        clear hK K
        refine wpAnyH_takeX (i := 14) (v := ?_) (by simp only [↓List.getElem?_toArray, ↓List.getElem?_cons_succ, ↓List.getElem?_cons_zero]; rfl) (by kernel_rfl) (by kernel_rfl) (by kernel_rfl) (by assumption) ?_ ?_ ?_
        rotate_left
        · exact fun _ _ _ h => h
        · exact Or.inl ⟨by rfl, by (intro V hV; (try dsimp only at hV); go_simp; try with_reducible rfl)⟩
        simp only [Act.put, List.setIfInBounds_toArray, List.set_cons_zero, List.set_cons_succ]
        have c1' := HB1.out.own.cellAt (mixL_len f ht) hlt
        have f1' := HB1.out.own.free (mixL_len f ht) t
        generalize ((mixL f n1 t)[t]?.getD 0) = z0 at c1'
        have hww := HV.out.bl.size
        have HB2 := Lib.hid (HB1.out.put (mixL_len f ht) (Nat.le_refl _) hww t (f t))
        rw [mixL_set f hlt] at HB2
        have HS2 := Lib.hid (HS10.out _ _ HB2.out)
        refine wpAnyH_ready (rs := [15]) (by kernel_rfl) (by simp) ?_
        refine AllReadyH.cons rfl (fun K hK => ?_) AllReadyH.nil
        go_simp
        refine hK.out _ _ HS2.out (fun hHeld => ?_)
        clear hK K c1' f1' hHeld
        refine wpAnyH_done (by kernel_rfl) ?_ _
        simp only [Exit.then, Exit.inBlock]
        gi_wp2
        exact ⟨⟨t + 1, by omega, by go_num, HB2.out⟩, by simp [intOf]; omega⟩
      · have htn : t = n1 := by omega
        subst htn
        have i1 : ¬ (t : Int) < (t : Int) := by omega
        have hmx : mixL f t t = (List.range t).map f := by simp [mixL]
        rw [hmx] at HB
        have HB8 := HB
        clear HB hmx
        have HBD : Hid (BdS w V V.heap.size pr t cs2 ((List.range t).map f) wo.drew) := HB8.out.next (Below.refl _ wo).drew
        have HS0 := Lib.hid (HS10.out _ _ HBD.out)
        have HFM : Hid (smallZ ((List.range t).map f) 1000000) := fun q => by
          rw [atI_map]
          split
          · rename_i hq
            obtain ⟨p, e, hp⟩ := HLA.out.pl q (by have := HNN.out; omega) r HR.out
            have h1 := HFS.out j (by have := HI.out; omega) (fwdF L R (F j) q r)
            have h6 := HLA.out.m6
            rw [HFF.out]
            show 0 ≤ srvV L R (F j) q r ∧ srvV L R (F j) q r ≤ 1000000
            unfold srvV
            rw [e]
            omega
          · omega
        have HLW : Hid (Calls Try.prog 80 #[.pointer (some ⟨rb, 0, none⟩), .slice (some ⟨V.heap.size, 0, none⟩) t t] wo.drew fun e w' => e = .returned (.tuple #[]) ∧ BdS w V V.heap.size pr t cs2 (F (j + 1)) w') := by
          refine (lower_any m L R ((List.range t).map f) t V.heap.size rb w wo.drew HLA.out (HRW.out w (Below.refl _ w)) HBD.out.bl HV.out.bl.size HBD.out.own (by simp) HNN.out HFM.out).mono ?_
          rintro e w' ⟨rfl, _, hl⟩
          have hne := HBD.out.ne
          refine ⟨rfl, (hl.oth pr (Array.getElem?_eq_some_iff.1 HBD.out.pa).1 hne.symm).trans HBD.out.pa, ?_, hl.bl, fun k hk hn2 => (hl.oth k (Nat.lt_of_lt_of_le hk HBD.out.sz) (by omega)).trans (HBD.out.oth k hk hn2), Nat.le_trans HBD.out.sz hl.sz⟩
          rw [HFD.out]
          exact hl.ow
        have i5 : (i : Int) < (n : Int) + 1 := by have := HI.out; omega
        clear HSE HFF
        gi_upto_region 12 with (fail)
        refine wpIn_region_round (S := (fun X => X.cell? ⟨b5, 0, none⟩ = some (.slice (some ⟨pr, 0, none⟩) (n + 1) (n + 1)) ∧ X.cell? ⟨w.heap.size, 0, none⟩ = some (.pointer (some ⟨rb, 0, none⟩)) ∧ X.cell? ⟨pr, i, none⟩ = some (.slice (some ⟨V.heap.size, 0, none⟩) t t) ∧ X.cell? ⟨pr, i + 1, none⟩ = some (.slice (some ⟨g2, 0, none⟩) t t))) (by kernel_rfl) (by kernel_rfl) HS0.out ?_
        have hHeld := HS0.out
        generalize wo.drew = V0 at *
        refine wpAnyH_takeX (i := 0) (v := ?_) (by simp only [↓List.getElem?_toArray, ↓List.getElem?_cons_zero]; rfl) (by kernel_rfl) (by kernel_rfl) (by kernel_rfl) (by assumption) ?_ ?_ ?_
        rotate_left
        · exact fun _ _ _ h => h
        · exact Or.inl ⟨by rfl, by (intro V hV; (try dsimp only at hV); go_simp; try with_reducible rfl)⟩
        simp only [Act.put, List.setIfInBounds_toArray, List.set_cons_zero, List.set_cons_succ]
        refine wpAnyH_takeX (i := 1) (v := ?_) (by simp only [↓List.getElem?_toArray, ↓List.getElem?_cons_succ, ↓List.getElem?_cons_zero]; rfl) (by kernel_rfl) (by kernel_rfl) (by kernel_rfl) (by assumption) ?_ ?_ ?_
        rotate_left
        · exact fun _ _ _ h => h
        · exact Or.inl ⟨by rfl, by (intro V hV; (try dsimp only at hV); go_simp; try with_reducible rfl)⟩
        simp only [Act.put, List.setIfInBounds_toArray, List.set_cons_zero, List.set_cons_succ]
        refine wpAnyH_takeX (i := 2) (v := ?_) (by simp only [↓List.getElem?_toArray, ↓List.getElem?_cons_succ, ↓List.getElem?_cons_zero]; rfl) (by kernel_rfl) (by kernel_rfl) (by kernel_rfl) (by assumption) ?_ ?_ ?_
        rotate_left
        · exact fun _ _ _ h => h
        · exact Or.inl ⟨by rfl, by (intro V hV; (try dsimp only at hV); go_simp; try with_reducible rfl)⟩
        simp only [Act.put, List.setIfInBounds_toArray, List.set_cons_zero, List.set_cons_succ]
        refine wpAnyH_takeX (i := 3) (v := ?_) (by simp only [↓List.getElem?_toArray, ↓List.getElem?_cons_succ, ↓List.getElem?_cons_zero]; rfl) (by kernel_rfl) (by kernel_rfl) (by kernel_rfl) (by assumption) ?_ ?_ ?_
        rotate_left
        · exact fun _ _ _ h => h
        · exact Or.inl ⟨by rfl, by (intro V hV; (try dsimp only at hV); go_simp; try with_reducible rfl)⟩
        simp only [Act.put, List.setIfInBounds_toArray, List.set_cons_zero, List.set_cons_succ]
        refine wpAnyH_takeX (i := 4) (v := ?_) (by simp only [↓List.getElem?_toArray, ↓List.getElem?_cons_succ, ↓List.getElem?_cons_zero]; rfl) (by kernel_rfl) (by kernel_rfl) (by kernel_rfl) (by assumption) ?_ ?_ ?_
        rotate_left
        · exact fun _ _ _ h => h
        · exact Or.inl ⟨by rfl, by (intro V hV; (try dsimp only at hV); go_simp; try with_reducible rfl)⟩
        simp only [Act.put, List.setIfInBounds_toArray, List.set_cons_zero, List.set_cons_succ]
        refine wpAnyH_ready (rs := [5]) (by kernel_rfl) (by simp) ?_
        refine AllReadyH.cons rfl (fun K hK => ?_) AllReadyH.nil
        go_simp
        go_wp2_with (go_at_call 80; (with_reducible refine HLW.out.mono ?_); rintro e v1 ⟨rfl, hb⟩)
        have HB1 := Lib.hid hb
        clear hb
        refine hK.out _ _ (HS10.out _ _ HB1.out) (fun hHeld => ?_)
        clear hK K
        refine wpAnyH_done (by kernel_rfl) ?_ _
        simp only [Exit.then, Exit.inBlock]
        have hz := HZS.out
        have hvs := HVS.out
        have hz6 := HZ6.out
        refine ⟨⟨HB1.out.bl.os.trans HV.out.bl.os.symm, HB1.out.bl.tape.trans HV.out.bl.tape.symm, HB1.out.bl.output.trans HV.out.bl.output.symm, HB1.out.sz, fun k hk hor => HB1.out.oth k hk ?_⟩, ?_⟩
        · rcases hor with (e | ⟨h0, off, e⟩) | e
          · omega
          · have := HAL.out k off e h0
            omega
          · omega
        · refine ⟨(HB1.out.oth _ (Array.getElem?_eq_some_iff.1 HV.out.r1).1 (by omega)).trans HV.out.r1, (HB1.out.oth _ (Array.getElem?_eq_some_iff.1 HV.out.r5).1 (by omega)).trans HV.out.r5, ⟨cs2, HB1.out.pa, HC3.out.1, fun k hk1 hk2 => ?_⟩, HB1.out.bl⟩
          have hIo := HI.out
          by_cases hki : k = i
          · subst hki
            refine ⟨V.heap.size, HC1.out, ?_⟩
            rw [hIo.2.2]
            exact HB1.out.own
          · obtain ⟨g', hg', ho'⟩ := HQ3.out k (by omega) hk2
            refine ⟨g', (HC3.out.2 k hki).trans hg', ho'.at_ (HB1.out.oth g' (ho'.lt (k := g') rfl).2 (fun e => ?_))⟩
            obtain ⟨c9, h9⟩ := ho'.blk
            have h8 := HQ1.out
            rw [← e, h9] at h8
            injection h8 with h8
            injection h8 with _ h8 _
            exact absurd h8 (by decide)
  · intro D X hD hi hDef
    rw [backL_len, HL.out] at hi
    have HDF := Lib.hid hDef
    have HV := Lib.hid hi
    have cn : X.cell? ⟨b5, 0, none⟩ = some (.slice (some ⟨pr, 0, none⟩) (n + 1) (n + 1)) := cell_in HV.out.r5 rfl
    clear hDef hi
    gi_wp2
    refine (wpIn_wide (n := 9)).1 ?_
    gi_wp2
    refine ⟨by simp, .inl ⟨_, _, rfl, run_takeDeferred HDF.out, ?_⟩⟩
    refine ⟨.slice (some ⟨pr, 0, none⟩) (n + 1) (n + 1), ?_, ?_⟩
    · simp [results, Try.f62, go_sem]
    · rw [HRR.out]
      have hz := HZS.out
      have hz6 := HZ6.out
      have hb : Below w.heap.size w (X.putObj D (.deferred none)) := HV.out.bl.trans (below_put _ (by omega) _)
      have hk := HV.out.keep (V' := X.putObj D (.deferred none)) (fun k o ho hc => World.putObj_heap_other (by
        rintro rfl
        rw [HDF.out] at ho
        obtain ⟨c2, t, f, rfl⟩ := hc
        cases ho)) hb
      exact ⟨⟨pr, rfl, hk.ar⟩, hb⟩
end Go.Proofs.Ytcnjkdkkflpgnaa
