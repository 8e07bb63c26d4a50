import Derived.Test.YtmbdjjkgjnemiaaT45
import Derived.Test.YtmbdjjkgjnemiaaT41
import Derived.Test.YtmbdjjkgjnemiaaT25
import Derived.Test.YtmbdjjkgjnemiaaT38
import Derived.Test.YtmbdjjkgjnemiaaT40
import Derived.Deep.Cut
/- Layer 6: the reference's Bound. -/
namespace Go.Proofs.Ytmbdjjkgjnemiaa
open Go.RowKit Go.Maps
set_option linter.unusedVariables false

/-- Between two rounds of Bound. -/
structure BnS (N : List Nd) (g : Tri) (B : Nat) (w : World) (m : Nat) (lv ov : Value) (W : World) : Prop where
  ol : Owk W B lv (rch (scG N) g m)
  oo : Ow3 W B ov (outL (scG N) (mkG N) (rch (scG N) g m) m)
  ap : ∀ k, ov.ownBlock = some k → lv.ownBlock ≠ some k
  bl : Below B w W
  le : m ≤ (rch (scG N) g m).length
section
variable {N : List Nd} {g : Tri} {B : Nat} {w : World} {m : Nat} {lv ov : Value} {wo : World}
theorem BnS.out5 (h : BnS N g B w m lv ov wo) {W3 W5 : World} (hk3 : ∀ k, k < wo.heap.size → lv.ownBlock ≠ some k → W3.heap[k]? = wo.heap[k]?) (hz3 : wo.heap.size ≤ W3.heap.size) (hb35 : Below W3.heap.size W3 W5) : Ow3 W5 B ov (outL (scG N) (mkG N) (rch (scG N) g m) m) :=
  h.oo.same fun k e => by
    have := (h.oo.lt e).2
    exact (hb35.block k (by omega)).trans (hk3 k this (h.ap k e))
theorem BnS.step (h : BnS N g B w m lv ov wo) {x : Tri} (hx : (rch (scG N) g m)[m]? = some x) {lv2 ov2 : Value} {W3 W5 W6 : World} (hk3 : ∀ k, k < wo.heap.size → lv.ownBlock ≠ some k → W3.heap[k]? = wo.heap[k]?) (hz3 : wo.heap.size ≤ W3.heap.size)
    (ol2 : Owk W3 B lv2 (addAll (rch (scG N) g m) (scG N x))) (gl : Grw lv lv2 wo.heap.size) (hb35 : Below W3.heap.size W3 W5) (hg : World.grownBy W5 W6 ov.ownBlock)
    (oo2 : Ow3 W6 B ov2 (outL (scG N) (mkG N) (rch (scG N) g m) m ++ [mkG N x ((scG N x).map (ixK (addAll (rch (scG N) g m) (scG N x))))])) (go : Grw ov ov2 W5.heap.size) (hb : Below B w W6) : BnS N g B w (m + 1) lv2 ov2 W6 := by
  have hr : rch (scG N) g (m + 1) = addAll (rch (scG N) g m) (scG N x) := rch_at (scG N) g hx
  have hm : m < (rch (scG N) g m).length := (List.getElem?_eq_some_iff.1 hx).1
  have hz5 := hb35.size
  have hob : ∀ k, ov.ownBlock = some k → k < wo.heap.size := fun k e => (h.oo.lt e).2
  have hlb : ∀ k, lv.ownBlock = some k → k < wo.heap.size := fun k e => (h.ol.lt e).2
  have hl2 : ∀ k, lv2.ownBlock = some k → k < W3.heap.size ∧ ov.ownBlock ≠ some k := fun k e => by
    refine ⟨(ol2.lt e).2, fun e2 => ?_⟩
    rcases gl with e' | ⟨g', e', hg'⟩
    · rw [e'] at e; exact h.ap k e2 e
    · rw [e'] at e
      have e : g' = k := Option.some.inj e
      have := hob k e2
      omega
  refine ⟨?_, ?_, fun k e e' => ?_, hb, ?_⟩
  · rw [hr]
    exact ol2.same fun k e => (hg.block k (by have := (hl2 k e).1; omega) (fun e2 => (hl2 k e).2 e2.symm)).trans (hb35.block k (hl2 k e).1)
  · rw [hr]
    obtain ⟨X, hX⟩ := addAll_pre (scG N x) (rch (scG N) g m)
    have hx' : (addAll (rch (scG N) g m) (scG N x))[m]? = some x := by rw [hX, List.getElem?_append_left hm]; exact hx
    rw [outL_succ (scG N) (mkG N) hx']
    have : outL (scG N) (mkG N) (addAll (rch (scG N) g m) (scG N x)) m = outL (scG N) (mkG N) (rch (scG N) g m) m := by
      rw [hX]
      exact outL_append (scG N) (mkG N) (by omega) fun i q hi hq => rch_parts (scG N) g hi hq
    rw [this]
    exact oo2
  · rcases go with e2 | ⟨g', e2, hg'⟩
    · rw [e2] at e
      exact (hl2 k e').2 e
    · rw [e2] at e
      have e : g' = k := Option.some.inj e
      have := (hl2 k e').1
      omega
  · rw [hr]
    obtain ⟨X, hX⟩ := addAll_pre (scG N x) (rch (scG N) g m)
    rw [hX, List.length_append]
    omega
end
theorem tg_at' {L : List Tri} {m : Nat} {x : Tri} (h : L[m]? = some x) : tg L m = x := by unfold tg; rw [h]; rfl
theorem cell_set1 {V V2 : World} {r t o : Nat} {a b c v : Value} (h : V.heap[r]? = some (.cells #[a, b, c] t (0, 0))) (ho : o < 2) (hV : V2 = V.setCell ⟨r, o, none⟩ v) : V2.cell? ⟨r, 2, none⟩ = some c ∧ (∀ k, k ≠ r → V2.heap[k]? = V.heap[k]?) ∧ V2.heap.size = V.heap.size ∧ ∀ B, B ≤ r → Below B V V2 := by
  subst hV
  refine ⟨?_, fun k hk => ?_, by simp [World.setCell], fun B hB => (Below.refl B V).setCell (p := ⟨r, o, none⟩) hB v⟩
  · have hc := cell_in h (i := 2) rfl
    have : o = 0 ∨ o = 1 := by omega
    rcases this with rfl | rfl
    · have h2 : (V.setCell ⟨r, 0, none⟩ v).heap[r]? = some (.cells #[v, b, c] t (0, 0)) := by simp [World.setCell, Array.getElem?_modify, h]
      exact cell_in h2 (i := 2) rfl
    · have h2 : (V.setCell ⟨r, 1, none⟩ v).heap[r]? = some (.cells #[a, v, c] t (0, 0)) := by simp [World.setCell, Array.getElem?_modify, h]
      exact cell_in h2 (i := 2) rfl
  · have hne : ¬ r = k := fun e => hk e.symm
    simp [World.setCell, Array.getElem?_modify, hne]
theorem AkQ.two {B : Nat} {L L1 L2 : List Tri} {lv v4 v5 : Value} {V3 w4 w5 : World} (q : AkQ B L lv V3 L1 v4 w4) (q' : AkQ B L1 v4 w4 L2 v5 w5) : (∀ k, k < V3.heap.size → lv.ownBlock ≠ some k → w5.heap[k]? = V3.heap[k]? ∧ v5.ownBlock ≠ some k) ∧ Grw lv v5 V3.heap.size ∧ Below B V3 w5 := by
  have hz := q.bl.size
  have hg := q.gr.trans q'.gr hz
  refine ⟨fun k hk hne => ⟨(q'.ks k (by omega) ?_).trans (q.ks k hk hne), ?_⟩, hg, q.bl.trans q'.bl⟩
  · rcases q.gr with e | ⟨g, e, hg⟩
    · rw [e]; exact hne
    · rw [e]; intro e2; have e2 : g = k := Option.some.inj e2; omega
  · rcases hg with e | ⟨g, e, hg⟩
    · rw [e]; exact hne
    · rw [e]; intro e2; have e2 : g = k := Option.some.inj e2; omega
theorem Grw.mono {v v' : Value} {C D : Nat} (h : Grw v v' D) (hCD : C ≤ D) : Grw v v' C := by
  rcases h with e | ⟨g, e, hg⟩
  · exact .inl e
  · exact .inr ⟨g, e, by omega⟩
theorem goal_strong {N : List Nd} {u i j : Nat} (hok : OkN N) (hi : i < N.length) (hj : j < N.length) (hu : u ≤ 1) (h : (nd N i).k = farN u ∨ (nd N j).k = farN u) : scG N (u, i, j) = [] ∧ ∀ ps, mkG N (u, i, j) ps = ⟨farN u, 0, 0⟩ := by
  have hf := farN_le u
  have hne : farN u ≠ farN (othN u) := by rcases (show u = 0 ∨ u = 1 by omega) with rfl | rfl <;> decide
  have hso := simG_ok (N := N) (show OkG N.length ((u, i, j) : Tri) from ⟨hu, hi, hj⟩)
  obtain ⟨⟨v, p, q⟩, hs⟩ : ∃ s, simG N (u, i, j) = s := ⟨_, rfl⟩
  rw [hs] at hso
  obtain ⟨_, hp, hq⟩ := hso
  dsimp only at hp hq
  have key : (nd N p).k = farN u ∨ (nd N q).k = farN u := by
    unfold simG at hs
    dsimp only at hs
    by_cases h1 : (nd N i).k = farN (othN u)
    · rw [if_pos h1] at hs
      injection hs with _ hs
      injection hs with e1 e2
      subst e1; subst e2
      rcases h with h | h
      · omega
      · exact .inl h
    · rw [if_neg h1] at hs
      by_cases h2 : (nd N j).k = farN (othN u)
      · rw [if_pos h2] at hs
        injection hs with _ hs
        injection hs with e1 e2
        subst e1; subst e2
        rcases h with h | h
        · exact .inl h
        · omega
      · rw [if_neg h2] at hs
        injection hs with _ hs
        injection hs with e1 e2
        subst e1; subst e2
        exact h
  obtain ⟨⟨k, a, b⟩, hP⟩ : ∃ y, nd N p = y := ⟨_, rfl⟩
  obtain ⟨⟨l, c, d⟩, hQ⟩ : ∃ y, nd N q = y := ⟨_, rfl⟩
  have lp := hok.leaf p hp
  have lq := hok.leaf q hq
  rw [hP] at key lp
  rw [hQ] at key lq
  dsimp only at key lp lq
  by_cases he : k = l
  · subst he
    have hk : k = farN u := by omega
    obtain ⟨rfl, rfl⟩ := lp (by omega)
    obtain ⟨rfl, rfl⟩ := lq (by omega)
    exact ⟨scG_leaf hs hP hQ (by omega), fun ps => by rw [mkG_leaf hs hP hQ (by omega), hk]⟩
  · refine ⟨scG_leaf hs hP hQ (fun h => he h.1), fun ps => ?_⟩
    have hv : u = v := by rw [show v = (simG N (u, i, j)).1 from by rw [hs], simG_way]
    rw [mkG_diff hs hP hQ he, hv]
set_option maxRecDepth 400000 in
set_option maxHeartbeats 51200000 in
theorem boundR_any (N : List Nd) (A : Option Addr) (n c : Nat) (g : Tri) (w : World) (hN : Nl w A n c N) (hok : OkN N) (hg : OkG n g) (hn : n ≤ 24) :
    Calls Try.prog 30 #[.slice A n c, .int .i64 (g.2.1 : Int), .int .i64 (g.2.2 : Int), .bool (decide (g.1 = 0))] w fun e w' => (∃ y can, e = .returned y ∧ GoC N g can ∧ Ow3 w' w.heap.size y can) ∧ Below w.heap.size w w' := by
  have hl := hN.len
  have hnn : 2 * (n * n) ≤ 1152 := by have := Nat.mul_le_mul hn hn; omega
  have HLEN : Hid (∀ m, (rch (scG N) g m).length ≤ 1152) := fun m => Nat.le_trans (rchG_len hN.len hok hg m) hnn
  have HOG : Hid (∀ m x, x ∈ rch (scG N) g m → OkG n x) := fun m x hx => rchG_ok hN.len hok hg m x hx
  obtain ⟨i0, hi, hz0, hz1, hz2⟩ := info_parts Try.infoTy
  have HI : Hid (Try.prog.info? 59 = some i0 ∧ i0.zero = some (.agg #[.int .i64 0, .int .i64 0, .int .i64 0]) ∧ i0.size = 3 ∧ i0.bytes = 24) := ⟨hi, hz0, hz1, hz2⟩
  have HAK := Lib.hid (fun B L lv x W (hL : Owk W B lv L) (h1 : 1 ≤ L.length) (hl : L.length ≤ 1000000) (hok : ∀ y ∈ L, y.1 ≤ 1) (hx : x.1 ≤ 1) (hB : B ≤ W.heap.size) => asked_any B L lv x W hL h1 hl hok hx hB)
  have HCR : Hid (∀ out v W, Ow3 W w.heap.size v out → Unf (scG N) g (mkG N) out → w.heap.size ≤ W.heap.size → ∃ Y m d, v = .slice Y m d ∧ Calls Try.prog 26 #[.slice Y m d, .int .i64 0] W fun e w' => (∃ y can, e = .returned y ∧ GoC N g can ∧ Ow3 w' w.heap.size y can) ∧ Below W.heap.size W w') := fun out v W ho hu hz => by
    obtain ⟨L, hL⟩ := goU_of hok (by rw [hl]; exact hg) hu
    have hoo := hL.okN hok
    have hlen : out.length ≤ 1152 := by
      rw [hL.len]
      refine Nat.le_trans hL.le ?_
      rw [hl]
      omega
    obtain ⟨Y, d, rfl, hnl⟩ := ho.nl (n := out.length) rfl hoo.pos (by omega)
    refine ⟨Y, _, d, rfl, (canonR_any out Y out.length d 0 W hnl hoo hoo.pos (by omega)).mono ?_⟩
    rintro e w' ⟨⟨u, can, rfl, hc, ho'⟩, hb⟩
    exact ⟨⟨u, can, rfl, ⟨out, hu, hc⟩, ho'.base hz⟩, hb⟩
  have HNN := Lib.hid (fun V (h : Below w.heap.size w V) => hN.below h (Nat.le_refl _))
  have HOK := Lib.hid hok
  have HLN : Hid (N.length = n) := hl
  have hbig := hN.big
  have HS0 : Hid (BnS N g w.heap.size w 0 (.slice (some ⟨w.heap.size, 0, none⟩) 1 1) (.slice none 0 0) (w.alloc (.cells #[.int .i64 (g.2.1 : Int), .int .i64 (g.2.2 : Int), .bool (decide (g.1 = 0))] 78))) :=
    ⟨Owk.one w w.heap.size g (Nat.le_refl _), Ow3.nil _ _, fun k e => (by cases e), (Below.refl _ w).alloc (Nat.le_refl _) _, Nat.zero_le _⟩
  clear hN hok hl hg hi hz0 hz1 hz2 hnn
  go_enter Try.func30, Try.ntmps30
  go_wp2
  generalize w.alloc (.cells #[.int .i64 (g.2.1 : Int), .int .i64 (g.2.2 : Int), .bool (decide (g.1 = 0))] 78) = W0 at *
  generalize Value.slice (some ⟨w.heap.size, 0, none⟩) 1 1 = lv0 at *
  go_loopw [9, 10, 11] (fun lv ov kv w' => ∃ (m : Nat), kv = .int .i64 (m : Int) ∧ Hid (BnS N g w.heap.size w m lv ov w')) (fun _ _ kv _ => 1153 - (intOf kv).toNat)
  case atStart => exact ⟨0, by go_num, HS0.out⟩
  case round =>
    obtain ⟨m, rfl, HS⟩ := hrel
    obtain ⟨wo, rfl⟩ : ∃ wo : World, wo = wr := ⟨_, rfl⟩
    clear HS0
    obtain ⟨L, hL⟩ : ∃ L, L = rch (scG N) g m := ⟨_, rfl⟩
    have hol := HS.out.ol
    rw [← hL] at hol
    have hLn : L.length ≤ 1152 := by rw [hL]; exact HLEN.out m
    have hmL : m ≤ L.length := by rw [hL]; exact HS.out.le
    have hpos : 0 < L.length := by rw [hL]; exact List.length_pos_of_mem (rch_start _ _ m)
    have hBw : w.heap.size ≤ wo.heap.size := HS.out.bl.size
    obtain ⟨lb, cap, hlv, hcap, _, hlb, hcell⟩ := hol.form rfl hpos
    subst hlv
    have HLL := Lib.hid hL
    have HOL := Lib.hid hol
    have HBW := Lib.hid hBw
    by_cases hlt : m < L.length
    · have i1 : (m : Int) < (L.length : Int) := by omega
      obtain ⟨x, hx⟩ : ∃ x, L[m]? = some x := ⟨_, List.getElem?_eq_getElem hlt⟩
      obtain ⟨q0, q1, q2⟩ := hcell m hlt
      rw [tg_at' hx] at q0 q1 q2
      have hxn : OkG n x := HOG.out m x (by rw [← hL]; exact List.mem_of_getElem? hx)
      have HXL := Lib.hid hx
      have HXN := Lib.hid hxn
      have hkp := HOK.out.kind x.2.1 (by rw [HLN.out]; exact hxn.2.1)
      have hkq := HOK.out.kind x.2.2 (by rw [HLN.out]; exact hxn.2.2)
      obtain ⟨b, off, rfl, hbl, -⟩ := (HNN.out wo HS.out.bl).two hxn.2.1 hxn.2.2
      obtain ⟨X, hX⟩ : ∃ y, nd N x.2.1 = y := ⟨_, rfl⟩
      obtain ⟨Y, hY⟩ : ∃ y, nd N x.2.2 = y := ⟨_, rfl⟩
      have HX := Lib.hid hX
      have HY := Lib.hid hY
      rw [hX] at hkp
      rw [hY] at hkq
      obtain ⟨k, xa, xb⟩ := X
      obtain ⟨l, ya, yb⟩ := Y
      have HNC : Hid (∀ V, Below wo.heap.size wo V → (V.cell? ⟨b, off + x.2.1 * 3, none⟩ = some (.int .i64 (k : Int)) ∧ V.cell? ⟨b, off + x.2.1 * 3 + 1, none⟩ = some (.int .i64 (xa : Int)) ∧ V.cell? ⟨b, off + x.2.1 * 3 + 2, none⟩ = some (.int .i64 (xb : Int))) ∧
          (V.cell? ⟨b, off + x.2.2 * 3, none⟩ = some (.int .i64 (l : Int)) ∧ V.cell? ⟨b, off + x.2.2 * 3 + 1, none⟩ = some (.int .i64 (ya : Int)) ∧ V.cell? ⟨b, off + x.2.2 * 3 + 2, none⟩ = some (.int .i64 (yb : Int)))) := fun V hV => by
        obtain ⟨b', off', e, _, h1⟩ := (HNN.out V (HS.out.bl.trans (hV.mono hBw))).two hxn.2.1 hxn.2.2
        injection e with e
        injection e with e1 e2
        subst e1; subst e2
        rw [hX, hY] at h1
        exact h1
      have j1 : (x.2.1 : Int) < (n : Int) := by have := hxn.2.1; omega
      have j2 : (x.2.2 : Int) < (n : Int) := by have := hxn.2.2; omega
      dsimp only at hkp hkq
      generalize hn1 : L.length = ll at *
      clear hx hxn hX hY hL hol hcell
      obtain ⟨⟨xu, xi, xj⟩, hxx⟩ : ∃ y, x = y := ⟨_, rfl⟩
      subst hxx
      dsimp only at *
      go_upto_region 7 with (fail)
      obtain ⟨w1, hw1⟩ : ∃ v, v = wo.alloc (.cells #[.int .i64 (xi : Int), .int .i64 (xj : Int), .bool (decide (xu = 0))] 78) := ⟨_, rfl⟩
      rw [← hw1]
      have hb1 : Below wo.heap.size wo w1 := by rw [hw1]; exact (Below.refl _ wo).alloc (Nat.le_refl _) _
      have hr12 : w1.heap[wo.heap.size]? = some (.cells #[.int .i64 (xi : Int), .int .i64 (xj : Int), .bool (decide (xu = 0))] 78 (0, 0)) := by rw [hw1]; exact heap_alloc_new _ _
      have hz1 : w1.heap.size = wo.heap.size + 1 := by rw [hw1]; simp
      have HB1 := Lib.hid hb1
      have HZ1 := Lib.hid hz1
      have HR12 := Lib.hid hr12
      have HCE : Hid (∀ V, Below w1.heap.size w1 V → V.cell? ⟨wo.heap.size, 0, none⟩ = some (.int .i64 (xi : Int)) ∧ V.cell? ⟨wo.heap.size, 1, none⟩ = some (.int .i64 (xj : Int)) ∧ V.cell? ⟨b, off + xi * 3, none⟩ = some (.int .i64 (k : Int)) ∧ V.cell? ⟨b, off + xi * 3 + 1, none⟩ = some (.int .i64 (xa : Int)) ∧ V.cell? ⟨b, off + xi * 3 + 2, none⟩ = some (.int .i64 (xb : Int)) ∧ V.cell? ⟨b, off + xj * 3, none⟩ = some (.int .i64 (l : Int)) ∧ V.cell? ⟨b, off + xj * 3 + 1, none⟩ = some (.int .i64 (ya : Int)) ∧ V.cell? ⟨b, off + xj * 3 + 2, none⟩ = some (.int .i64 (yb : Int))) := fun V hV => by
        have h2 := HNC.out V (hb1.trans (hV.mono hb1.size))
        have h3 := (hV.block wo.heap.size (by omega)).trans hr12
        exact ⟨cell_in h3 (i := 0) rfl, cell_in h3 (i := 1) rfl, h2.1.1, h2.1.2.1, h2.1.2.2, h2.2.1, h2.2.2.1, h2.2.2.2⟩
      obtain ⟨MM, hMM⟩ : ∃ MM : Act → World → Prop, MM = fun a V => ∃ (r13 r14 : Nat), a = { tmps := List.toArray (.slice (some ⟨b, off, none⟩) n c :: .int .i64 (g.2.1 : Int) :: .int .i64 (g.2.2 : Int) :: .bool (decide (g.1 = 0)) :: undef :: undef :: undef :: undef :: .slice none 0 0 :: .slice (some ⟨lb, 0, none⟩) ll cap :: u10 :: .int .i64 (m : Int) :: .pointer (some ⟨wo.heap.size, 0, none⟩) :: .pointer (some ⟨r13, 0, none⟩) :: .pointer (some ⟨r14, 0, none⟩) :: u15 :: u16 :: u17 :: u18 :: u19 :: u20 :: .int .i64 (g.2.1 : Int) :: .int .i64 (g.2.2 : Int) :: .bool (decide (g.1 = 0)) :: .agg #[.int .i64 (g.2.1 : Int), .int .i64 (g.2.2 : Int), .bool (decide (g.1 = 0))] :: lv0 :: .int .i64 (m : Int) :: .slice (some ⟨lb, 0, none⟩) ll cap :: .int .i64 (ll : Int) :: .bool true :: u30 :: u31 :: .slice (some ⟨lb, 0, none⟩) ll cap :: .int .i64 (m : Int) :: .pointer (some ⟨lb, m * 3, none⟩) :: .agg #[.int .i64 (xi : Int), .int .i64 (xj : Int), .bool (decide (xu = 0))] :: .slice (some ⟨b, off, none⟩) n c :: .pointer (some ⟨wo.heap.size, 0, none⟩) :: .int .i64 (xi : Int) :: .pointer (some ⟨b, off + xi * 3, none⟩) :: .agg #[.int .i64 (k : Int), .int .i64 (xa : Int), .int .i64 (xb : Int)] :: .slice (some ⟨b, off, none⟩) n c :: .pointer (some ⟨wo.heap.size, 1, none⟩) :: .int .i64 (xj : Int) :: .pointer (some ⟨b, off + xj * 3, none⟩) :: .agg #[.int .i64 (l : Int), .int .i64 (ya : Int), .int .i64 (yb : Int)] :: u46 :: u47 :: u48 :: u49 :: u50 :: u51 :: u52 :: u53 :: u54 :: u55 :: u56 :: u57 :: u58 :: u59 :: u60 :: u61 :: u62 :: u63 :: u64 :: u65 :: u66 :: u67 :: u68 :: u69 :: u70 :: u71 :: u72 :: u73 :: u74 :: u75 :: u76 :: u77 :: u78 :: u79 :: u80 :: u81 :: u82 :: u83 :: u84 :: u85 :: u86 :: u87 :: u88 :: u89 :: u90 :: u91 :: u92 :: u93 :: u94 :: u95 :: u96 :: u97 :: u98 :: u99 :: u100 :: u101 :: u102 :: u103 :: u104 :: u105 :: u106 :: u107 :: u108 :: u109 :: u110 :: u111 :: u112 :: u113 :: u114 :: u115 :: u116 :: u117 :: u118 :: u119 :: u120 :: u121 :: u122 :: u123 :: u124 :: u125 :: u126 :: u127 :: u128 :: u129 :: u130 :: u131 :: u132 :: u133 :: u134 :: u135 :: undef :: undef :: []), defers := [] } ∧ TwoNew w1 V r13 r14 #[.int .i64 (k : Int), .int .i64 (xa : Int), .int .i64 (xb : Int)] #[.int .i64 (l : Int), .int .i64 (ya : Int), .int .i64 (yb : Int)] 59 ∧ r14 ≠ r13 := ⟨_, rfl⟩
      have HMM := Lib.hid hMM
      have HALL := Lib.hid (And.intro hkp (And.intro hkq (And.intro hbl (And.intro hbig (And.intro hLn (And.intro hmL (And.intro hpos (And.intro hlb (And.intro hlt hBw)))))))))
      clear hMM hw1 hb1 hr12 hz1 q0 q1 q2 hkp hkq hbl hLn hmL hpos hlb hlt hBw hbig
      refine wp_then_monoO (K := MM) ?_ ?_
      rotate_left
      · refine wp_region_held_drew (S := fun V => V.cell? ⟨wo.heap.size, 0, none⟩ = some (.int .i64 (xi : Int)) ∧ V.cell? ⟨wo.heap.size, 1, none⟩ = some (.int .i64 (xj : Int)) ∧ V.cell? ⟨b, off + xi * 3, none⟩ = some (.int .i64 (k : Int)) ∧ V.cell? ⟨b, off + xi * 3 + 1, none⟩ = some (.int .i64 (xa : Int)) ∧ V.cell? ⟨b, off + xi * 3 + 2, none⟩ = some (.int .i64 (xb : Int)) ∧ V.cell? ⟨b, off + xj * 3, none⟩ = some (.int .i64 (l : Int)) ∧ V.cell? ⟨b, off + xj * 3 + 1, none⟩ = some (.int .i64 (ya : Int)) ∧ V.cell? ⟨b, off + xj * 3 + 2, none⟩ = some (.int .i64 (yb : Int))) (by kernel_rfl) (HCE.out _ (Below.refl _ _).drew) (fun hHeld => ?_)
        have hk0 : Below w1.heap.size w1 w1.drew := (Below.refl _ _).drew
        have hs0 : Hid (w1.drew.heap.size = w1.heap.size) := rfl
        generalize w1.drew = V0 at *
        refine wpAnyH_takeO (i := 0) (v := ?_) (by simp only [↓List.getElem?_toArray, ↓List.getElem?_cons_zero]; rfl) (by kernel_rfl) (by kernel_rfl) (by kernel_rfl) (by assumption) ?_ ?_ ?_
        rotate_left
        · exact fun _ _ _ h => h
        · exact Or.inl ⟨by rfl, by (intro V hV; (try dsimp only at hV); go_simp; try with_reducible rfl)⟩
        simp only [Act.put, List.setIfInBounds_toArray, List.set_cons_zero, List.set_cons_succ]
        refine wpAnyH_takeO (i := 1) (v := ?_) (by simp only [↓List.getElem?_toArray, ↓List.getElem?_cons_succ, ↓List.getElem?_cons_zero]; rfl) (by kernel_rfl) (by kernel_rfl) (by kernel_rfl) (by assumption) ?_ ?_ ?_
        rotate_left
        · exact fun _ _ _ h => h
        · exact Or.inl ⟨by rfl, by (intro V hV; (try dsimp only at hV); go_simp; try with_reducible rfl)⟩
        simp only [Act.put, List.setIfInBounds_toArray, List.set_cons_zero, List.set_cons_succ]
        refine wpAnyH_takeO (i := 2) (v := ?_) (by simp only [↓List.getElem?_toArray, ↓List.getElem?_cons_succ, ↓List.getElem?_cons_zero]; rfl) (by kernel_rfl) (by kernel_rfl) (by kernel_rfl) (by assumption) ?_ ?_ ?_
        rotate_left
        · exact fun _ _ _ h => h
        · exact Or.inl ⟨by rfl, by (intro V hV; (try dsimp only at hV); go_simp; try with_reducible rfl)⟩
        simp only [Act.put, List.setIfInBounds_toArray, List.set_cons_zero, List.set_cons_succ]
        refine wpAnyH_takeO (i := 3) (v := ?_) (by simp only [↓List.getElem?_toArray, ↓List.getElem?_cons_succ, ↓List.getElem?_cons_zero]; rfl) (by kernel_rfl) (by kernel_rfl) (by kernel_rfl) (by assumption) ?_ ?_ ?_
        rotate_left
        · exact fun _ _ _ h => h
        · exact Or.inl ⟨by rfl, by (intro V hV; (try dsimp only at hV); go_simp; try with_reducible rfl)⟩
        simp only [Act.put, List.setIfInBounds_toArray, List.set_cons_zero, List.set_cons_succ]
        refine wpAnyH_takeO (i := 4) (v := ?_) (by simp only [↓List.getElem?_toArray, ↓List.getElem?_cons_succ, ↓List.getElem?_cons_zero]; rfl) (by kernel_rfl) (by kernel_rfl) (by kernel_rfl) (by assumption) ?_ ?_ ?_
        rotate_left
        · exact fun _ _ _ h => h
        · exact Or.inl ⟨by rfl, by (intro V hV; (try dsimp only at hV); go_simp; try with_reducible rfl)⟩
        simp only [Act.put, List.setIfInBounds_toArray, List.set_cons_zero, List.set_cons_succ]
        refine wpAnyH_takeO (i := 5) (v := ?_) (by simp only [↓List.getElem?_toArray, ↓List.getElem?_cons_succ, ↓List.getElem?_cons_zero]; rfl) (by kernel_rfl) (by kernel_rfl) (by kernel_rfl) (by assumption) ?_ ?_ ?_
        rotate_left
        · exact fun _ _ _ h => h
        · exact Or.inl ⟨by rfl, by (intro V hV; (try dsimp only at hV); go_simp; try with_reducible rfl)⟩
        simp only [Act.put, List.setIfInBounds_toArray, List.set_cons_zero, List.set_cons_succ]
        refine wpAnyH_takeO (i := 6) (v := ?_) (by simp only [↓List.getElem?_toArray, ↓List.getElem?_cons_succ, ↓List.getElem?_cons_zero]; rfl) (by kernel_rfl) (by kernel_rfl) (by kernel_rfl) (by assumption) ?_ ?_ ?_
        rotate_left
        · exact fun _ _ _ h => h
        · exact Or.inl ⟨by rfl, by (intro V hV; (try dsimp only at hV); go_simp; try with_reducible rfl)⟩
        simp only [Act.put, List.setIfInBounds_toArray, List.set_cons_zero, List.set_cons_succ]
        refine wpAnyH_takeO (i := 7) (v := ?_) (by simp only [↓List.getElem?_toArray, ↓List.getElem?_cons_succ, ↓List.getElem?_cons_zero]; rfl) (by kernel_rfl) (by kernel_rfl) (by kernel_rfl) (by assumption) ?_ ?_ ?_
        rotate_left
        · exact fun _ _ _ h => h
        · exact Or.inl ⟨by rfl, by (intro V hV; (try dsimp only at hV); go_simp; try with_reducible rfl)⟩
        simp only [Act.put, List.setIfInBounds_toArray, List.set_cons_zero, List.set_cons_succ]
        refine wpAnyH_takeO (i := 8) (v := ?_) (by simp only [↓List.getElem?_toArray, ↓List.getElem?_cons_succ, ↓List.getElem?_cons_zero]; rfl) (by kernel_rfl) (by kernel_rfl) (by kernel_rfl) (by assumption) ?_ ?_ ?_
        rotate_left
        · exact fun _ _ _ h => h
        · exact Or.inl ⟨by rfl, by (intro V hV; (try dsimp only at hV); go_simp; try with_reducible rfl)⟩
        simp only [Act.put, List.setIfInBounds_toArray, List.set_cons_zero, List.set_cons_succ]
        refine wpAnyH_takeO (i := 9) (v := ?_) (by simp only [↓List.getElem?_toArray, ↓List.getElem?_cons_succ, ↓List.getElem?_cons_zero]; rfl) (by kernel_rfl) (by kernel_rfl) (by kernel_rfl) (by assumption) ?_ ?_ ?_
        rotate_left
        · exact fun _ _ _ h => h
        · exact Or.inl ⟨by rfl, by (intro V hV; (try dsimp only at hV); go_simp; try with_reducible rfl)⟩
        simp only [Act.put, List.setIfInBounds_toArray, List.set_cons_zero, List.set_cons_succ]
        refine wpAnyH_ready (rs := [10, 11]) (by kernel_rfl) (by simp) ?_
        refine AllReadyH.cons rfl (fun K hK => ?_) ?_
        · go_simp
          obtain ⟨v1, hv1⟩ : ∃ v, v = World.alloc V0 (.cells #[.int .i64 0, .int .i64 0, .int .i64 0] 59) := ⟨_, rfl⟩
          have hb1 : Below V0.heap.size V0 v1 := by rw [hv1]; exact (Below.refl _ _).alloc (Nat.le_refl _) _
          have hw1 : v1.heap[V0.heap.size]? = some (.cells #[.int .i64 0, .int .i64 0, .int .i64 0] 59 (0, 0)) := by rw [hv1]; exact heap_alloc_new _ _
          have hs1 : Hid (v1.heap.size = V0.heap.size + 1) := by rw [hv1, Hid]; simp
          have hk1 := hk0.trans (hb1.mono hk0.size)
          rw [← hv1]
          refine hK.out _ _ (HCE.out _ hk1) (fun hHeld => ?_)
          clear hK K hv1
          try simp only [Act.put, List.setIfInBounds_toArray, List.set_cons_zero, List.set_cons_succ]
          refine wpAnyH_ready (rs := [11]) (by kernel_rfl) (by simp) ?_
          refine AllReadyH.cons rfl (fun K hK => ?_) ?_
          · go_simp
            obtain ⟨v2, hv2⟩ : ∃ v, v = World.alloc v1 (.cells #[.int .i64 0, .int .i64 0, .int .i64 0] 59) := ⟨_, rfl⟩
            have hb2 : Below v1.heap.size v1 v2 := by rw [hv2]; exact (Below.refl _ _).alloc (Nat.le_refl _) _
            have hw2 : v2.heap[v1.heap.size]? = some (.cells #[.int .i64 0, .int .i64 0, .int .i64 0] 59 (0, 0)) := by rw [hv2]; exact heap_alloc_new _ _
            have hs2 : v2.heap.size = v1.heap.size + 1 := by rw [hv2]; simp
            have hw1' := (hb2.block _ (by rw [hs1.out]; omega)).trans hw1
            have hk2 := hk1.trans (hb2.mono hk1.size)
            rw [← hv2]
            clear hs2
            have hs2 : Hid (v2.heap.size = v1.heap.size + 1) := by rw [hv2, Hid]; simp
            refine hK.out _ _ (HCE.out _ hk2) (fun hHeld => ?_)
            clear hK K hv2
            try simp only [Act.put, List.setIfInBounds_toArray, List.set_cons_zero, List.set_cons_succ]
            obtain ⟨r13, hr7⟩ : ∃ r, r = V0.heap.size := ⟨_, rfl⟩
            obtain ⟨r14, hr8⟩ : ∃ r, r = v1.heap.size := ⟨_, rfl⟩
            rw [← hr7, ← hr8]
            have h7 : v2.heap[r13]? = some (.cells #[.int .i64 0, .int .i64 0, .int .i64 0] 59 (0, 0)) := by rw [hr7]; assumption
            have h8 : v2.heap[r14]? = some (.cells #[.int .i64 0, .int .i64 0, .int .i64 0] 59 (0, 0)) := by rw [hr8]; assumption
            have q0 := hs0.out
            have q1 := hs1.out
            have q2 := hs2.out
            have hne : r14 ≠ r13 := by omega
            have hl7 : w1.heap.size ≤ r13 := by omega
            have hl8 : w1.heap.size ≤ r14 := by omega
            have hl7' : Hid (r13 < w1.heap.size + 2) := by rw [Hid]; omega
            have hl8' : Hid (r14 < w1.heap.size + 2) := by rw [Hid]; omega
            have hs2' : Hid (v2.heap.size = w1.heap.size + 2) := by rw [Hid]; omega
            clear q0 q1 q2 hr7 hr8 hw1 hw2 hw1' hb1 hb2 hs1 hs2
            refine wpAnyH_ready (rs := [12]) (by kernel_rfl) (by simp) ?_
            refine AllReadyH.cons rfl (fun K hK => ?_) ?_
            · have x0 := cell_in h7 (i := 0) rfl
              have x1 := cell_in h7 (i := 1) rfl
              have x2 := cell_in h7 (i := 2) rfl
              have y0 : v2.frozen? ⟨r13, 0, none⟩ = false := by simp [World.frozen?, h7]
              have y1 : v2.frozen? ⟨r13, 1, none⟩ = false := by simp [World.frozen?, h7]
              have y2 : v2.frozen? ⟨r13, 2, none⟩ = false := by simp [World.frozen?, h7]
              go_simp
              obtain ⟨v3, hv3⟩ : ∃ v, v = ((World.setCell v2 ⟨r13, 0, none⟩ (.int .i64 (k : Int))).setCell ⟨r13, 1, none⟩ (.int .i64 (xa : Int))).setCell ⟨r13, 2, none⟩ (.int .i64 (xb : Int)) := ⟨_, rfl⟩
              rw [← hv3]
              obtain ⟨hrow, hoth, hb3⟩ := set_threeO h7 hv3
              have hs3 : Hid (v3.heap.size = v2.heap.size) := by rw [hv3, Hid]; simp [World.setCell]
              have h8' := (hoth r14 hne).trans h8
              have hk3 := hk2.trans (hb3 _ hl7)
              refine hK.out _ _ (HCE.out _ hk3) (fun hHeld => ?_)
              clear hK K hv3 x0 x1 x2 y0 y1 y2
              try simp only [Act.put, List.setIfInBounds_toArray, List.set_cons_zero, List.set_cons_succ]
              refine wpAnyH_ready (rs := [13]) (by kernel_rfl) (by simp) ?_
              refine AllReadyH.cons rfl (fun K hK => ?_) ?_
              · have x0 := cell_in h8' (i := 0) rfl
                have x1 := cell_in h8' (i := 1) rfl
                have x2 := cell_in h8' (i := 2) rfl
                have y0 : v3.frozen? ⟨r14, 0, none⟩ = false := by simp [World.frozen?, h8']
                have y1 : v3.frozen? ⟨r14, 1, none⟩ = false := by simp [World.frozen?, h8']
                have y2 : v3.frozen? ⟨r14, 2, none⟩ = false := by simp [World.frozen?, h8']
                go_simp
                obtain ⟨v4, hv4⟩ : ∃ v, v = ((World.setCell v3 ⟨r14, 0, none⟩ (.int .i64 (l : Int))).setCell ⟨r14, 1, none⟩ (.int .i64 (ya : Int))).setCell ⟨r14, 2, none⟩ (.int .i64 (yb : Int)) := ⟨_, rfl⟩
                rw [← hv4]
                obtain ⟨hrow4, hoth4, hb4⟩ := set_threeO h8' hv4
                have hs4 : Hid (v4.heap.size = v3.heap.size) := by rw [hv4, Hid]; simp [World.setCell]
                have hk4 := hk3.trans (hb4 _ hl8)
                refine hK.out _ _ (HCE.out _ hk4) (fun hHeld => ?_)
                clear hK K hv4
                try simp only [Act.put, List.setIfInBounds_toArray, List.set_cons_zero, List.set_cons_succ]
                refine wpAnyH_done (by kernel_rfl) ?_ _
                (show MM _ _; rw [HMM.out]; have q2 := hs2'.out; have q3 := hs3.out; have q4 := hs4.out; have q5 := hl7'.out; have q6 := hl8'.out; exact ⟨r13, r14, rfl, ⟨hk4, by omega, (hoth4 r13 (Ne.symm hne)).trans hrow, hrow4, ⟨hl7, by omega⟩, ⟨hl8, by omega⟩⟩, hne⟩)
              · exact AllReadyH.nil
            · exact AllReadyH.nil
          · exact AllReadyH.nil
        refine AllReadyH.cons rfl (fun K hK => ?_) ?_
        · go_simp
          obtain ⟨v1, hv1⟩ : ∃ v, v = World.alloc V0 (.cells #[.int .i64 0, .int .i64 0, .int .i64 0] 59) := ⟨_, rfl⟩
          have hb1 : Below V0.heap.size V0 v1 := by rw [hv1]; exact (Below.refl _ _).alloc (Nat.le_refl _) _
          have hw1 : v1.heap[V0.heap.size]? = some (.cells #[.int .i64 0, .int .i64 0, .int .i64 0] 59 (0, 0)) := by rw [hv1]; exact heap_alloc_new _ _
          have hs1 : Hid (v1.heap.size = V0.heap.size + 1) := by rw [hv1, Hid]; simp
          have hk1 := hk0.trans (hb1.mono hk0.size)
          rw [← hv1]
          refine hK.out _ _ (HCE.out _ hk1) (fun hHeld => ?_)
          clear hK K hv1
          try simp only [Act.put, List.setIfInBounds_toArray, List.set_cons_zero, List.set_cons_succ]
          refine wpAnyH_ready (rs := [10]) (by kernel_rfl) (by simp) ?_
          refine AllReadyH.cons rfl (fun K hK => ?_) ?_
          · go_simp
            obtain ⟨v2, hv2⟩ : ∃ v, v = World.alloc v1 (.cells #[.int .i64 0, .int .i64 0, .int .i64 0] 59) := ⟨_, rfl⟩
            have hb2 : Below v1.heap.size v1 v2 := by rw [hv2]; exact (Below.refl _ _).alloc (Nat.le_refl _) _
            have hw2 : v2.heap[v1.heap.size]? = some (.cells #[.int .i64 0, .int .i64 0, .int .i64 0] 59 (0, 0)) := by rw [hv2]; exact heap_alloc_new _ _
            have hs2 : v2.heap.size = v1.heap.size + 1 := by rw [hv2]; simp
            have hw1' := (hb2.block _ (by rw [hs1.out]; omega)).trans hw1
            have hk2 := hk1.trans (hb2.mono hk1.size)
            rw [← hv2]
            clear hs2
            have hs2 : Hid (v2.heap.size = v1.heap.size + 1) := by rw [hv2, Hid]; simp
            refine hK.out _ _ (HCE.out _ hk2) (fun hHeld => ?_)
            clear hK K hv2
            try simp only [Act.put, List.setIfInBounds_toArray, List.set_cons_zero, List.set_cons_succ]
            obtain ⟨r13, hr7⟩ : ∃ r, r = v1.heap.size := ⟨_, rfl⟩
            obtain ⟨r14, hr8⟩ : ∃ r, r = V0.heap.size := ⟨_, rfl⟩
            rw [← hr7, ← hr8]
            have h7 : v2.heap[r13]? = some (.cells #[.int .i64 0, .int .i64 0, .int .i64 0] 59 (0, 0)) := by rw [hr7]; assumption
            have h8 : v2.heap[r14]? = some (.cells #[.int .i64 0, .int .i64 0, .int .i64 0] 59 (0, 0)) := by rw [hr8]; assumption
            have q0 := hs0.out
            have q1 := hs1.out
            have q2 := hs2.out
            have hne : r14 ≠ r13 := by omega
            have hl7 : w1.heap.size ≤ r13 := by omega
            have hl8 : w1.heap.size ≤ r14 := by omega
            have hl7' : Hid (r13 < w1.heap.size + 2) := by rw [Hid]; omega
            have hl8' : Hid (r14 < w1.heap.size + 2) := by rw [Hid]; omega
            have hs2' : Hid (v2.heap.size = w1.heap.size + 2) := by rw [Hid]; omega
            clear q0 q1 q2 hr7 hr8 hw1 hw2 hw1' hb1 hb2 hs1 hs2
            refine wpAnyH_ready (rs := [12]) (by kernel_rfl) (by simp) ?_
            refine AllReadyH.cons rfl (fun K hK => ?_) ?_
            · have x0 := cell_in h7 (i := 0) rfl
              have x1 := cell_in h7 (i := 1) rfl
              have x2 := cell_in h7 (i := 2) rfl
              have y0 : v2.frozen? ⟨r13, 0, none⟩ = false := by simp [World.frozen?, h7]
              have y1 : v2.frozen? ⟨r13, 1, none⟩ = false := by simp [World.frozen?, h7]
              have y2 : v2.frozen? ⟨r13, 2, none⟩ = false := by simp [World.frozen?, h7]
              go_simp
              obtain ⟨v3, hv3⟩ : ∃ v, v = ((World.setCell v2 ⟨r13, 0, none⟩ (.int .i64 (k : Int))).setCell ⟨r13, 1, none⟩ (.int .i64 (xa : Int))).setCell ⟨r13, 2, none⟩ (.int .i64 (xb : Int)) := ⟨_, rfl⟩
              rw [← hv3]
              obtain ⟨hrow, hoth, hb3⟩ := set_threeO h7 hv3
              have hs3 : Hid (v3.heap.size = v2.heap.size) := by rw [hv3, Hid]; simp [World.setCell]
              have h8' := (hoth r14 hne).trans h8
              have hk3 := hk2.trans (hb3 _ hl7)
              refine hK.out _ _ (HCE.out _ hk3) (fun hHeld => ?_)
              clear hK K hv3 x0 x1 x2 y0 y1 y2
              try simp only [Act.put, List.setIfInBounds_toArray, List.set_cons_zero, List.set_cons_succ]
              refine wpAnyH_ready (rs := [13]) (by kernel_rfl) (by simp) ?_
              refine AllReadyH.cons rfl (fun K hK => ?_) ?_
              · have x0 := cell_in h8' (i := 0) rfl
                have x1 := cell_in h8' (i := 1) rfl
                have x2 := cell_in h8' (i := 2) rfl
                have y0 : v3.frozen? ⟨r14, 0, none⟩ = false := by simp [World.frozen?, h8']
                have y1 : v3.frozen? ⟨r14, 1, none⟩ = false := by simp [World.frozen?, h8']
                have y2 : v3.frozen? ⟨r14, 2, none⟩ = false := by simp [World.frozen?, h8']
                go_simp
                obtain ⟨v4, hv4⟩ : ∃ v, v = ((World.setCell v3 ⟨r14, 0, none⟩ (.int .i64 (l : Int))).setCell ⟨r14, 1, none⟩ (.int .i64 (ya : Int))).setCell ⟨r14, 2, none⟩ (.int .i64 (yb : Int)) := ⟨_, rfl⟩
                rw [← hv4]
                obtain ⟨hrow4, hoth4, hb4⟩ := set_threeO h8' hv4
                have hs4 : Hid (v4.heap.size = v3.heap.size) := by rw [hv4, Hid]; simp [World.setCell]
                have hk4 := hk3.trans (hb4 _ hl8)
                refine hK.out _ _ (HCE.out _ hk4) (fun hHeld => ?_)
                clear hK K hv4
                try simp only [Act.put, List.setIfInBounds_toArray, List.set_cons_zero, List.set_cons_succ]
                refine wpAnyH_done (by kernel_rfl) ?_ _
                (show MM _ _; rw [HMM.out]; have q2 := hs2'.out; have q3 := hs3.out; have q4 := hs4.out; have q5 := hl7'.out; have q6 := hl8'.out; exact ⟨r13, r14, rfl, ⟨hk4, by omega, (hoth4 r13 (Ne.symm hne)).trans hrow, hrow4, ⟨hl7, by omega⟩, ⟨hl8, by omega⟩⟩, hne⟩)
              · exact AllReadyH.nil
            · exact AllReadyH.nil
          · exact AllReadyH.nil
        exact AllReadyH.nil
      intro a V hMV
      rw [HMM.out] at hMV
      obtain ⟨r13, r14, rfl, T, hne⟩ := hMV
      obtain ⟨hkp, hkq, hbl, hbig, hLn, hmL, hpos, hlb, hlt, hBw⟩ := HALL.out
      clear HALL HMM MM HCE HNC
      have hu := T.hu
      have hv := T.hv
      have hlu := T.lu
      have hlv := T.lv
      have HBV : Hid (Below wo.heap.size wo V) := HB1.out.trans (T.bl.mono HB1.out.size)
      have hr12 := (T.bl.block wo.heap.size (by rw [HZ1.out]; omega)).trans HR12.out
      have hz1 := HZ1.out
      have hzV : wo.heap.size + 3 ≤ V.heap.size := by rw [T.sz]; omega
      have hl13 : wo.heap.size + 1 ≤ r13 ∧ r13 < V.heap.size := ⟨by omega, hlu.2⟩
      have hl14 : wo.heap.size + 1 ≤ r14 ∧ r14 < V.heap.size := ⟨by omega, hlv.2⟩
      clear T hlu hlv HB1 HR12 HZ1 hz1
      have HUV := Lib.hid hu
      have HVV := Lib.hid hv
      have HRV := Lib.hid hr12
      have c0 := cell_in hr12 (i := 0) rfl
      have c1 := cell_in hr12 (i := 1) rfl
      have c2 := cell_in hr12 (i := 2) rfl
      have f0 : V.frozen? ⟨wo.heap.size, 0, none⟩ = false := by simp [World.frozen?, hr12]
      have f1 : V.frozen? ⟨wo.heap.size, 1, none⟩ = false := by simp [World.frozen?, hr12]
      have d0 := cell_in hu (i := 0) rfl
      have d1 := cell_in hu (i := 1) rfl
      have d2 := cell_in hu (i := 2) rfl
      have e0 := cell_in hv (i := 0) rfl
      have e1 := cell_in hv (i := 1) rfl
      have e2 := cell_in hv (i := 2) rfl
      have fd0 : V.frozen? ⟨r13, 0, none⟩ = false := by simp [World.frozen?, hu]
      have fd1 : V.frozen? ⟨r13, 1, none⟩ = false := by simp [World.frozen?, hu]
      have fd2 : V.frozen? ⟨r13, 2, none⟩ = false := by simp [World.frozen?, hu]
      have fe0 : V.frozen? ⟨r14, 0, none⟩ = false := by simp [World.frozen?, hv]
      have fe1 : V.frozen? ⟨r14, 1, none⟩ = false := by simp [World.frozen?, hv]
      have fe2 : V.frozen? ⟨r14, 2, none⟩ = false := by simp [World.frozen?, hv]
      clear hu hv hr12
      have hlx := HOK.out.leaf xi (by rw [HLN.out]; exact HXN.out.2.1)
      have hly := HOK.out.leaf xj (by rw [HLN.out]; exact HXN.out.2.2)
      rw [HX.out] at hlx
      rw [HY.out] at hly
      have HLX : Hid (k < 4 → xa = 0 ∧ xb = 0) := hlx
      have HLY : Hid (l < 4 → ya = 0 ∧ yb = 0) := hly
      have HLB : Hid (lb < wo.heap.size) := hlb
      have HLG : Hid (L.length ≤ 1152 ∧ 1 ≤ L.length) := by
        rw [HLL.out]
        exact ⟨HLEN.out m, List.length_pos_of_mem (rch_start _ _ m)⟩
      have HLO : Hid (∀ y ∈ L, y.1 ≤ 1) := fun y hy => (HOG.out m y (by rw [← HLL.out]; exact hy)).1
      have HOLL : Hid ((outL (scG N) (mkG N) (rch (scG N) g m) m).length ≤ 1099511627776) := by
        rw [Hid]; unfold outL; rw [List.length_map, List.length_take]; omega
      have hxu : xu = 0 ∨ xu = 1 := by have := HXN.out.1; dsimp only at this; omega
      clear hlx hly hlb
      rcases hxu with hxu | hxu
      · subst hxu
        have gu : decide ((0 : Nat) = 0) = true := by decide
        rw [gu] at c2
        by_cases h1 : k = 1
        · have gs1 : ((k : Int) == 1) = true := by simp; omega
          have HSS := Lib.hid (goal_strong HOK.out (by rw [HLN.out]; exact HXN.out.2.1) (by rw [HLN.out]; exact HXN.out.2.2) (u := 0) (by omega) (.inl (by rw [HX.out]; exact h1)))
          have HSC : Hid (scG N (0, xi, xj) = []) := HSS.out.1
          have HMK : Hid (∀ ps, mkG N (0, xi, xj) ps = ⟨1, 0, 0⟩) := HSS.out.2
          obtain ⟨V2, hV2⟩ : ∃ v, v = V := ⟨_, rfl⟩
          have HB2 : Hid (Below wo.heap.size wo V2) := by rw [hV2]; exact HBV.out
          subst hV2
          clear h1 hkp hkq
          have hbb : Below V2.heap.size V2 V2 := Below.refl _ _
          have HKB : Hid (∀ k, k < wo.heap.size → (Value.slice (some ⟨lb, 0, none⟩) ll cap).ownBlock ≠ some k → V2.heap[k]? = wo.heap[k]?) := fun k hk _ => (HB2.out.trans (hbb.mono HB2.out.size)).block k hk
          have HZB : Hid (wo.heap.size ≤ V2.heap.size) := Nat.le_trans HB2.out.size hbb.size
          have HOB : Hid (Ow3 V2 w.heap.size u10 (outL (scG N) (mkG N) (rch (scG N) g m) m)) := HS.out.out5 HKB.out HZB.out (Below.refl _ _)
          have HOW : Hid (Owk V2 w.heap.size (.slice (some ⟨lb, 0, none⟩) ll cap) (addAll (rch (scG N) g m) (scG N (0, xi, xj)))) := by
            rw [HSC.out, ← HLL.out]
            exact HOL.out.below (HB2.out.trans (hbb.mono HB2.out.size)) (Nat.le_refl _)
          have HBB : Hid (Below w.heap.size w V2) := HS.out.bl.trans ((HB2.out.trans (hbb.mono HB2.out.size)).mono HBW.out)
          have HSW : Hid (w.heap.size ≤ V2.heap.size) := HBB.out.size
          have HBE : Hid (∀ v9 : World, V2.grownBy v9 u10.ownBlock → Below w.heap.size w v9) := fun v9 hg => HBB.out.grown hg HBB.out.size (fun k e => (HOB.out.lt e).1)
          clear hbb HB2
          go_wp2_with (at_builtin; go_must (refine push3_at _ rfl (.tmp 60) (.tmp 63) 22 rfl w.heap.size i0 Try.underlying22 HI.out _ (outL (scG N) (mkG N) (rch (scG N) g m) m) 1 0 0 _ rfl rfl (by simp) HOB.out HOLL.out (by first | exact HSW.out | (simp; have := HSW.out; omega)) ?_); intro u2 w9 hu2 hgr2 hat2; have HU9 := Lib.hid hu2; have HG9 := Lib.hid hgr2; have HA9 := Lib.hid hat2; clear hu2 hgr2 hat2)
          have HNN' : Hid (BnS N g w.heap.size w (m + 1) (.slice (some ⟨lb, 0, none⟩) ll cap) u2 w9) := by
            refine HS.out.step (x := (0, xi, xj)) (by rw [← HLL.out]; exact HXL.out) (W3 := V2) (W5 := V2) (W6 := w9) HKB.out HZB.out HOW.out (.inl rfl) (Below.refl _ _) HG9.out ?_ HA9.out (HBE.out _ HG9.out)
            rw [show mkG N (0, xi, xj) ((scG N (0, xi, xj)).map (ixK (addAll (rch (scG N) g m) (scG N (0, xi, xj))))) = ⟨1, 0, 0⟩ from HMK.out _]
            exact HU9.out
          exact ⟨⟨m + 1, by go_num, HNN'.out⟩, by simp [intOf]; omega⟩
        · have gs1 : ((k : Int) == 1) = false := by simp; omega
          by_cases h2 : l = 1
          · have gs2 : ((l : Int) == 1) = true := by simp; omega
            have HSS := Lib.hid (goal_strong HOK.out (by rw [HLN.out]; exact HXN.out.2.1) (by rw [HLN.out]; exact HXN.out.2.2) (u := 0) (by omega) (.inr (by rw [HY.out]; exact h2)))
            have HSC : Hid (scG N (0, xi, xj) = []) := HSS.out.1
            have HMK : Hid (∀ ps, mkG N (0, xi, xj) ps = ⟨1, 0, 0⟩) := HSS.out.2
            obtain ⟨V2, hV2⟩ : ∃ v, v = V := ⟨_, rfl⟩
            have HB2 : Hid (Below wo.heap.size wo V2) := by rw [hV2]; exact HBV.out
            subst hV2
            clear h1 h2 hkp hkq
            have hbb : Below V2.heap.size V2 V2 := Below.refl _ _
            have HKB : Hid (∀ k, k < wo.heap.size → (Value.slice (some ⟨lb, 0, none⟩) ll cap).ownBlock ≠ some k → V2.heap[k]? = wo.heap[k]?) := fun k hk _ => (HB2.out.trans (hbb.mono HB2.out.size)).block k hk
            have HZB : Hid (wo.heap.size ≤ V2.heap.size) := Nat.le_trans HB2.out.size hbb.size
            have HOB : Hid (Ow3 V2 w.heap.size u10 (outL (scG N) (mkG N) (rch (scG N) g m) m)) := HS.out.out5 HKB.out HZB.out (Below.refl _ _)
            have HOW : Hid (Owk V2 w.heap.size (.slice (some ⟨lb, 0, none⟩) ll cap) (addAll (rch (scG N) g m) (scG N (0, xi, xj)))) := by
              rw [HSC.out, ← HLL.out]
              exact HOL.out.below (HB2.out.trans (hbb.mono HB2.out.size)) (Nat.le_refl _)
            have HBB : Hid (Below w.heap.size w V2) := HS.out.bl.trans ((HB2.out.trans (hbb.mono HB2.out.size)).mono HBW.out)
            have HSW : Hid (w.heap.size ≤ V2.heap.size) := HBB.out.size
            have HBE : Hid (∀ v9 : World, V2.grownBy v9 u10.ownBlock → Below w.heap.size w v9) := fun v9 hg => HBB.out.grown hg HBB.out.size (fun k e => (HOB.out.lt e).1)
            clear hbb HB2
            go_wp2_with (at_builtin; go_must (refine push3_at _ rfl (.tmp 60) (.tmp 63) 22 rfl w.heap.size i0 Try.underlying22 HI.out _ (outL (scG N) (mkG N) (rch (scG N) g m) m) 1 0 0 _ rfl rfl (by simp) HOB.out HOLL.out (by first | exact HSW.out | (simp; have := HSW.out; omega)) ?_); intro u2 w9 hu2 hgr2 hat2; have HU9 := Lib.hid hu2; have HG9 := Lib.hid hgr2; have HA9 := Lib.hid hat2; clear hu2 hgr2 hat2)
            have HNN' : Hid (BnS N g w.heap.size w (m + 1) (.slice (some ⟨lb, 0, none⟩) ll cap) u2 w9) := by
              refine HS.out.step (x := (0, xi, xj)) (by rw [← HLL.out]; exact HXL.out) (W3 := V2) (W5 := V2) (W6 := w9) HKB.out HZB.out HOW.out (.inl rfl) (Below.refl _ _) HG9.out ?_ HA9.out (HBE.out _ HG9.out)
              rw [show mkG N (0, xi, xj) ((scG N (0, xi, xj)).map (ixK (addAll (rch (scG N) g m) (scG N (0, xi, xj))))) = ⟨1, 0, 0⟩ from HMK.out _]
              exact HU9.out
            exact ⟨⟨m + 1, by go_num, HNN'.out⟩, by simp [intOf]; omega⟩
          · have gs2 : ((l : Int) == 1) = false := by simp; omega
            by_cases h3 : k = 0
            · have gw1 : ((k : Int) == 0) = true := by simp; omega
              have HSG : Hid (simG N (0, xi, xj) = (0, xj, xj)) := by unfold simG; rw [Hid, if_pos (by rw [HX.out]; exact h3)]
              clear h1 h2 h3
              go_upto_region 16 with (fail)
              obtain ⟨V1, hV1⟩ : ∃ v, v = V.setCell ⟨wo.heap.size, 0, none⟩ (.int .i64 (xj : Int)) := ⟨_, rfl⟩
              rw [← hV1]
              obtain ⟨c21, ho1, hs1, hb1⟩ := cell_set1 HRV.out (by omega) hV1
              have hu1 := (ho1 r13 (by omega)).trans HUV.out
              have hv1 := (ho1 r14 (by omega)).trans HVV.out
              have HU1 := Lib.hid hu1
              have HV1 := Lib.hid hv1
              have HBV1 : Hid (Below wo.heap.size wo V1) := HBV.out.trans (hb1 _ (Nat.le_refl _))
              have HC21 := Lib.hid c21
              have HS1 := Lib.hid hs1
              clear hV1 ho1 hb1 c0 c1 c2 c21 f0 f1 d0 d1 d2 e0 e1 e2 fd0 fd1 fd2 fe0 fe1 fe2 hs1
              have a0 := cell_in hv1 (i := 0) rfl
              have a1 := cell_in hv1 (i := 1) rfl
              have a2 := cell_in hv1 (i := 2) rfl
              have b0 := cell_in hu1 (i := 0) rfl
              have b1 := cell_in hu1 (i := 1) rfl
              have b2 := cell_in hu1 (i := 2) rfl
              have fb0 : V1.frozen? ⟨r13, 0, none⟩ = false := by simp [World.frozen?, hu1]
              have fb1 : V1.frozen? ⟨r13, 1, none⟩ = false := by simp [World.frozen?, hu1]
              have fb2 : V1.frozen? ⟨r13, 2, none⟩ = false := by simp [World.frozen?, hu1]
              clear hu1 hv1
              go_upto_region 20 with (fail)
              obtain ⟨V2, hV2⟩ : ∃ v, v = ((V1.setCell ⟨r13, 0, none⟩ (.int .i64 (l : Int))).setCell ⟨r13, 1, none⟩ (.int .i64 (ya : Int))).setCell ⟨r13, 2, none⟩ (.int .i64 (yb : Int)) := ⟨_, rfl⟩
              rw [← hV2]
              obtain ⟨hrw, hoth, hbl2⟩ := set_threeO HU1.out hV2
              have hz2 : V2.heap.size = V.heap.size := by rw [hV2, ← HS1.out]; simp [World.setCell]
              have HB2 : Hid (Below wo.heap.size wo V2) := HBV1.out.trans (hbl2 _ (by omega))
              have HU2 : Hid (V2.heap[r13]? = some (.cells #[.int .i64 (l : Int), .int .i64 (ya : Int), .int .i64 (yb : Int)] 59 (0, 0))) := hrw
              have HV2 : Hid (V2.heap[r14]? = some (.cells #[.int .i64 (l : Int), .int .i64 (ya : Int), .int .i64 (yb : Int)] 59 (0, 0))) := (hoth r14 hne).trans HV1.out
              have c22 : V2.cell? ⟨wo.heap.size, 2, none⟩ = some (.bool true) := (World.cell?_of_block (a := ⟨wo.heap.size, 2, none⟩) (hoth wo.heap.size (by omega))).trans HC21.out
              have d0 := cell_in HU2.out (i := 0) rfl
              have d1 := cell_in HU2.out (i := 1) rfl
              have d2 := cell_in HU2.out (i := 2) rfl
              have e0 := cell_in HV2.out (i := 0) rfl
              have e1 := cell_in HV2.out (i := 1) rfl
              have e2 := cell_in HV2.out (i := 2) rfl
              have hy12 : wo.heap.size < V2.heap.size := by omega
              have hy13 : r13 < V2.heap.size := by omega
              have hy14 : r14 < V2.heap.size := by omega
              have gn : ((l : Int) != (l : Int)) = false := by simp
              clear hV2 hrw hoth hbl2 a0 a1 a2 b0 b1 b2 fb0 fb1 fb2 HU1 HV1 HBV1 HC21 HS1 HUV HVV HRV HBV hz2
              by_cases h4 : 4 ≤ l
              · have g4 : (l : Int) ≥ 4 := by omega
                rcases (show l = 4 ∨ l = 5 by omega) with hk45 | hk45
                · have g5 : ((l : Int) == 4) = true := by simp; omega
                  have HK45 := Lib.hid hk45
                  have HPX : Hid (nd N xj = ⟨l, ya, yb⟩) := HY.out
                  have HPY : Hid (nd N xj = ⟨l, ya, yb⟩) := HY.out
                  clear hk45 h4 hkp hkq
                  obtain ⟨tu, htu⟩ : ∃ t, t = 0 := ⟨_, rfl⟩
                  have htu1 : tu ≤ 1 := by rw [htu]; omega
                  have HSC2 : Hid (scG N (0, xi, xj) = [(tu, ya, ya), (0, yb, yb)]) := by
                    rw [Hid, scG_part HSG.out HPX.out HPY.out (by have := HK45.out; omega), htu]
                    rw [if_neg (by have := HK45.out; omega)]
                  have HAL : Hid (addAll (rch (scG N) g m) (scG N (0, xi, xj)) = addK (addK L (tu, ya, ya)) (0, yb, yb)) := by rw [Hid, HSC2.out, ← HLL.out]; rfl
                  have hix1 : ixK (addK (addK L (tu, ya, ya)) (0, yb, yb)) (tu, ya, ya) = ixK (addK L (tu, ya, ya)) (tu, ya, ya) := by
                    obtain ⟨Z, hZ⟩ := addK_pre (addK L (tu, ya, ya)) (0, yb, yb)
                    rw [hZ]
                    exact idx_append (addK_mem L (tu, ya, ya))
                  obtain ⟨y1, hy1⟩ : ∃ y, y = ixK (addK L (tu, ya, ya)) (tu, ya, ya) := ⟨_, rfl⟩
                  obtain ⟨y2, hy2⟩ : ∃ y, y = ixK (addK (addK L (tu, ya, ya)) (0, yb, yb)) (0, yb, yb) := ⟨_, rfl⟩
                  have HMK : Hid (mkG N (0, xi, xj) ((scG N (0, xi, xj)).map (ixK (addAll (rch (scG N) g m) (scG N (0, xi, xj))))) = ⟨l, y1, y2⟩) := by
                    rw [Hid, HAL.out, HSC2.out, List.map_cons, List.map_cons, List.map_nil, mkG_part HSG.out HPX.out HPY.out (by have := HK45.out; omega), hix1, hy1, hy2]
                  have hL1 : (addK L (tu, ya, ya)).length ≤ 1000000 ∧ 1 ≤ (addK L (tu, ya, ya)).length := by
                    have : (addK L (tu, ya, ya)).length ≤ L.length + 1 := by
                      unfold addK
                      split
                      · omega
                      · rw [List.length_append]; simp
                    exact ⟨by have := HLG.out; omega, List.length_pos_of_mem (addK_mem L (tu, ya, ya))⟩
                  have hO1 : ∀ y ∈ addK L (tu, ya, ya), y.1 ≤ 1 := fun y hy => by
                    rcases addK_sub hy with hy | hy
                    · exact HLO.out y hy
                    · rw [hy]; exact htu1
                  have HA1 : Hid (∀ V3, Owk V3 w.heap.size (.slice (some ⟨lb, 0, none⟩) ll cap) L → w.heap.size ≤ V3.heap.size → Calls Try.prog 50 #[.slice (some ⟨lb, 0, none⟩) ll cap, .agg #[.int .i64 (ya : Int), .int .i64 (ya : Int), .bool true]] V3 fun e w' => ∃ v', e = .returned (.tuple #[v', .int .i64 (y1 : Int)]) ∧ AkQ w.heap.size L (.slice (some ⟨lb, 0, none⟩) ll cap) V3 (addK L (tu, ya, ya)) v' w') := fun V3 ho hz => by
                    have := HAK.out w.heap.size L (.slice (some ⟨lb, 0, none⟩) ll cap) (tu, ya, ya) V3 ho HLG.out.2 (by have := HLG.out; omega) HLO.out htu1 hz
                    rw [← hy1] at this
                    have e : decide (tu = 0) = true := by rw [htu]; decide
                    dsimp only at this
                    rw [e] at this
                    exact this
                  have HA2 : Hid (∀ w4 v4, Owk w4 w.heap.size v4 (addK L (tu, ya, ya)) → w.heap.size ≤ w4.heap.size → Calls Try.prog 50 #[v4, .agg #[.int .i64 (yb : Int), .int .i64 (yb : Int), .bool true]] w4 fun e w' => ∃ v', e = .returned (.tuple #[v', .int .i64 (y2 : Int)]) ∧ AkQ w.heap.size (addK L (tu, ya, ya)) v4 w4 (addK (addK L (tu, ya, ya)) (0, yb, yb)) v' w') := fun w4 v4 ho hz => by
                    have := HAK.out w.heap.size (addK L (tu, ya, ya)) v4 (0, yb, yb) w4 ho hL1.2 hL1.1 hO1 (by show 0 ≤ 1; omega) hz
                    rw [← hy2] at this
                    exact this
                  clear hix1 hy1 hy2 hL1 hO1 htu htu1
                  go_upto_region 26 with (fail)
                  obtain ⟨V3, hV3⟩ : ∃ v, v = (V2.alloc (.cells #[.int .i64 (l : Int), .int .i64 0, .int .i64 0] 59)).alloc (.cells #[.int .i64 (ya : Int), .int .i64 (ya : Int), .bool true] 78) := ⟨_, rfl⟩
                  rw [← hV3]
                  have hb23 : Below V2.heap.size V2 V3 := by rw [hV3]; exact ((Below.refl _ V2).alloc (Nat.le_refl _) _).alloc (by simp) _
                  have hr17 : V3.heap[V2.heap.size]? = some (.cells #[.int .i64 (l : Int), .int .i64 0, .int .i64 0] 59 (0, 0)) := by
                    rw [hV3]
                    show ((V2.heap.push _).push _)[V2.heap.size]? = _
                    rw [Array.getElem?_push, if_neg (by simp), Array.getElem?_push, if_pos rfl]
                  have hr18 : V3.heap[V2.heap.size + 1]? = some (.cells #[.int .i64 (ya : Int), .int .i64 (ya : Int), .bool true] 78 (0, 0)) := by
                    rw [hV3]
                    show ((V2.heap.push _).push _)[V2.heap.size + 1]? = _
                    rw [Array.getElem?_push, if_pos (by simp)]
                  have hz3 : V3.heap.size = V2.heap.size + 2 := by rw [hV3]; simp
                  have HBO3 := Lib.hid (HB2.out.trans (hb23.mono HB2.out.size))
                  have HR17 := Lib.hid hr17
                  have HU3 := Lib.hid ((hb23.block _ hy13).trans HU2.out)
                  have HV3 := Lib.hid ((hb23.block _ hy14).trans HV2.out)
                  have HC3 : Hid (V3.cell? ⟨wo.heap.size, 2, none⟩ = some (.bool true) ∧ wo.heap.size < V3.heap.size) := ⟨(hb23.cell (p := ⟨wo.heap.size, 2, none⟩) hy12).trans c22, by omega⟩
                  have HLT3 : Hid (r13 < V3.heap.size ∧ r14 < V3.heap.size ∧ V2.heap.size < V3.heap.size) := ⟨by omega, by omega, by omega⟩
                  have HNE3 : Hid (∀ r, wo.heap.size ≤ r → (Value.slice (some ⟨lb, 0, none⟩) ll cap).ownBlock ≠ some r) := fun r hr e => by
                    have e : lb = r := Option.some.inj e
                    have := HLB.out
                    omega
                  have HG13 : Hid (wo.heap.size ≤ r13 ∧ wo.heap.size ≤ r14 ∧ wo.heap.size ≤ V2.heap.size) := ⟨by omega, by omega, HB2.out.size⟩
                  have HOW3 : Hid (Owk V3 w.heap.size (.slice (some ⟨lb, 0, none⟩) ll cap) L) := HOL.out.below HBO3.out (Nat.le_refl _)
                  have HSW3 : Hid (w.heap.size ≤ V3.heap.size) := Nat.le_trans HBW.out HBO3.out.size
                  have s0 := cell_in hr18 (i := 0) rfl
                  have s1 := cell_in hr18 (i := 1) rfl
                  have s2 := cell_in hr18 (i := 2) rfl
                  clear hV3 hb23 hr17 hr18 hz3 HB2 HU2 HV2 c22 hy12 hy13 hy14
                  go_upto_region 30 with (first
                    | (go_at_call 50; (with_reducible refine (HA1.out _ HOW3.out HSW3.out).mono ?_); rintro e w4 ⟨v4, rfl, q4⟩; have Q4 := Lib.hid q4; have k12 := (q4.ks wo.heap.size HC3.out.2 (HNE3.out _ (Nat.le_refl _))); have t12 : w4.cell? ⟨wo.heap.size, 2, none⟩ = some (.bool true) := ((World.cell?_of_block (a := ⟨wo.heap.size, 2, none⟩) k12).trans HC3.out.1); have t13 := cell_in ((q4.ks r13 HLT3.out.1 (HNE3.out _ HG13.out.1)).trans HU3.out) (i := 2) rfl; have t14 := cell_in ((q4.ks r14 HLT3.out.2.1 (HNE3.out _ HG13.out.2.1)).trans HV3.out) (i := 2) rfl; clear q4 k12 s0 s1 s2)
                    | (go_at_call 50; (with_reducible refine (HA2.out _ _ Q4.out.ow (Nat.le_trans HSW3.out Q4.out.bl.size)).mono ?_); rintro e w5 ⟨v5, rfl, q5⟩; have Q5 := Lib.hid (Q4.out.two q5); have HO5 := Lib.hid q5.ow; have h17 := ((Q5.out.1 V2.heap.size HLT3.out.2.2 (HNE3.out _ HG13.out.2.2)).1).trans HR17.out; have H17 := Lib.hid h17; have p1 := cell_in h17 (i := 1) rfl; have p2 := cell_in h17 (i := 2) rfl; have fp1 : w5.frozen? ⟨V2.heap.size, 1, none⟩ = false := (by simp [World.frozen?, h17]); have fp2 : w5.frozen? ⟨V2.heap.size, 2, none⟩ = false := (by simp [World.frozen?, h17]); clear q5 h17 t12 t13 t14))
                  obtain ⟨w6, hw6⟩ : ∃ v, v = (w5.setCell ⟨V2.heap.size, 1, none⟩ (.int .i64 (y1 : Int))).setCell ⟨V2.heap.size, 2, none⟩ (.int .i64 (y2 : Int)) := ⟨_, rfl⟩
                  rw [← hw6]
                  have h17 : w6.heap[V2.heap.size]? = some (.cells #[.int .i64 (l : Int), .int .i64 (y1 : Int), .int .i64 (y2 : Int)] 59 (0, 0)) := by rw [hw6]; simp [World.setCell, Array.getElem?_modify, H17.out]
                  have hoth : ∀ k, k ≠ V2.heap.size → w6.heap[k]? = w5.heap[k]? := fun k hk => by
                    have hne : ¬ V2.heap.size = k := fun e => hk e.symm
                    rw [hw6]
                    simp [World.setCell, Array.getElem?_modify, hne]
                  have hb56 : Below V2.heap.size w5 w6 := by rw [hw6]; exact ((Below.refl _ w5).setCell (p := ⟨V2.heap.size, 1, none⟩) (Nat.le_refl _) _).setCell (p := ⟨V2.heap.size, 2, none⟩) (Nat.le_refl _) _
                  have p0 := cell_in h17 (i := 0) rfl
                  have p1' := cell_in h17 (i := 1) rfl
                  have p2' := cell_in h17 (i := 2) rfl
                  have HKB : Hid (∀ k, k < wo.heap.size → (Value.slice (some ⟨lb, 0, none⟩) ll cap).ownBlock ≠ some k → w6.heap[k]? = wo.heap[k]?) := fun k hk hne => (hoth k (by have := HG13.out.2.2; omega)).trans ((Q5.out.1 k (by have := HBO3.out.size; omega) hne).1.trans (HBO3.out.block k hk))
                  have HZB : Hid (wo.heap.size ≤ w6.heap.size) := Nat.le_trans (Nat.le_trans HBO3.out.size Q5.out.2.2.size) hb56.size
                  have HOB : Hid (Ow3 w6 w.heap.size u10 (outL (scG N) (mkG N) (rch (scG N) g m) m)) := HS.out.out5 HKB.out HZB.out (Below.refl _ _)
                  have HOW : Hid (Owk w6 w.heap.size v5 (addAll (rch (scG N) g m) (scG N (0, xi, xj)))) := by
                    rw [HAL.out]
                    exact HO5.out.same fun k e => hoth k (fun e2 => by subst e2; exact (Q5.out.1 V2.heap.size HLT3.out.2.2 (HNE3.out _ HG13.out.2.2)).2 e)
                  have HBB : Hid (Below w.heap.size w w6) := (HS.out.bl.trans (HBO3.out.mono HBW.out)).trans (Q5.out.2.2.trans (hb56.mono (Nat.le_trans HBW.out HG13.out.2.2)))
                  have HSW : Hid (w.heap.size ≤ w6.heap.size) := HBB.out.size
                  have HBE : Hid (∀ v9 : World, w6.grownBy v9 u10.ownBlock → Below w.heap.size w v9) := fun v9 hg => HBB.out.grown hg HBB.out.size (fun k e => (HOB.out.lt e).1)
                  have HGL : Hid (Grw (.slice (some ⟨lb, 0, none⟩) ll cap) v5 wo.heap.size) := Q5.out.2.1.mono HBO3.out.size
                  clear hw6 h17 hoth hb56 p1 p2 fp1 fp2 HO5 H17 HR17 HU3 HV3 HC3 HLT3 HNE3 HOW3
                  go_wp2_with (at_builtin; go_must (refine push3_at _ rfl (.tmp 132) (.tmp 134) 22 rfl w.heap.size i0 Try.underlying22 HI.out _ (outL (scG N) (mkG N) (rch (scG N) g m) m) l y1 y2 _ rfl rfl (by simp) HOB.out HOLL.out (by first | exact HSW.out | (simp; have := HSW.out; omega)) ?_); intro u2 w9 hu2 hgr2 hat2; have HU9 := Lib.hid hu2; have HG9 := Lib.hid hgr2; have HA9 := Lib.hid hat2; clear hu2 hgr2 hat2)
                  have HNN' : Hid (BnS N g w.heap.size w (m + 1) v5 u2 w9) := by
                    refine HS.out.step (x := (0, xi, xj)) (by rw [← HLL.out]; exact HXL.out) (W3 := w6) (W5 := w6) (W6 := w9) HKB.out HZB.out HOW.out HGL.out (Below.refl _ _) HG9.out ?_ HA9.out (HBE.out _ HG9.out)
                    rw [HMK.out]
                    exact HU9.out
                  exact ⟨⟨m + 1, by go_num, HNN'.out⟩, by simp [intOf]; omega⟩
                · have g5 : ((l : Int) == 4) = false := by simp; omega
                  have HK45 := Lib.hid hk45
                  have HPX : Hid (nd N xj = ⟨l, ya, yb⟩) := HY.out
                  have HPY : Hid (nd N xj = ⟨l, ya, yb⟩) := HY.out
                  clear hk45 h4 hkp hkq
                  obtain ⟨tu, htu⟩ : ∃ t, t = othN 0 := ⟨_, rfl⟩
                  have htu1 : tu ≤ 1 := by rw [htu]; exact othN_le _
                  have HSC2 : Hid (scG N (0, xi, xj) = [(tu, ya, ya), (0, yb, yb)]) := by
                    rw [Hid, scG_part HSG.out HPX.out HPY.out (by have := HK45.out; omega), htu]
                    rw [if_pos HK45.out]
                  have HAL : Hid (addAll (rch (scG N) g m) (scG N (0, xi, xj)) = addK (addK L (tu, ya, ya)) (0, yb, yb)) := by rw [Hid, HSC2.out, ← HLL.out]; rfl
                  have hix1 : ixK (addK (addK L (tu, ya, ya)) (0, yb, yb)) (tu, ya, ya) = ixK (addK L (tu, ya, ya)) (tu, ya, ya) := by
                    obtain ⟨Z, hZ⟩ := addK_pre (addK L (tu, ya, ya)) (0, yb, yb)
                    rw [hZ]
                    exact idx_append (addK_mem L (tu, ya, ya))
                  obtain ⟨y1, hy1⟩ : ∃ y, y = ixK (addK L (tu, ya, ya)) (tu, ya, ya) := ⟨_, rfl⟩
                  obtain ⟨y2, hy2⟩ : ∃ y, y = ixK (addK (addK L (tu, ya, ya)) (0, yb, yb)) (0, yb, yb) := ⟨_, rfl⟩
                  have HMK : Hid (mkG N (0, xi, xj) ((scG N (0, xi, xj)).map (ixK (addAll (rch (scG N) g m) (scG N (0, xi, xj))))) = ⟨l, y1, y2⟩) := by
                    rw [Hid, HAL.out, HSC2.out, List.map_cons, List.map_cons, List.map_nil, mkG_part HSG.out HPX.out HPY.out (by have := HK45.out; omega), hix1, hy1, hy2]
                  have hL1 : (addK L (tu, ya, ya)).length ≤ 1000000 ∧ 1 ≤ (addK L (tu, ya, ya)).length := by
                    have : (addK L (tu, ya, ya)).length ≤ L.length + 1 := by
                      unfold addK
                      split
                      · omega
                      · rw [List.length_append]; simp
                    exact ⟨by have := HLG.out; omega, List.length_pos_of_mem (addK_mem L (tu, ya, ya))⟩
                  have hO1 : ∀ y ∈ addK L (tu, ya, ya), y.1 ≤ 1 := fun y hy => by
                    rcases addK_sub hy with hy | hy
                    · exact HLO.out y hy
                    · rw [hy]; exact htu1
                  have HA1 : Hid (∀ V3, Owk V3 w.heap.size (.slice (some ⟨lb, 0, none⟩) ll cap) L → w.heap.size ≤ V3.heap.size → Calls Try.prog 50 #[.slice (some ⟨lb, 0, none⟩) ll cap, .agg #[.int .i64 (ya : Int), .int .i64 (ya : Int), .bool false]] V3 fun e w' => ∃ v', e = .returned (.tuple #[v', .int .i64 (y1 : Int)]) ∧ AkQ w.heap.size L (.slice (some ⟨lb, 0, none⟩) ll cap) V3 (addK L (tu, ya, ya)) v' w') := fun V3 ho hz => by
                    have := HAK.out w.heap.size L (.slice (some ⟨lb, 0, none⟩) ll cap) (tu, ya, ya) V3 ho HLG.out.2 (by have := HLG.out; omega) HLO.out htu1 hz
                    rw [← hy1] at this
                    have e : decide (tu = 0) = false := by rw [htu]; decide
                    dsimp only at this
                    rw [e] at this
                    exact this
                  have HA2 : Hid (∀ w4 v4, Owk w4 w.heap.size v4 (addK L (tu, ya, ya)) → w.heap.size ≤ w4.heap.size → Calls Try.prog 50 #[v4, .agg #[.int .i64 (yb : Int), .int .i64 (yb : Int), .bool true]] w4 fun e w' => ∃ v', e = .returned (.tuple #[v', .int .i64 (y2 : Int)]) ∧ AkQ w.heap.size (addK L (tu, ya, ya)) v4 w4 (addK (addK L (tu, ya, ya)) (0, yb, yb)) v' w') := fun w4 v4 ho hz => by
                    have := HAK.out w.heap.size (addK L (tu, ya, ya)) v4 (0, yb, yb) w4 ho hL1.2 hL1.1 hO1 (by show 0 ≤ 1; omega) hz
                    rw [← hy2] at this
                    exact this
                  clear hix1 hy1 hy2 hL1 hO1 htu htu1
                  go_upto_region 26 with (fail)
                  obtain ⟨V3, hV3⟩ : ∃ v, v = (V2.alloc (.cells #[.int .i64 (l : Int), .int .i64 0, .int .i64 0] 59)).alloc (.cells #[.int .i64 (ya : Int), .int .i64 (ya : Int), .bool false] 78) := ⟨_, rfl⟩
                  rw [← hV3]
                  have hb23 : Below V2.heap.size V2 V3 := by rw [hV3]; exact ((Below.refl _ V2).alloc (Nat.le_refl _) _).alloc (by simp) _
                  have hr17 : V3.heap[V2.heap.size]? = some (.cells #[.int .i64 (l : Int), .int .i64 0, .int .i64 0] 59 (0, 0)) := by
                    rw [hV3]
                    show ((V2.heap.push _).push _)[V2.heap.size]? = _
                    rw [Array.getElem?_push, if_neg (by simp), Array.getElem?_push, if_pos rfl]
                  have hr18 : V3.heap[V2.heap.size + 1]? = some (.cells #[.int .i64 (ya : Int), .int .i64 (ya : Int), .bool false] 78 (0, 0)) := by
                    rw [hV3]
                    show ((V2.heap.push _).push _)[V2.heap.size + 1]? = _
                    rw [Array.getElem?_push, if_pos (by simp)]
                  have hz3 : V3.heap.size = V2.heap.size + 2 := by rw [hV3]; simp
                  have HBO3 := Lib.hid (HB2.out.trans (hb23.mono HB2.out.size))
                  have HR17 := Lib.hid hr17
                  have HU3 := Lib.hid ((hb23.block _ hy13).trans HU2.out)
                  have HV3 := Lib.hid ((hb23.block _ hy14).trans HV2.out)
                  have HC3 : Hid (V3.cell? ⟨wo.heap.size, 2, none⟩ = some (.bool true) ∧ wo.heap.size < V3.heap.size) := ⟨(hb23.cell (p := ⟨wo.heap.size, 2, none⟩) hy12).trans c22, by omega⟩
                  have HLT3 : Hid (r13 < V3.heap.size ∧ r14 < V3.heap.size ∧ V2.heap.size < V3.heap.size) := ⟨by omega, by omega, by omega⟩
                  have HNE3 : Hid (∀ r, wo.heap.size ≤ r → (Value.slice (some ⟨lb, 0, none⟩) ll cap).ownBlock ≠ some r) := fun r hr e => by
                    have e : lb = r := Option.some.inj e
                    have := HLB.out
                    omega
                  have HG13 : Hid (wo.heap.size ≤ r13 ∧ wo.heap.size ≤ r14 ∧ wo.heap.size ≤ V2.heap.size) := ⟨by omega, by omega, HB2.out.size⟩
                  have HOW3 : Hid (Owk V3 w.heap.size (.slice (some ⟨lb, 0, none⟩) ll cap) L) := HOL.out.below HBO3.out (Nat.le_refl _)
                  have HSW3 : Hid (w.heap.size ≤ V3.heap.size) := Nat.le_trans HBW.out HBO3.out.size
                  have s0 := cell_in hr18 (i := 0) rfl
                  have s1 := cell_in hr18 (i := 1) rfl
                  have s2 := cell_in hr18 (i := 2) rfl
                  clear hV3 hb23 hr17 hr18 hz3 HB2 HU2 HV2 c22 hy12 hy13 hy14
                  go_upto_region 30 with (first
                    | (go_at_call 50; (with_reducible refine (HA1.out _ HOW3.out HSW3.out).mono ?_); rintro e w4 ⟨v4, rfl, q4⟩; have Q4 := Lib.hid q4; have k12 := (q4.ks wo.heap.size HC3.out.2 (HNE3.out _ (Nat.le_refl _))); have t12 : w4.cell? ⟨wo.heap.size, 2, none⟩ = some (.bool true) := ((World.cell?_of_block (a := ⟨wo.heap.size, 2, none⟩) k12).trans HC3.out.1); have t13 := cell_in ((q4.ks r13 HLT3.out.1 (HNE3.out _ HG13.out.1)).trans HU3.out) (i := 2) rfl; have t14 := cell_in ((q4.ks r14 HLT3.out.2.1 (HNE3.out _ HG13.out.2.1)).trans HV3.out) (i := 2) rfl; clear q4 k12 s0 s1 s2)
                    | (go_at_call 50; (with_reducible refine (HA2.out _ _ Q4.out.ow (Nat.le_trans HSW3.out Q4.out.bl.size)).mono ?_); rintro e w5 ⟨v5, rfl, q5⟩; have Q5 := Lib.hid (Q4.out.two q5); have HO5 := Lib.hid q5.ow; have h17 := ((Q5.out.1 V2.heap.size HLT3.out.2.2 (HNE3.out _ HG13.out.2.2)).1).trans HR17.out; have H17 := Lib.hid h17; have p1 := cell_in h17 (i := 1) rfl; have p2 := cell_in h17 (i := 2) rfl; have fp1 : w5.frozen? ⟨V2.heap.size, 1, none⟩ = false := (by simp [World.frozen?, h17]); have fp2 : w5.frozen? ⟨V2.heap.size, 2, none⟩ = false := (by simp [World.frozen?, h17]); clear q5 h17 t12 t13 t14))
                  obtain ⟨w6, hw6⟩ : ∃ v, v = (w5.setCell ⟨V2.heap.size, 1, none⟩ (.int .i64 (y1 : Int))).setCell ⟨V2.heap.size, 2, none⟩ (.int .i64 (y2 : Int)) := ⟨_, rfl⟩
                  rw [← hw6]
                  have h17 : w6.heap[V2.heap.size]? = some (.cells #[.int .i64 (l : Int), .int .i64 (y1 : Int), .int .i64 (y2 : Int)] 59 (0, 0)) := by rw [hw6]; simp [World.setCell, Array.getElem?_modify, H17.out]
                  have hoth : ∀ k, k ≠ V2.heap.size → w6.heap[k]? = w5.heap[k]? := fun k hk => by
                    have hne : ¬ V2.heap.size = k := fun e => hk e.symm
                    rw [hw6]
                    simp [World.setCell, Array.getElem?_modify, hne]
                  have hb56 : Below V2.heap.size w5 w6 := by rw [hw6]; exact ((Below.refl _ w5).setCell (p := ⟨V2.heap.size, 1, none⟩) (Nat.le_refl _) _).setCell (p := ⟨V2.heap.size, 2, none⟩) (Nat.le_refl _) _
                  have p0 := cell_in h17 (i := 0) rfl
                  have p1' := cell_in h17 (i := 1) rfl
                  have p2' := cell_in h17 (i := 2) rfl
                  have HKB : Hid (∀ k, k < wo.heap.size → (Value.slice (some ⟨lb, 0, none⟩) ll cap).ownBlock ≠ some k → w6.heap[k]? = wo.heap[k]?) := fun k hk hne => (hoth k (by have := HG13.out.2.2; omega)).trans ((Q5.out.1 k (by have := HBO3.out.size; omega) hne).1.trans (HBO3.out.block k hk))
                  have HZB : Hid (wo.heap.size ≤ w6.heap.size) := Nat.le_trans (Nat.le_trans HBO3.out.size Q5.out.2.2.size) hb56.size
                  have HOB : Hid (Ow3 w6 w.heap.size u10 (outL (scG N) (mkG N) (rch (scG N) g m) m)) := HS.out.out5 HKB.out HZB.out (Below.refl _ _)
                  have HOW : Hid (Owk w6 w.heap.size v5 (addAll (rch (scG N) g m) (scG N (0, xi, xj)))) := by
                    rw [HAL.out]
                    exact HO5.out.same fun k e => hoth k (fun e2 => by subst e2; exact (Q5.out.1 V2.heap.size HLT3.out.2.2 (HNE3.out _ HG13.out.2.2)).2 e)
                  have HBB : Hid (Below w.heap.size w w6) := (HS.out.bl.trans (HBO3.out.mono HBW.out)).trans (Q5.out.2.2.trans (hb56.mono (Nat.le_trans HBW.out HG13.out.2.2)))
                  have HSW : Hid (w.heap.size ≤ w6.heap.size) := HBB.out.size
                  have HBE : Hid (∀ v9 : World, w6.grownBy v9 u10.ownBlock → Below w.heap.size w v9) := fun v9 hg => HBB.out.grown hg HBB.out.size (fun k e => (HOB.out.lt e).1)
                  have HGL : Hid (Grw (.slice (some ⟨lb, 0, none⟩) ll cap) v5 wo.heap.size) := Q5.out.2.1.mono HBO3.out.size
                  clear hw6 h17 hoth hb56 p1 p2 fp1 fp2 HO5 H17 HR17 HU3 HV3 HC3 HLT3 HNE3 HOW3
                  go_wp2_with (at_builtin; go_must (refine push3_at _ rfl (.tmp 132) (.tmp 134) 22 rfl w.heap.size i0 Try.underlying22 HI.out _ (outL (scG N) (mkG N) (rch (scG N) g m) m) l y1 y2 _ rfl rfl (by simp) HOB.out HOLL.out (by first | exact HSW.out | (simp; have := HSW.out; omega)) ?_); intro u2 w9 hu2 hgr2 hat2; have HU9 := Lib.hid hu2; have HG9 := Lib.hid hgr2; have HA9 := Lib.hid hat2; clear hu2 hgr2 hat2)
                  have HNN' : Hid (BnS N g w.heap.size w (m + 1) v5 u2 w9) := by
                    refine HS.out.step (x := (0, xi, xj)) (by rw [← HLL.out]; exact HXL.out) (W3 := w6) (W5 := w6) (W6 := w9) HKB.out HZB.out HOW.out HGL.out (Below.refl _ _) HG9.out ?_ HA9.out (HBE.out _ HG9.out)
                    rw [HMK.out]
                    exact HU9.out
                  exact ⟨⟨m + 1, by go_num, HNN'.out⟩, by simp [intOf]; omega⟩
              · have g4 : ¬ (l : Int) ≥ 4 := by omega
                have HPX : Hid (nd N xj = ⟨l, ya, yb⟩) := HY.out
                have HPY : Hid (nd N xj = ⟨l, ya, yb⟩) := HY.out
                have HSC : Hid (scG N (0, xi, xj) = []) := scG_leaf HSG.out HPX.out HPY.out (fun h => h4 h.2)
                have HMK : Hid (∀ ps, mkG N (0, xi, xj) ps = ⟨l, 0, 0⟩) := fun ps => by
                  rw [mkG_leaf HSG.out HPX.out HPY.out h4]
                  have := HLY.out (by omega)
                  rw [this.1, this.2]
                clear h4 hkp hkq
                obtain ⟨VB, hVB⟩ : ∃ v, v = V2.alloc (.cells #[.int .i64 (l : Int), .int .i64 0, .int .i64 0] 59) := ⟨_, rfl⟩
                have hbb : Below V2.heap.size V2 VB := by rw [hVB]; exact (Below.refl _ V2).alloc (Nat.le_refl _) _
                have HKB : Hid (∀ k, k < wo.heap.size → (Value.slice (some ⟨lb, 0, none⟩) ll cap).ownBlock ≠ some k → VB.heap[k]? = wo.heap[k]?) := fun k hk _ => (HB2.out.trans (hbb.mono HB2.out.size)).block k hk
                have HZB : Hid (wo.heap.size ≤ VB.heap.size) := Nat.le_trans HB2.out.size hbb.size
                have HOB : Hid (Ow3 VB w.heap.size u10 (outL (scG N) (mkG N) (rch (scG N) g m) m)) := HS.out.out5 HKB.out HZB.out (Below.refl _ _)
                have HOW : Hid (Owk VB w.heap.size (.slice (some ⟨lb, 0, none⟩) ll cap) (addAll (rch (scG N) g m) (scG N (0, xi, xj)))) := by
                  rw [HSC.out, ← HLL.out]
                  exact HOL.out.below (HB2.out.trans (hbb.mono HB2.out.size)) (Nat.le_refl _)
                have HBB : Hid (Below w.heap.size w VB) := HS.out.bl.trans ((HB2.out.trans (hbb.mono HB2.out.size)).mono HBW.out)
                have HSW : Hid (w.heap.size ≤ VB.heap.size) := HBB.out.size
                have HBE : Hid (∀ v9 : World, VB.grownBy v9 u10.ownBlock → Below w.heap.size w v9) := fun v9 hg => HBB.out.grown hg HBB.out.size (fun k e => (HOB.out.lt e).1)
                have HVB := Lib.hid hVB
                clear hbb HB2
                go_upto_region 30 with (fail)
                rw [← hVB]
                have hbr : VB.heap[V2.heap.size]? = some (.cells #[.int .i64 (l : Int), .int .i64 0, .int .i64 0] 59 (0, 0)) := by rw [hVB]; exact heap_alloc_new _ _
                have z0 := cell_in hbr (i := 0) rfl
                have z1 := cell_in hbr (i := 1) rfl
                have z2 := cell_in hbr (i := 2) rfl
                clear hVB hbr
                go_wp2_with (at_builtin; go_must (refine push3_at _ rfl (.tmp 132) (.tmp 134) 22 rfl w.heap.size i0 Try.underlying22 HI.out _ (outL (scG N) (mkG N) (rch (scG N) g m) m) l 0 0 _ rfl rfl (by simp) HOB.out HOLL.out (by first | exact HSW.out | (simp; have := HSW.out; omega)) ?_); intro u2 w9 hu2 hgr2 hat2; have HU9 := Lib.hid hu2; have HG9 := Lib.hid hgr2; have HA9 := Lib.hid hat2; clear hu2 hgr2 hat2)
                have HNN' : Hid (BnS N g w.heap.size w (m + 1) (.slice (some ⟨lb, 0, none⟩) ll cap) u2 w9) := by
                  refine HS.out.step (x := (0, xi, xj)) (by rw [← HLL.out]; exact HXL.out) (W3 := VB) (W5 := VB) (W6 := w9) HKB.out HZB.out HOW.out (.inl rfl) (Below.refl _ _) HG9.out ?_ HA9.out (HBE.out _ HG9.out)
                  rw [show mkG N (0, xi, xj) ((scG N (0, xi, xj)).map (ixK (addAll (rch (scG N) g m) (scG N (0, xi, xj))))) = ⟨l, 0, 0⟩ from HMK.out _]
                  exact HU9.out
                exact ⟨⟨m + 1, by go_num, HNN'.out⟩, by simp [intOf]; omega⟩
            · have gw1 : ((k : Int) == 0) = false := by simp; omega
              by_cases h5 : l = 0
              · have gw2 : ((l : Int) == 0) = true := by simp; omega
                have HSG : Hid (simG N (0, xi, xj) = (0, xi, xi)) := by unfold simG; rw [Hid, if_neg (by rw [HX.out]; exact h3), if_pos (by rw [HY.out]; exact h5)]
                clear h1 h2 h3 h5
                go_upto_region 19 with (fail)
                obtain ⟨V1, hV1⟩ : ∃ v, v = V.setCell ⟨wo.heap.size, 1, none⟩ (.int .i64 (xi : Int)) := ⟨_, rfl⟩
                rw [← hV1]
                obtain ⟨c21, ho1, hs1, hb1⟩ := cell_set1 HRV.out (by omega) hV1
                have hu1 := (ho1 r13 (by omega)).trans HUV.out
                have hv1 := (ho1 r14 (by omega)).trans HVV.out
                have HU1 := Lib.hid hu1
                have HV1 := Lib.hid hv1
                have HBV1 : Hid (Below wo.heap.size wo V1) := HBV.out.trans (hb1 _ (Nat.le_refl _))
                have HC21 := Lib.hid c21
                have HS1 := Lib.hid hs1
                clear hV1 ho1 hb1 c0 c1 c2 c21 f0 f1 d0 d1 d2 e0 e1 e2 fd0 fd1 fd2 fe0 fe1 fe2 hs1
                have a0 := cell_in hu1 (i := 0) rfl
                have a1 := cell_in hu1 (i := 1) rfl
                have a2 := cell_in hu1 (i := 2) rfl
                have b0 := cell_in hv1 (i := 0) rfl
                have b1 := cell_in hv1 (i := 1) rfl
                have b2 := cell_in hv1 (i := 2) rfl
                have fb0 : V1.frozen? ⟨r14, 0, none⟩ = false := by simp [World.frozen?, hv1]
                have fb1 : V1.frozen? ⟨r14, 1, none⟩ = false := by simp [World.frozen?, hv1]
                have fb2 : V1.frozen? ⟨r14, 2, none⟩ = false := by simp [World.frozen?, hv1]
                clear hu1 hv1
                go_upto_region 20 with (fail)
                obtain ⟨V2, hV2⟩ : ∃ v, v = ((V1.setCell ⟨r14, 0, none⟩ (.int .i64 (k : Int))).setCell ⟨r14, 1, none⟩ (.int .i64 (xa : Int))).setCell ⟨r14, 2, none⟩ (.int .i64 (xb : Int)) := ⟨_, rfl⟩
                rw [← hV2]
                obtain ⟨hrw, hoth, hbl2⟩ := set_threeO HV1.out hV2
                have hz2 : V2.heap.size = V.heap.size := by rw [hV2, ← HS1.out]; simp [World.setCell]
                have HB2 : Hid (Below wo.heap.size wo V2) := HBV1.out.trans (hbl2 _ (by omega))
                have HU2 : Hid (V2.heap[r13]? = some (.cells #[.int .i64 (k : Int), .int .i64 (xa : Int), .int .i64 (xb : Int)] 59 (0, 0))) := (hoth r13 (Ne.symm hne)).trans HU1.out
                have HV2 : Hid (V2.heap[r14]? = some (.cells #[.int .i64 (k : Int), .int .i64 (xa : Int), .int .i64 (xb : Int)] 59 (0, 0))) := hrw
                have c22 : V2.cell? ⟨wo.heap.size, 2, none⟩ = some (.bool true) := (World.cell?_of_block (a := ⟨wo.heap.size, 2, none⟩) (hoth wo.heap.size (by omega))).trans HC21.out
                have d0 := cell_in HU2.out (i := 0) rfl
                have d1 := cell_in HU2.out (i := 1) rfl
                have d2 := cell_in HU2.out (i := 2) rfl
                have e0 := cell_in HV2.out (i := 0) rfl
                have e1 := cell_in HV2.out (i := 1) rfl
                have e2 := cell_in HV2.out (i := 2) rfl
                have hy12 : wo.heap.size < V2.heap.size := by omega
                have hy13 : r13 < V2.heap.size := by omega
                have hy14 : r14 < V2.heap.size := by omega
                have gn : ((k : Int) != (k : Int)) = false := by simp
                clear hV2 hrw hoth hbl2 a0 a1 a2 b0 b1 b2 fb0 fb1 fb2 HU1 HV1 HBV1 HC21 HS1 HUV HVV HRV HBV hz2
                by_cases h4 : 4 ≤ k
                · have g4 : (k : Int) ≥ 4 := by omega
                  rcases (show k = 4 ∨ k = 5 by omega) with hk45 | hk45
                  · have g5 : ((k : Int) == 4) = true := by simp; omega
                    have HK45 := Lib.hid hk45
                    have HPX : Hid (nd N xi = ⟨k, xa, xb⟩) := HX.out
                    have HPY : Hid (nd N xi = ⟨k, xa, xb⟩) := HX.out
                    clear hk45 h4 hkp hkq
                    obtain ⟨tu, htu⟩ : ∃ t, t = 0 := ⟨_, rfl⟩
                    have htu1 : tu ≤ 1 := by rw [htu]; omega
                    have HSC2 : Hid (scG N (0, xi, xj) = [(tu, xa, xa), (0, xb, xb)]) := by
                      rw [Hid, scG_part HSG.out HPX.out HPY.out (by have := HK45.out; omega), htu]
                      rw [if_neg (by have := HK45.out; omega)]
                    have HAL : Hid (addAll (rch (scG N) g m) (scG N (0, xi, xj)) = addK (addK L (tu, xa, xa)) (0, xb, xb)) := by rw [Hid, HSC2.out, ← HLL.out]; rfl
                    have hix1 : ixK (addK (addK L (tu, xa, xa)) (0, xb, xb)) (tu, xa, xa) = ixK (addK L (tu, xa, xa)) (tu, xa, xa) := by
                      obtain ⟨Z, hZ⟩ := addK_pre (addK L (tu, xa, xa)) (0, xb, xb)
                      rw [hZ]
                      exact idx_append (addK_mem L (tu, xa, xa))
                    obtain ⟨y1, hy1⟩ : ∃ y, y = ixK (addK L (tu, xa, xa)) (tu, xa, xa) := ⟨_, rfl⟩
                    obtain ⟨y2, hy2⟩ : ∃ y, y = ixK (addK (addK L (tu, xa, xa)) (0, xb, xb)) (0, xb, xb) := ⟨_, rfl⟩
                    have HMK : Hid (mkG N (0, xi, xj) ((scG N (0, xi, xj)).map (ixK (addAll (rch (scG N) g m) (scG N (0, xi, xj))))) = ⟨k, y1, y2⟩) := by
                      rw [Hid, HAL.out, HSC2.out, List.map_cons, List.map_cons, List.map_nil, mkG_part HSG.out HPX.out HPY.out (by have := HK45.out; omega), hix1, hy1, hy2]
                    have hL1 : (addK L (tu, xa, xa)).length ≤ 1000000 ∧ 1 ≤ (addK L (tu, xa, xa)).length := by
                      have : (addK L (tu, xa, xa)).length ≤ L.length + 1 := by
                        unfold addK
                        split
                        · omega
                        · rw [List.length_append]; simp
                      exact ⟨by have := HLG.out; omega, List.length_pos_of_mem (addK_mem L (tu, xa, xa))⟩
                    have hO1 : ∀ y ∈ addK L (tu, xa, xa), y.1 ≤ 1 := fun y hy => by
                      rcases addK_sub hy with hy | hy
                      · exact HLO.out y hy
                      · rw [hy]; exact htu1
                    have HA1 : Hid (∀ V3, Owk V3 w.heap.size (.slice (some ⟨lb, 0, none⟩) ll cap) L → w.heap.size ≤ V3.heap.size → Calls Try.prog 50 #[.slice (some ⟨lb, 0, none⟩) ll cap, .agg #[.int .i64 (xa : Int), .int .i64 (xa : Int), .bool true]] V3 fun e w' => ∃ v', e = .returned (.tuple #[v', .int .i64 (y1 : Int)]) ∧ AkQ w.heap.size L (.slice (some ⟨lb, 0, none⟩) ll cap) V3 (addK L (tu, xa, xa)) v' w') := fun V3 ho hz => by
                      have := HAK.out w.heap.size L (.slice (some ⟨lb, 0, none⟩) ll cap) (tu, xa, xa) V3 ho HLG.out.2 (by have := HLG.out; omega) HLO.out htu1 hz
                      rw [← hy1] at this
                      have e : decide (tu = 0) = true := by rw [htu]; decide
                      dsimp only at this
                      rw [e] at this
                      exact this
                    have HA2 : Hid (∀ w4 v4, Owk w4 w.heap.size v4 (addK L (tu, xa, xa)) → w.heap.size ≤ w4.heap.size → Calls Try.prog 50 #[v4, .agg #[.int .i64 (xb : Int), .int .i64 (xb : Int), .bool true]] w4 fun e w' => ∃ v', e = .returned (.tuple #[v', .int .i64 (y2 : Int)]) ∧ AkQ w.heap.size (addK L (tu, xa, xa)) v4 w4 (addK (addK L (tu, xa, xa)) (0, xb, xb)) v' w') := fun w4 v4 ho hz => by
                      have := HAK.out w.heap.size (addK L (tu, xa, xa)) v4 (0, xb, xb) w4 ho hL1.2 hL1.1 hO1 (by show 0 ≤ 1; omega) hz
                      rw [← hy2] at this
                      exact this
                    clear hix1 hy1 hy2 hL1 hO1 htu htu1
                    go_upto_region 26 with (fail)
                    obtain ⟨V3, hV3⟩ : ∃ v, v = (V2.alloc (.cells #[.int .i64 (k : Int), .int .i64 0, .int .i64 0] 59)).alloc (.cells #[.int .i64 (xa : Int), .int .i64 (xa : Int), .bool true] 78) := ⟨_, rfl⟩
                    rw [← hV3]
                    have hb23 : Below V2.heap.size V2 V3 := by rw [hV3]; exact ((Below.refl _ V2).alloc (Nat.le_refl _) _).alloc (by simp) _
                    have hr17 : V3.heap[V2.heap.size]? = some (.cells #[.int .i64 (k : Int), .int .i64 0, .int .i64 0] 59 (0, 0)) := by
                      rw [hV3]
                      show ((V2.heap.push _).push _)[V2.heap.size]? = _
                      rw [Array.getElem?_push, if_neg (by simp), Array.getElem?_push, if_pos rfl]
                    have hr18 : V3.heap[V2.heap.size + 1]? = some (.cells #[.int .i64 (xa : Int), .int .i64 (xa : Int), .bool true] 78 (0, 0)) := by
                      rw [hV3]
                      show ((V2.heap.push _).push _)[V2.heap.size + 1]? = _
                      rw [Array.getElem?_push, if_pos (by simp)]
                    have hz3 : V3.heap.size = V2.heap.size + 2 := by rw [hV3]; simp
                    have HBO3 := Lib.hid (HB2.out.trans (hb23.mono HB2.out.size))
                    have HR17 := Lib.hid hr17
                    have HU3 := Lib.hid ((hb23.block _ hy13).trans HU2.out)
                    have HV3 := Lib.hid ((hb23.block _ hy14).trans HV2.out)
                    have HC3 : Hid (V3.cell? ⟨wo.heap.size, 2, none⟩ = some (.bool true) ∧ wo.heap.size < V3.heap.size) := ⟨(hb23.cell (p := ⟨wo.heap.size, 2, none⟩) hy12).trans c22, by omega⟩
                    have HLT3 : Hid (r13 < V3.heap.size ∧ r14 < V3.heap.size ∧ V2.heap.size < V3.heap.size) := ⟨by omega, by omega, by omega⟩
                    have HNE3 : Hid (∀ r, wo.heap.size ≤ r → (Value.slice (some ⟨lb, 0, none⟩) ll cap).ownBlock ≠ some r) := fun r hr e => by
                      have e : lb = r := Option.some.inj e
                      have := HLB.out
                      omega
                    have HG13 : Hid (wo.heap.size ≤ r13 ∧ wo.heap.size ≤ r14 ∧ wo.heap.size ≤ V2.heap.size) := ⟨by omega, by omega, HB2.out.size⟩
                    have HOW3 : Hid (Owk V3 w.heap.size (.slice (some ⟨lb, 0, none⟩) ll cap) L) := HOL.out.below HBO3.out (Nat.le_refl _)
                    have HSW3 : Hid (w.heap.size ≤ V3.heap.size) := Nat.le_trans HBW.out HBO3.out.size
                    have s0 := cell_in hr18 (i := 0) rfl
                    have s1 := cell_in hr18 (i := 1) rfl
                    have s2 := cell_in hr18 (i := 2) rfl
                    clear hV3 hb23 hr17 hr18 hz3 HB2 HU2 HV2 c22 hy12 hy13 hy14
                    go_upto_region 30 with (first
                      | (go_at_call 50; (with_reducible refine (HA1.out _ HOW3.out HSW3.out).mono ?_); rintro e w4 ⟨v4, rfl, q4⟩; have Q4 := Lib.hid q4; have k12 := (q4.ks wo.heap.size HC3.out.2 (HNE3.out _ (Nat.le_refl _))); have t12 : w4.cell? ⟨wo.heap.size, 2, none⟩ = some (.bool true) := ((World.cell?_of_block (a := ⟨wo.heap.size, 2, none⟩) k12).trans HC3.out.1); have t13 := cell_in ((q4.ks r13 HLT3.out.1 (HNE3.out _ HG13.out.1)).trans HU3.out) (i := 2) rfl; have t14 := cell_in ((q4.ks r14 HLT3.out.2.1 (HNE3.out _ HG13.out.2.1)).trans HV3.out) (i := 2) rfl; clear q4 k12 s0 s1 s2)
                      | (go_at_call 50; (with_reducible refine (HA2.out _ _ Q4.out.ow (Nat.le_trans HSW3.out Q4.out.bl.size)).mono ?_); rintro e w5 ⟨v5, rfl, q5⟩; have Q5 := Lib.hid (Q4.out.two q5); have HO5 := Lib.hid q5.ow; have h17 := ((Q5.out.1 V2.heap.size HLT3.out.2.2 (HNE3.out _ HG13.out.2.2)).1).trans HR17.out; have H17 := Lib.hid h17; have p1 := cell_in h17 (i := 1) rfl; have p2 := cell_in h17 (i := 2) rfl; have fp1 : w5.frozen? ⟨V2.heap.size, 1, none⟩ = false := (by simp [World.frozen?, h17]); have fp2 : w5.frozen? ⟨V2.heap.size, 2, none⟩ = false := (by simp [World.frozen?, h17]); clear q5 h17 t12 t13 t14))
                    obtain ⟨w6, hw6⟩ : ∃ v, v = (w5.setCell ⟨V2.heap.size, 1, none⟩ (.int .i64 (y1 : Int))).setCell ⟨V2.heap.size, 2, none⟩ (.int .i64 (y2 : Int)) := ⟨_, rfl⟩
                    rw [← hw6]
                    have h17 : w6.heap[V2.heap.size]? = some (.cells #[.int .i64 (k : Int), .int .i64 (y1 : Int), .int .i64 (y2 : Int)] 59 (0, 0)) := by rw [hw6]; simp [World.setCell, Array.getElem?_modify, H17.out]
                    have hoth : ∀ k, k ≠ V2.heap.size → w6.heap[k]? = w5.heap[k]? := fun k hk => by
                      have hne : ¬ V2.heap.size = k := fun e => hk e.symm
                      rw [hw6]
                      simp [World.setCell, Array.getElem?_modify, hne]
                    have hb56 : Below V2.heap.size w5 w6 := by rw [hw6]; exact ((Below.refl _ w5).setCell (p := ⟨V2.heap.size, 1, none⟩) (Nat.le_refl _) _).setCell (p := ⟨V2.heap.size, 2, none⟩) (Nat.le_refl _) _
                    have p0 := cell_in h17 (i := 0) rfl
                    have p1' := cell_in h17 (i := 1) rfl
                    have p2' := cell_in h17 (i := 2) rfl
                    have HKB : Hid (∀ k, k < wo.heap.size → (Value.slice (some ⟨lb, 0, none⟩) ll cap).ownBlock ≠ some k → w6.heap[k]? = wo.heap[k]?) := fun k hk hne => (hoth k (by have := HG13.out.2.2; omega)).trans ((Q5.out.1 k (by have := HBO3.out.size; omega) hne).1.trans (HBO3.out.block k hk))
                    have HZB : Hid (wo.heap.size ≤ w6.heap.size) := Nat.le_trans (Nat.le_trans HBO3.out.size Q5.out.2.2.size) hb56.size
                    have HOB : Hid (Ow3 w6 w.heap.size u10 (outL (scG N) (mkG N) (rch (scG N) g m) m)) := HS.out.out5 HKB.out HZB.out (Below.refl _ _)
                    have HOW : Hid (Owk w6 w.heap.size v5 (addAll (rch (scG N) g m) (scG N (0, xi, xj)))) := by
                      rw [HAL.out]
                      exact HO5.out.same fun k e => hoth k (fun e2 => by subst e2; exact (Q5.out.1 V2.heap.size HLT3.out.2.2 (HNE3.out _ HG13.out.2.2)).2 e)
                    have HBB : Hid (Below w.heap.size w w6) := (HS.out.bl.trans (HBO3.out.mono HBW.out)).trans (Q5.out.2.2.trans (hb56.mono (Nat.le_trans HBW.out HG13.out.2.2)))
                    have HSW : Hid (w.heap.size ≤ w6.heap.size) := HBB.out.size
                    have HBE : Hid (∀ v9 : World, w6.grownBy v9 u10.ownBlock → Below w.heap.size w v9) := fun v9 hg => HBB.out.grown hg HBB.out.size (fun k e => (HOB.out.lt e).1)
                    have HGL : Hid (Grw (.slice (some ⟨lb, 0, none⟩) ll cap) v5 wo.heap.size) := Q5.out.2.1.mono HBO3.out.size
                    clear hw6 h17 hoth hb56 p1 p2 fp1 fp2 HO5 H17 HR17 HU3 HV3 HC3 HLT3 HNE3 HOW3
                    go_wp2_with (at_builtin; go_must (refine push3_at _ rfl (.tmp 132) (.tmp 134) 22 rfl w.heap.size i0 Try.underlying22 HI.out _ (outL (scG N) (mkG N) (rch (scG N) g m) m) k y1 y2 _ rfl rfl (by simp) HOB.out HOLL.out (by first | exact HSW.out | (simp; have := HSW.out; omega)) ?_); intro u2 w9 hu2 hgr2 hat2; have HU9 := Lib.hid hu2; have HG9 := Lib.hid hgr2; have HA9 := Lib.hid hat2; clear hu2 hgr2 hat2)
                    have HNN' : Hid (BnS N g w.heap.size w (m + 1) v5 u2 w9) := by
                      refine HS.out.step (x := (0, xi, xj)) (by rw [← HLL.out]; exact HXL.out) (W3 := w6) (W5 := w6) (W6 := w9) HKB.out HZB.out HOW.out HGL.out (Below.refl _ _) HG9.out ?_ HA9.out (HBE.out _ HG9.out)
                      rw [HMK.out]
                      exact HU9.out
                    exact ⟨⟨m + 1, by go_num, HNN'.out⟩, by simp [intOf]; omega⟩
                  · have g5 : ((k : Int) == 4) = false := by simp; omega
                    have HK45 := Lib.hid hk45
                    have HPX : Hid (nd N xi = ⟨k, xa, xb⟩) := HX.out
                    have HPY : Hid (nd N xi = ⟨k, xa, xb⟩) := HX.out
                    clear hk45 h4 hkp hkq
                    obtain ⟨tu, htu⟩ : ∃ t, t = othN 0 := ⟨_, rfl⟩
                    have htu1 : tu ≤ 1 := by rw [htu]; exact othN_le _
                    have HSC2 : Hid (scG N (0, xi, xj) = [(tu, xa, xa), (0, xb, xb)]) := by
                      rw [Hid, scG_part HSG.out HPX.out HPY.out (by have := HK45.out; omega), htu]
                      rw [if_pos HK45.out]
                    have HAL : Hid (addAll (rch (scG N) g m) (scG N (0, xi, xj)) = addK (addK L (tu, xa, xa)) (0, xb, xb)) := by rw [Hid, HSC2.out, ← HLL.out]; rfl
                    have hix1 : ixK (addK (addK L (tu, xa, xa)) (0, xb, xb)) (tu, xa, xa) = ixK (addK L (tu, xa, xa)) (tu, xa, xa) := by
                      obtain ⟨Z, hZ⟩ := addK_pre (addK L (tu, xa, xa)) (0, xb, xb)
                      rw [hZ]
                      exact idx_append (addK_mem L (tu, xa, xa))
                    obtain ⟨y1, hy1⟩ : ∃ y, y = ixK (addK L (tu, xa, xa)) (tu, xa, xa) := ⟨_, rfl⟩
                    obtain ⟨y2, hy2⟩ : ∃ y, y = ixK (addK (addK L (tu, xa, xa)) (0, xb, xb)) (0, xb, xb) := ⟨_, rfl⟩
                    have HMK : Hid (mkG N (0, xi, xj) ((scG N (0, xi, xj)).map (ixK (addAll (rch (scG N) g m) (scG N (0, xi, xj))))) = ⟨k, y1, y2⟩) := by
                      rw [Hid, HAL.out, HSC2.out, List.map_cons, List.map_cons, List.map_nil, mkG_part HSG.out HPX.out HPY.out (by have := HK45.out; omega), hix1, hy1, hy2]
                    have hL1 : (addK L (tu, xa, xa)).length ≤ 1000000 ∧ 1 ≤ (addK L (tu, xa, xa)).length := by
                      have : (addK L (tu, xa, xa)).length ≤ L.length + 1 := by
                        unfold addK
                        split
                        · omega
                        · rw [List.length_append]; simp
                      exact ⟨by have := HLG.out; omega, List.length_pos_of_mem (addK_mem L (tu, xa, xa))⟩
                    have hO1 : ∀ y ∈ addK L (tu, xa, xa), y.1 ≤ 1 := fun y hy => by
                      rcases addK_sub hy with hy | hy
                      · exact HLO.out y hy
                      · rw [hy]; exact htu1
                    have HA1 : Hid (∀ V3, Owk V3 w.heap.size (.slice (some ⟨lb, 0, none⟩) ll cap) L → w.heap.size ≤ V3.heap.size → Calls Try.prog 50 #[.slice (some ⟨lb, 0, none⟩) ll cap, .agg #[.int .i64 (xa : Int), .int .i64 (xa : Int), .bool false]] V3 fun e w' => ∃ v', e = .returned (.tuple #[v', .int .i64 (y1 : Int)]) ∧ AkQ w.heap.size L (.slice (some ⟨lb, 0, none⟩) ll cap) V3 (addK L (tu, xa, xa)) v' w') := fun V3 ho hz => by
                      have := HAK.out w.heap.size L (.slice (some ⟨lb, 0, none⟩) ll cap) (tu, xa, xa) V3 ho HLG.out.2 (by have := HLG.out; omega) HLO.out htu1 hz
                      rw [← hy1] at this
                      have e : decide (tu = 0) = false := by rw [htu]; decide
                      dsimp only at this
                      rw [e] at this
                      exact this
                    have HA2 : Hid (∀ w4 v4, Owk w4 w.heap.size v4 (addK L (tu, xa, xa)) → w.heap.size ≤ w4.heap.size → Calls Try.prog 50 #[v4, .agg #[.int .i64 (xb : Int), .int .i64 (xb : Int), .bool true]] w4 fun e w' => ∃ v', e = .returned (.tuple #[v', .int .i64 (y2 : Int)]) ∧ AkQ w.heap.size (addK L (tu, xa, xa)) v4 w4 (addK (addK L (tu, xa, xa)) (0, xb, xb)) v' w') := fun w4 v4 ho hz => by
                      have := HAK.out w.heap.size (addK L (tu, xa, xa)) v4 (0, xb, xb) w4 ho hL1.2 hL1.1 hO1 (by show 0 ≤ 1; omega) hz
                      rw [← hy2] at this
                      exact this
                    clear hix1 hy1 hy2 hL1 hO1 htu htu1
                    go_upto_region 26 with (fail)
                    obtain ⟨V3, hV3⟩ : ∃ v, v = (V2.alloc (.cells #[.int .i64 (k : Int), .int .i64 0, .int .i64 0] 59)).alloc (.cells #[.int .i64 (xa : Int), .int .i64 (xa : Int), .bool false] 78) := ⟨_, rfl⟩
                    rw [← hV3]
                    have hb23 : Below V2.heap.size V2 V3 := by rw [hV3]; exact ((Below.refl _ V2).alloc (Nat.le_refl _) _).alloc (by simp) _
                    have hr17 : V3.heap[V2.heap.size]? = some (.cells #[.int .i64 (k : Int), .int .i64 0, .int .i64 0] 59 (0, 0)) := by
                      rw [hV3]
                      show ((V2.heap.push _).push _)[V2.heap.size]? = _
                      rw [Array.getElem?_push, if_neg (by simp), Array.getElem?_push, if_pos rfl]
                    have hr18 : V3.heap[V2.heap.size + 1]? = some (.cells #[.int .i64 (xa : Int), .int .i64 (xa : Int), .bool false] 78 (0, 0)) := by
                      rw [hV3]
                      show ((V2.heap.push _).push _)[V2.heap.size + 1]? = _
                      rw [Array.getElem?_push, if_pos (by simp)]
                    have hz3 : V3.heap.size = V2.heap.size + 2 := by rw [hV3]; simp
                    have HBO3 := Lib.hid (HB2.out.trans (hb23.mono HB2.out.size))
                    have HR17 := Lib.hid hr17
                    have HU3 := Lib.hid ((hb23.block _ hy13).trans HU2.out)
                    have HV3 := Lib.hid ((hb23.block _ hy14).trans HV2.out)
                    have HC3 : Hid (V3.cell? ⟨wo.heap.size, 2, none⟩ = some (.bool true) ∧ wo.heap.size < V3.heap.size) := ⟨(hb23.cell (p := ⟨wo.heap.size, 2, none⟩) hy12).trans c22, by omega⟩
                    have HLT3 : Hid (r13 < V3.heap.size ∧ r14 < V3.heap.size ∧ V2.heap.size < V3.heap.size) := ⟨by omega, by omega, by omega⟩
                    have HNE3 : Hid (∀ r, wo.heap.size ≤ r → (Value.slice (some ⟨lb, 0, none⟩) ll cap).ownBlock ≠ some r) := fun r hr e => by
                      have e : lb = r := Option.some.inj e
                      have := HLB.out
                      omega
                    have HG13 : Hid (wo.heap.size ≤ r13 ∧ wo.heap.size ≤ r14 ∧ wo.heap.size ≤ V2.heap.size) := ⟨by omega, by omega, HB2.out.size⟩
                    have HOW3 : Hid (Owk V3 w.heap.size (.slice (some ⟨lb, 0, none⟩) ll cap) L) := HOL.out.below HBO3.out (Nat.le_refl _)
                    have HSW3 : Hid (w.heap.size ≤ V3.heap.size) := Nat.le_trans HBW.out HBO3.out.size
                    have s0 := cell_in hr18 (i := 0) rfl
                    have s1 := cell_in hr18 (i := 1) rfl
                    have s2 := cell_in hr18 (i := 2) rfl
                    clear hV3 hb23 hr17 hr18 hz3 HB2 HU2 HV2 c22 hy12 hy13 hy14
                    go_upto_region 30 with (first
                      | (go_at_call 50; (with_reducible refine (HA1.out _ HOW3.out HSW3.out).mono ?_); rintro e w4 ⟨v4, rfl, q4⟩; have Q4 := Lib.hid q4; have k12 := (q4.ks wo.heap.size HC3.out.2 (HNE3.out _ (Nat.le_refl _))); have t12 : w4.cell? ⟨wo.heap.size, 2, none⟩ = some (.bool true) := ((World.cell?_of_block (a := ⟨wo.heap.size, 2, none⟩) k12).trans HC3.out.1); have t13 := cell_in ((q4.ks r13 HLT3.out.1 (HNE3.out _ HG13.out.1)).trans HU3.out) (i := 2) rfl; have t14 := cell_in ((q4.ks r14 HLT3.out.2.1 (HNE3.out _ HG13.out.2.1)).trans HV3.out) (i := 2) rfl; clear q4 k12 s0 s1 s2)
                      | (go_at_call 50; (with_reducible refine (HA2.out _ _ Q4.out.ow (Nat.le_trans HSW3.out Q4.out.bl.size)).mono ?_); rintro e w5 ⟨v5, rfl, q5⟩; have Q5 := Lib.hid (Q4.out.two q5); have HO5 := Lib.hid q5.ow; have h17 := ((Q5.out.1 V2.heap.size HLT3.out.2.2 (HNE3.out _ HG13.out.2.2)).1).trans HR17.out; have H17 := Lib.hid h17; have p1 := cell_in h17 (i := 1) rfl; have p2 := cell_in h17 (i := 2) rfl; have fp1 : w5.frozen? ⟨V2.heap.size, 1, none⟩ = false := (by simp [World.frozen?, h17]); have fp2 : w5.frozen? ⟨V2.heap.size, 2, none⟩ = false := (by simp [World.frozen?, h17]); clear q5 h17 t12 t13 t14))
                    obtain ⟨w6, hw6⟩ : ∃ v, v = (w5.setCell ⟨V2.heap.size, 1, none⟩ (.int .i64 (y1 : Int))).setCell ⟨V2.heap.size, 2, none⟩ (.int .i64 (y2 : Int)) := ⟨_, rfl⟩
                    rw [← hw6]
                    have h17 : w6.heap[V2.heap.size]? = some (.cells #[.int .i64 (k : Int), .int .i64 (y1 : Int), .int .i64 (y2 : Int)] 59 (0, 0)) := by rw [hw6]; simp [World.setCell, Array.getElem?_modify, H17.out]
                    have hoth : ∀ k, k ≠ V2.heap.size → w6.heap[k]? = w5.heap[k]? := fun k hk => by
                      have hne : ¬ V2.heap.size = k := fun e => hk e.symm
                      rw [hw6]
                      simp [World.setCell, Array.getElem?_modify, hne]
                    have hb56 : Below V2.heap.size w5 w6 := by rw [hw6]; exact ((Below.refl _ w5).setCell (p := ⟨V2.heap.size, 1, none⟩) (Nat.le_refl _) _).setCell (p := ⟨V2.heap.size, 2, none⟩) (Nat.le_refl _) _
                    have p0 := cell_in h17 (i := 0) rfl
                    have p1' := cell_in h17 (i := 1) rfl
                    have p2' := cell_in h17 (i := 2) rfl
                    have HKB : Hid (∀ k, k < wo.heap.size → (Value.slice (some ⟨lb, 0, none⟩) ll cap).ownBlock ≠ some k → w6.heap[k]? = wo.heap[k]?) := fun k hk hne => (hoth k (by have := HG13.out.2.2; omega)).trans ((Q5.out.1 k (by have := HBO3.out.size; omega) hne).1.trans (HBO3.out.block k hk))
                    have HZB : Hid (wo.heap.size ≤ w6.heap.size) := Nat.le_trans (Nat.le_trans HBO3.out.size Q5.out.2.2.size) hb56.size
                    have HOB : Hid (Ow3 w6 w.heap.size u10 (outL (scG N) (mkG N) (rch (scG N) g m) m)) := HS.out.out5 HKB.out HZB.out (Below.refl _ _)
                    have HOW : Hid (Owk w6 w.heap.size v5 (addAll (rch (scG N) g m) (scG N (0, xi, xj)))) := by
                      rw [HAL.out]
                      exact HO5.out.same fun k e => hoth k (fun e2 => by subst e2; exact (Q5.out.1 V2.heap.size HLT3.out.2.2 (HNE3.out _ HG13.out.2.2)).2 e)
                    have HBB : Hid (Below w.heap.size w w6) := (HS.out.bl.trans (HBO3.out.mono HBW.out)).trans (Q5.out.2.2.trans (hb56.mono (Nat.le_trans HBW.out HG13.out.2.2)))
                    have HSW : Hid (w.heap.size ≤ w6.heap.size) := HBB.out.size
                    have HBE : Hid (∀ v9 : World, w6.grownBy v9 u10.ownBlock → Below w.heap.size w v9) := fun v9 hg => HBB.out.grown hg HBB.out.size (fun k e => (HOB.out.lt e).1)
                    have HGL : Hid (Grw (.slice (some ⟨lb, 0, none⟩) ll cap) v5 wo.heap.size) := Q5.out.2.1.mono HBO3.out.size
                    clear hw6 h17 hoth hb56 p1 p2 fp1 fp2 HO5 H17 HR17 HU3 HV3 HC3 HLT3 HNE3 HOW3
                    go_wp2_with (at_builtin; go_must (refine push3_at _ rfl (.tmp 132) (.tmp 134) 22 rfl w.heap.size i0 Try.underlying22 HI.out _ (outL (scG N) (mkG N) (rch (scG N) g m) m) k y1 y2 _ rfl rfl (by simp) HOB.out HOLL.out (by first | exact HSW.out | (simp; have := HSW.out; omega)) ?_); intro u2 w9 hu2 hgr2 hat2; have HU9 := Lib.hid hu2; have HG9 := Lib.hid hgr2; have HA9 := Lib.hid hat2; clear hu2 hgr2 hat2)
                    have HNN' : Hid (BnS N g w.heap.size w (m + 1) v5 u2 w9) := by
                      refine HS.out.step (x := (0, xi, xj)) (by rw [← HLL.out]; exact HXL.out) (W3 := w6) (W5 := w6) (W6 := w9) HKB.out HZB.out HOW.out HGL.out (Below.refl _ _) HG9.out ?_ HA9.out (HBE.out _ HG9.out)
                      rw [HMK.out]
                      exact HU9.out
                    exact ⟨⟨m + 1, by go_num, HNN'.out⟩, by simp [intOf]; omega⟩
                · have g4 : ¬ (k : Int) ≥ 4 := by omega
                  have HPX : Hid (nd N xi = ⟨k, xa, xb⟩) := HX.out
                  have HPY : Hid (nd N xi = ⟨k, xa, xb⟩) := HX.out
                  have HSC : Hid (scG N (0, xi, xj) = []) := scG_leaf HSG.out HPX.out HPY.out (fun h => h4 h.2)
                  have HMK : Hid (∀ ps, mkG N (0, xi, xj) ps = ⟨k, 0, 0⟩) := fun ps => by
                    rw [mkG_leaf HSG.out HPX.out HPY.out h4]
                    have := HLX.out (by omega)
                    rw [this.1, this.2]
                  clear h4 hkp hkq
                  obtain ⟨VB, hVB⟩ : ∃ v, v = V2.alloc (.cells #[.int .i64 (k : Int), .int .i64 0, .int .i64 0] 59) := ⟨_, rfl⟩
                  have hbb : Below V2.heap.size V2 VB := by rw [hVB]; exact (Below.refl _ V2).alloc (Nat.le_refl _) _
                  have HKB : Hid (∀ k, k < wo.heap.size → (Value.slice (some ⟨lb, 0, none⟩) ll cap).ownBlock ≠ some k → VB.heap[k]? = wo.heap[k]?) := fun k hk _ => (HB2.out.trans (hbb.mono HB2.out.size)).block k hk
                  have HZB : Hid (wo.heap.size ≤ VB.heap.size) := Nat.le_trans HB2.out.size hbb.size
                  have HOB : Hid (Ow3 VB w.heap.size u10 (outL (scG N) (mkG N) (rch (scG N) g m) m)) := HS.out.out5 HKB.out HZB.out (Below.refl _ _)
                  have HOW : Hid (Owk VB w.heap.size (.slice (some ⟨lb, 0, none⟩) ll cap) (addAll (rch (scG N) g m) (scG N (0, xi, xj)))) := by
                    rw [HSC.out, ← HLL.out]
                    exact HOL.out.below (HB2.out.trans (hbb.mono HB2.out.size)) (Nat.le_refl _)
                  have HBB : Hid (Below w.heap.size w VB) := HS.out.bl.trans ((HB2.out.trans (hbb.mono HB2.out.size)).mono HBW.out)
                  have HSW : Hid (w.heap.size ≤ VB.heap.size) := HBB.out.size
                  have HBE : Hid (∀ v9 : World, VB.grownBy v9 u10.ownBlock → Below w.heap.size w v9) := fun v9 hg => HBB.out.grown hg HBB.out.size (fun k e => (HOB.out.lt e).1)
                  have HVB := Lib.hid hVB
                  clear hbb HB2
                  go_upto_region 30 with (fail)
                  rw [← hVB]
                  have hbr : VB.heap[V2.heap.size]? = some (.cells #[.int .i64 (k : Int), .int .i64 0, .int .i64 0] 59 (0, 0)) := by rw [hVB]; exact heap_alloc_new _ _
                  have z0 := cell_in hbr (i := 0) rfl
                  have z1 := cell_in hbr (i := 1) rfl
                  have z2 := cell_in hbr (i := 2) rfl
                  clear hVB hbr
                  go_wp2_with (at_builtin; go_must (refine push3_at _ rfl (.tmp 132) (.tmp 134) 22 rfl w.heap.size i0 Try.underlying22 HI.out _ (outL (scG N) (mkG N) (rch (scG N) g m) m) k 0 0 _ rfl rfl (by simp) HOB.out HOLL.out (by first | exact HSW.out | (simp; have := HSW.out; omega)) ?_); intro u2 w9 hu2 hgr2 hat2; have HU9 := Lib.hid hu2; have HG9 := Lib.hid hgr2; have HA9 := Lib.hid hat2; clear hu2 hgr2 hat2)
                  have HNN' : Hid (BnS N g w.heap.size w (m + 1) (.slice (some ⟨lb, 0, none⟩) ll cap) u2 w9) := by
                    refine HS.out.step (x := (0, xi, xj)) (by rw [← HLL.out]; exact HXL.out) (W3 := VB) (W5 := VB) (W6 := w9) HKB.out HZB.out HOW.out (.inl rfl) (Below.refl _ _) HG9.out ?_ HA9.out (HBE.out _ HG9.out)
                    rw [show mkG N (0, xi, xj) ((scG N (0, xi, xj)).map (ixK (addAll (rch (scG N) g m) (scG N (0, xi, xj))))) = ⟨k, 0, 0⟩ from HMK.out _]
                    exact HU9.out
                  exact ⟨⟨m + 1, by go_num, HNN'.out⟩, by simp [intOf]; omega⟩
              · have gw2 : ((l : Int) == 0) = false := by simp; omega
                have HSG : Hid (simG N (0, xi, xj) = (0, xi, xj)) := by unfold simG; rw [Hid, if_neg (by rw [HX.out]; exact h3), if_neg (by rw [HY.out]; exact h5)]
                clear h1 h2 h3 h5
                obtain ⟨V2, hV2⟩ : ∃ v, v = V := ⟨_, rfl⟩
                have HB2 : Hid (Below wo.heap.size wo V2) := by rw [hV2]; exact HBV.out
                have HU2 : Hid (V2.heap[r13]? = some (.cells #[.int .i64 (k : Int), .int .i64 (xa : Int), .int .i64 (xb : Int)] 59 (0, 0))) := by rw [hV2]; exact HUV.out
                have HV2 : Hid (V2.heap[r14]? = some (.cells #[.int .i64 (l : Int), .int .i64 (ya : Int), .int .i64 (yb : Int)] 59 (0, 0))) := by rw [hV2]; exact HVV.out
                subst hV2
                have c22 := c2
                have hy12 : wo.heap.size < V2.heap.size := by omega
                have hy13 : r13 < V2.heap.size := by omega
                have hy14 : r14 < V2.heap.size := by omega
                clear c0 c1 f0 f1 fd0 fd1 fd2 fe0 fe1 fe2 HUV HVV HRV HBV
                by_cases hkl : k = l
                · have gn : ((k : Int) != (l : Int)) = false := by simp; omega
                  have HKL := Lib.hid hkl
                  clear hkl
                  by_cases h4 : 4 ≤ k
                  · have g4 : (k : Int) ≥ 4 := by omega
                    rcases (show k = 4 ∨ k = 5 by omega) with hk45 | hk45
                    · have g5 : ((k : Int) == 4) = true := by simp; omega
                      have HK45 := Lib.hid hk45
                      have HPX : Hid (nd N xi = ⟨k, xa, xb⟩) := HX.out
                      have HPY : Hid (nd N xj = ⟨k, ya, yb⟩) := (by have e := HY.out; rw [← HKL.out] at e; exact e)
                      clear hk45 h4 hkp hkq
                      obtain ⟨tu, htu⟩ : ∃ t, t = 0 := ⟨_, rfl⟩
                      have htu1 : tu ≤ 1 := by rw [htu]; omega
                      have HSC2 : Hid (scG N (0, xi, xj) = [(tu, xa, ya), (0, xb, yb)]) := by
                        rw [Hid, scG_part HSG.out HPX.out HPY.out (by have := HK45.out; omega), htu]
                        rw [if_neg (by have := HK45.out; omega)]
                      have HAL : Hid (addAll (rch (scG N) g m) (scG N (0, xi, xj)) = addK (addK L (tu, xa, ya)) (0, xb, yb)) := by rw [Hid, HSC2.out, ← HLL.out]; rfl
                      have hix1 : ixK (addK (addK L (tu, xa, ya)) (0, xb, yb)) (tu, xa, ya) = ixK (addK L (tu, xa, ya)) (tu, xa, ya) := by
                        obtain ⟨Z, hZ⟩ := addK_pre (addK L (tu, xa, ya)) (0, xb, yb)
                        rw [hZ]
                        exact idx_append (addK_mem L (tu, xa, ya))
                      obtain ⟨y1, hy1⟩ : ∃ y, y = ixK (addK L (tu, xa, ya)) (tu, xa, ya) := ⟨_, rfl⟩
                      obtain ⟨y2, hy2⟩ : ∃ y, y = ixK (addK (addK L (tu, xa, ya)) (0, xb, yb)) (0, xb, yb) := ⟨_, rfl⟩
                      have HMK : Hid (mkG N (0, xi, xj) ((scG N (0, xi, xj)).map (ixK (addAll (rch (scG N) g m) (scG N (0, xi, xj))))) = ⟨k, y1, y2⟩) := by
                        rw [Hid, HAL.out, HSC2.out, List.map_cons, List.map_cons, List.map_nil, mkG_part HSG.out HPX.out HPY.out (by have := HK45.out; omega), hix1, hy1, hy2]
                      have hL1 : (addK L (tu, xa, ya)).length ≤ 1000000 ∧ 1 ≤ (addK L (tu, xa, ya)).length := by
                        have : (addK L (tu, xa, ya)).length ≤ L.length + 1 := by
                          unfold addK
                          split
                          · omega
                          · rw [List.length_append]; simp
                        exact ⟨by have := HLG.out; omega, List.length_pos_of_mem (addK_mem L (tu, xa, ya))⟩
                      have hO1 : ∀ y ∈ addK L (tu, xa, ya), y.1 ≤ 1 := fun y hy => by
                        rcases addK_sub hy with hy | hy
                        · exact HLO.out y hy
                        · rw [hy]; exact htu1
                      have HA1 : Hid (∀ V3, Owk V3 w.heap.size (.slice (some ⟨lb, 0, none⟩) ll cap) L → w.heap.size ≤ V3.heap.size → Calls Try.prog 50 #[.slice (some ⟨lb, 0, none⟩) ll cap, .agg #[.int .i64 (xa : Int), .int .i64 (ya : Int), .bool true]] V3 fun e w' => ∃ v', e = .returned (.tuple #[v', .int .i64 (y1 : Int)]) ∧ AkQ w.heap.size L (.slice (some ⟨lb, 0, none⟩) ll cap) V3 (addK L (tu, xa, ya)) v' w') := fun V3 ho hz => by
                        have := HAK.out w.heap.size L (.slice (some ⟨lb, 0, none⟩) ll cap) (tu, xa, ya) V3 ho HLG.out.2 (by have := HLG.out; omega) HLO.out htu1 hz
                        rw [← hy1] at this
                        have e : decide (tu = 0) = true := by rw [htu]; decide
                        dsimp only at this
                        rw [e] at this
                        exact this
                      have HA2 : Hid (∀ w4 v4, Owk w4 w.heap.size v4 (addK L (tu, xa, ya)) → w.heap.size ≤ w4.heap.size → Calls Try.prog 50 #[v4, .agg #[.int .i64 (xb : Int), .int .i64 (yb : Int), .bool true]] w4 fun e w' => ∃ v', e = .returned (.tuple #[v', .int .i64 (y2 : Int)]) ∧ AkQ w.heap.size (addK L (tu, xa, ya)) v4 w4 (addK (addK L (tu, xa, ya)) (0, xb, yb)) v' w') := fun w4 v4 ho hz => by
                        have := HAK.out w.heap.size (addK L (tu, xa, ya)) v4 (0, xb, yb) w4 ho hL1.2 hL1.1 hO1 (by show 0 ≤ 1; omega) hz
                        rw [← hy2] at this
                        exact this
                      clear hix1 hy1 hy2 hL1 hO1 htu htu1
                      go_upto_region 26 with (fail)
                      obtain ⟨V3, hV3⟩ : ∃ v, v = (V2.alloc (.cells #[.int .i64 (k : Int), .int .i64 0, .int .i64 0] 59)).alloc (.cells #[.int .i64 (xa : Int), .int .i64 (ya : Int), .bool true] 78) := ⟨_, rfl⟩
                      rw [← hV3]
                      have hb23 : Below V2.heap.size V2 V3 := by rw [hV3]; exact ((Below.refl _ V2).alloc (Nat.le_refl _) _).alloc (by simp) _
                      have hr17 : V3.heap[V2.heap.size]? = some (.cells #[.int .i64 (k : Int), .int .i64 0, .int .i64 0] 59 (0, 0)) := by
                        rw [hV3]
                        show ((V2.heap.push _).push _)[V2.heap.size]? = _
                        rw [Array.getElem?_push, if_neg (by simp), Array.getElem?_push, if_pos rfl]
                      have hr18 : V3.heap[V2.heap.size + 1]? = some (.cells #[.int .i64 (xa : Int), .int .i64 (ya : Int), .bool true] 78 (0, 0)) := by
                        rw [hV3]
                        show ((V2.heap.push _).push _)[V2.heap.size + 1]? = _
                        rw [Array.getElem?_push, if_pos (by simp)]
                      have hz3 : V3.heap.size = V2.heap.size + 2 := by rw [hV3]; simp
                      have HBO3 := Lib.hid (HB2.out.trans (hb23.mono HB2.out.size))
                      have HR17 := Lib.hid hr17
                      have HU3 := Lib.hid ((hb23.block _ hy13).trans HU2.out)
                      have HV3 := Lib.hid ((hb23.block _ hy14).trans HV2.out)
                      have HC3 : Hid (V3.cell? ⟨wo.heap.size, 2, none⟩ = some (.bool true) ∧ wo.heap.size < V3.heap.size) := ⟨(hb23.cell (p := ⟨wo.heap.size, 2, none⟩) hy12).trans c22, by omega⟩
                      have HLT3 : Hid (r13 < V3.heap.size ∧ r14 < V3.heap.size ∧ V2.heap.size < V3.heap.size) := ⟨by omega, by omega, by omega⟩
                      have HNE3 : Hid (∀ r, wo.heap.size ≤ r → (Value.slice (some ⟨lb, 0, none⟩) ll cap).ownBlock ≠ some r) := fun r hr e => by
                        have e : lb = r := Option.some.inj e
                        have := HLB.out
                        omega
                      have HG13 : Hid (wo.heap.size ≤ r13 ∧ wo.heap.size ≤ r14 ∧ wo.heap.size ≤ V2.heap.size) := ⟨by omega, by omega, HB2.out.size⟩
                      have HOW3 : Hid (Owk V3 w.heap.size (.slice (some ⟨lb, 0, none⟩) ll cap) L) := HOL.out.below HBO3.out (Nat.le_refl _)
                      have HSW3 : Hid (w.heap.size ≤ V3.heap.size) := Nat.le_trans HBW.out HBO3.out.size
                      have s0 := cell_in hr18 (i := 0) rfl
                      have s1 := cell_in hr18 (i := 1) rfl
                      have s2 := cell_in hr18 (i := 2) rfl
                      clear hV3 hb23 hr17 hr18 hz3 HB2 HU2 HV2 c22 hy12 hy13 hy14
                      go_upto_region 30 with (first
                        | (go_at_call 50; (with_reducible refine (HA1.out _ HOW3.out HSW3.out).mono ?_); rintro e w4 ⟨v4, rfl, q4⟩; have Q4 := Lib.hid q4; have k12 := (q4.ks wo.heap.size HC3.out.2 (HNE3.out _ (Nat.le_refl _))); have t12 : w4.cell? ⟨wo.heap.size, 2, none⟩ = some (.bool true) := ((World.cell?_of_block (a := ⟨wo.heap.size, 2, none⟩) k12).trans HC3.out.1); have t13 := cell_in ((q4.ks r13 HLT3.out.1 (HNE3.out _ HG13.out.1)).trans HU3.out) (i := 2) rfl; have t14 := cell_in ((q4.ks r14 HLT3.out.2.1 (HNE3.out _ HG13.out.2.1)).trans HV3.out) (i := 2) rfl; clear q4 k12 s0 s1 s2)
                        | (go_at_call 50; (with_reducible refine (HA2.out _ _ Q4.out.ow (Nat.le_trans HSW3.out Q4.out.bl.size)).mono ?_); rintro e w5 ⟨v5, rfl, q5⟩; have Q5 := Lib.hid (Q4.out.two q5); have HO5 := Lib.hid q5.ow; have h17 := ((Q5.out.1 V2.heap.size HLT3.out.2.2 (HNE3.out _ HG13.out.2.2)).1).trans HR17.out; have H17 := Lib.hid h17; have p1 := cell_in h17 (i := 1) rfl; have p2 := cell_in h17 (i := 2) rfl; have fp1 : w5.frozen? ⟨V2.heap.size, 1, none⟩ = false := (by simp [World.frozen?, h17]); have fp2 : w5.frozen? ⟨V2.heap.size, 2, none⟩ = false := (by simp [World.frozen?, h17]); clear q5 h17 t12 t13 t14))
                      obtain ⟨w6, hw6⟩ : ∃ v, v = (w5.setCell ⟨V2.heap.size, 1, none⟩ (.int .i64 (y1 : Int))).setCell ⟨V2.heap.size, 2, none⟩ (.int .i64 (y2 : Int)) := ⟨_, rfl⟩
                      rw [← hw6]
                      have h17 : w6.heap[V2.heap.size]? = some (.cells #[.int .i64 (k : Int), .int .i64 (y1 : Int), .int .i64 (y2 : Int)] 59 (0, 0)) := by rw [hw6]; simp [World.setCell, Array.getElem?_modify, H17.out]
                      have hoth : ∀ k, k ≠ V2.heap.size → w6.heap[k]? = w5.heap[k]? := fun k hk => by
                        have hne : ¬ V2.heap.size = k := fun e => hk e.symm
                        rw [hw6]
                        simp [World.setCell, Array.getElem?_modify, hne]
                      have hb56 : Below V2.heap.size w5 w6 := by rw [hw6]; exact ((Below.refl _ w5).setCell (p := ⟨V2.heap.size, 1, none⟩) (Nat.le_refl _) _).setCell (p := ⟨V2.heap.size, 2, none⟩) (Nat.le_refl _) _
                      have p0 := cell_in h17 (i := 0) rfl
                      have p1' := cell_in h17 (i := 1) rfl
                      have p2' := cell_in h17 (i := 2) rfl
                      have HKB : Hid (∀ k, k < wo.heap.size → (Value.slice (some ⟨lb, 0, none⟩) ll cap).ownBlock ≠ some k → w6.heap[k]? = wo.heap[k]?) := fun k hk hne => (hoth k (by have := HG13.out.2.2; omega)).trans ((Q5.out.1 k (by have := HBO3.out.size; omega) hne).1.trans (HBO3.out.block k hk))
                      have HZB : Hid (wo.heap.size ≤ w6.heap.size) := Nat.le_trans (Nat.le_trans HBO3.out.size Q5.out.2.2.size) hb56.size
                      have HOB : Hid (Ow3 w6 w.heap.size u10 (outL (scG N) (mkG N) (rch (scG N) g m) m)) := HS.out.out5 HKB.out HZB.out (Below.refl _ _)
                      have HOW : Hid (Owk w6 w.heap.size v5 (addAll (rch (scG N) g m) (scG N (0, xi, xj)))) := by
                        rw [HAL.out]
                        exact HO5.out.same fun k e => hoth k (fun e2 => by subst e2; exact (Q5.out.1 V2.heap.size HLT3.out.2.2 (HNE3.out _ HG13.out.2.2)).2 e)
                      have HBB : Hid (Below w.heap.size w w6) := (HS.out.bl.trans (HBO3.out.mono HBW.out)).trans (Q5.out.2.2.trans (hb56.mono (Nat.le_trans HBW.out HG13.out.2.2)))
                      have HSW : Hid (w.heap.size ≤ w6.heap.size) := HBB.out.size
                      have HBE : Hid (∀ v9 : World, w6.grownBy v9 u10.ownBlock → Below w.heap.size w v9) := fun v9 hg => HBB.out.grown hg HBB.out.size (fun k e => (HOB.out.lt e).1)
                      have HGL : Hid (Grw (.slice (some ⟨lb, 0, none⟩) ll cap) v5 wo.heap.size) := Q5.out.2.1.mono HBO3.out.size
                      clear hw6 h17 hoth hb56 p1 p2 fp1 fp2 HO5 H17 HR17 HU3 HV3 HC3 HLT3 HNE3 HOW3
                      go_wp2_with (at_builtin; go_must (refine push3_at _ rfl (.tmp 132) (.tmp 134) 22 rfl w.heap.size i0 Try.underlying22 HI.out _ (outL (scG N) (mkG N) (rch (scG N) g m) m) k y1 y2 _ rfl rfl (by simp) HOB.out HOLL.out (by first | exact HSW.out | (simp; have := HSW.out; omega)) ?_); intro u2 w9 hu2 hgr2 hat2; have HU9 := Lib.hid hu2; have HG9 := Lib.hid hgr2; have HA9 := Lib.hid hat2; clear hu2 hgr2 hat2)
                      have HNN' : Hid (BnS N g w.heap.size w (m + 1) v5 u2 w9) := by
                        refine HS.out.step (x := (0, xi, xj)) (by rw [← HLL.out]; exact HXL.out) (W3 := w6) (W5 := w6) (W6 := w9) HKB.out HZB.out HOW.out HGL.out (Below.refl _ _) HG9.out ?_ HA9.out (HBE.out _ HG9.out)
                        rw [HMK.out]
                        exact HU9.out
                      exact ⟨⟨m + 1, by go_num, HNN'.out⟩, by simp [intOf]; omega⟩
                    · have g5 : ((k : Int) == 4) = false := by simp; omega
                      have HK45 := Lib.hid hk45
                      have HPX : Hid (nd N xi = ⟨k, xa, xb⟩) := HX.out
                      have HPY : Hid (nd N xj = ⟨k, ya, yb⟩) := (by have e := HY.out; rw [← HKL.out] at e; exact e)
                      clear hk45 h4 hkp hkq
                      obtain ⟨tu, htu⟩ : ∃ t, t = othN 0 := ⟨_, rfl⟩
                      have htu1 : tu ≤ 1 := by rw [htu]; exact othN_le _
                      have HSC2 : Hid (scG N (0, xi, xj) = [(tu, xa, ya), (0, xb, yb)]) := by
                        rw [Hid, scG_part HSG.out HPX.out HPY.out (by have := HK45.out; omega), htu]
                        rw [if_pos HK45.out]
                      have HAL : Hid (addAll (rch (scG N) g m) (scG N (0, xi, xj)) = addK (addK L (tu, xa, ya)) (0, xb, yb)) := by rw [Hid, HSC2.out, ← HLL.out]; rfl
                      have hix1 : ixK (addK (addK L (tu, xa, ya)) (0, xb, yb)) (tu, xa, ya) = ixK (addK L (tu, xa, ya)) (tu, xa, ya) := by
                        obtain ⟨Z, hZ⟩ := addK_pre (addK L (tu, xa, ya)) (0, xb, yb)
                        rw [hZ]
                        exact idx_append (addK_mem L (tu, xa, ya))
                      obtain ⟨y1, hy1⟩ : ∃ y, y = ixK (addK L (tu, xa, ya)) (tu, xa, ya) := ⟨_, rfl⟩
                      obtain ⟨y2, hy2⟩ : ∃ y, y = ixK (addK (addK L (tu, xa, ya)) (0, xb, yb)) (0, xb, yb) := ⟨_, rfl⟩
                      have HMK : Hid (mkG N (0, xi, xj) ((scG N (0, xi, xj)).map (ixK (addAll (rch (scG N) g m) (scG N (0, xi, xj))))) = ⟨k, y1, y2⟩) := by
                        rw [Hid, HAL.out, HSC2.out, List.map_cons, List.map_cons, List.map_nil, mkG_part HSG.out HPX.out HPY.out (by have := HK45.out; omega), hix1, hy1, hy2]
                      have hL1 : (addK L (tu, xa, ya)).length ≤ 1000000 ∧ 1 ≤ (addK L (tu, xa, ya)).length := by
                        have : (addK L (tu, xa, ya)).length ≤ L.length + 1 := by
                          unfold addK
                          split
                          · omega
                          · rw [List.length_append]; simp
                        exact ⟨by have := HLG.out; omega, List.length_pos_of_mem (addK_mem L (tu, xa, ya))⟩
                      have hO1 : ∀ y ∈ addK L (tu, xa, ya), y.1 ≤ 1 := fun y hy => by
                        rcases addK_sub hy with hy | hy
                        · exact HLO.out y hy
                        · rw [hy]; exact htu1
                      have HA1 : Hid (∀ V3, Owk V3 w.heap.size (.slice (some ⟨lb, 0, none⟩) ll cap) L → w.heap.size ≤ V3.heap.size → Calls Try.prog 50 #[.slice (some ⟨lb, 0, none⟩) ll cap, .agg #[.int .i64 (xa : Int), .int .i64 (ya : Int), .bool false]] V3 fun e w' => ∃ v', e = .returned (.tuple #[v', .int .i64 (y1 : Int)]) ∧ AkQ w.heap.size L (.slice (some ⟨lb, 0, none⟩) ll cap) V3 (addK L (tu, xa, ya)) v' w') := fun V3 ho hz => by
                        have := HAK.out w.heap.size L (.slice (some ⟨lb, 0, none⟩) ll cap) (tu, xa, ya) V3 ho HLG.out.2 (by have := HLG.out; omega) HLO.out htu1 hz
                        rw [← hy1] at this
                        have e : decide (tu = 0) = false := by rw [htu]; decide
                        dsimp only at this
                        rw [e] at this
                        exact this
                      have HA2 : Hid (∀ w4 v4, Owk w4 w.heap.size v4 (addK L (tu, xa, ya)) → w.heap.size ≤ w4.heap.size → Calls Try.prog 50 #[v4, .agg #[.int .i64 (xb : Int), .int .i64 (yb : Int), .bool true]] w4 fun e w' => ∃ v', e = .returned (.tuple #[v', .int .i64 (y2 : Int)]) ∧ AkQ w.heap.size (addK L (tu, xa, ya)) v4 w4 (addK (addK L (tu, xa, ya)) (0, xb, yb)) v' w') := fun w4 v4 ho hz => by
                        have := HAK.out w.heap.size (addK L (tu, xa, ya)) v4 (0, xb, yb) w4 ho hL1.2 hL1.1 hO1 (by show 0 ≤ 1; omega) hz
                        rw [← hy2] at this
                        exact this
                      clear hix1 hy1 hy2 hL1 hO1 htu htu1
                      go_upto_region 26 with (fail)
                      obtain ⟨V3, hV3⟩ : ∃ v, v = (V2.alloc (.cells #[.int .i64 (k : Int), .int .i64 0, .int .i64 0] 59)).alloc (.cells #[.int .i64 (xa : Int), .int .i64 (ya : Int), .bool false] 78) := ⟨_, rfl⟩
                      rw [← hV3]
                      have hb23 : Below V2.heap.size V2 V3 := by rw [hV3]; exact ((Below.refl _ V2).alloc (Nat.le_refl _) _).alloc (by simp) _
                      have hr17 : V3.heap[V2.heap.size]? = some (.cells #[.int .i64 (k : Int), .int .i64 0, .int .i64 0] 59 (0, 0)) := by
                        rw [hV3]
                        show ((V2.heap.push _).push _)[V2.heap.size]? = _
                        rw [Array.getElem?_push, if_neg (by simp), Array.getElem?_push, if_pos rfl]
                      have hr18 : V3.heap[V2.heap.size + 1]? = some (.cells #[.int .i64 (xa : Int), .int .i64 (ya : Int), .bool false] 78 (0, 0)) := by
                        rw [hV3]
                        show ((V2.heap.push _).push _)[V2.heap.size + 1]? = _
                        rw [Array.getElem?_push, if_pos (by simp)]
                      have hz3 : V3.heap.size = V2.heap.size + 2 := by rw [hV3]; simp
                      have HBO3 := Lib.hid (HB2.out.trans (hb23.mono HB2.out.size))
                      have HR17 := Lib.hid hr17
                      have HU3 := Lib.hid ((hb23.block _ hy13).trans HU2.out)
                      have HV3 := Lib.hid ((hb23.block _ hy14).trans HV2.out)
                      have HC3 : Hid (V3.cell? ⟨wo.heap.size, 2, none⟩ = some (.bool true) ∧ wo.heap.size < V3.heap.size) := ⟨(hb23.cell (p := ⟨wo.heap.size, 2, none⟩) hy12).trans c22, by omega⟩
                      have HLT3 : Hid (r13 < V3.heap.size ∧ r14 < V3.heap.size ∧ V2.heap.size < V3.heap.size) := ⟨by omega, by omega, by omega⟩
                      have HNE3 : Hid (∀ r, wo.heap.size ≤ r → (Value.slice (some ⟨lb, 0, none⟩) ll cap).ownBlock ≠ some r) := fun r hr e => by
                        have e : lb = r := Option.some.inj e
                        have := HLB.out
                        omega
                      have HG13 : Hid (wo.heap.size ≤ r13 ∧ wo.heap.size ≤ r14 ∧ wo.heap.size ≤ V2.heap.size) := ⟨by omega, by omega, HB2.out.size⟩
                      have HOW3 : Hid (Owk V3 w.heap.size (.slice (some ⟨lb, 0, none⟩) ll cap) L) := HOL.out.below HBO3.out (Nat.le_refl _)
                      have HSW3 : Hid (w.heap.size ≤ V3.heap.size) := Nat.le_trans HBW.out HBO3.out.size
                      have s0 := cell_in hr18 (i := 0) rfl
                      have s1 := cell_in hr18 (i := 1) rfl
                      have s2 := cell_in hr18 (i := 2) rfl
                      clear hV3 hb23 hr17 hr18 hz3 HB2 HU2 HV2 c22 hy12 hy13 hy14
                      go_upto_region 30 with (first
                        | (go_at_call 50; (with_reducible refine (HA1.out _ HOW3.out HSW3.out).mono ?_); rintro e w4 ⟨v4, rfl, q4⟩; have Q4 := Lib.hid q4; have k12 := (q4.ks wo.heap.size HC3.out.2 (HNE3.out _ (Nat.le_refl _))); have t12 : w4.cell? ⟨wo.heap.size, 2, none⟩ = some (.bool true) := ((World.cell?_of_block (a := ⟨wo.heap.size, 2, none⟩) k12).trans HC3.out.1); have t13 := cell_in ((q4.ks r13 HLT3.out.1 (HNE3.out _ HG13.out.1)).trans HU3.out) (i := 2) rfl; have t14 := cell_in ((q4.ks r14 HLT3.out.2.1 (HNE3.out _ HG13.out.2.1)).trans HV3.out) (i := 2) rfl; clear q4 k12 s0 s1 s2)
                        | (go_at_call 50; (with_reducible refine (HA2.out _ _ Q4.out.ow (Nat.le_trans HSW3.out Q4.out.bl.size)).mono ?_); rintro e w5 ⟨v5, rfl, q5⟩; have Q5 := Lib.hid (Q4.out.two q5); have HO5 := Lib.hid q5.ow; have h17 := ((Q5.out.1 V2.heap.size HLT3.out.2.2 (HNE3.out _ HG13.out.2.2)).1).trans HR17.out; have H17 := Lib.hid h17; have p1 := cell_in h17 (i := 1) rfl; have p2 := cell_in h17 (i := 2) rfl; have fp1 : w5.frozen? ⟨V2.heap.size, 1, none⟩ = false := (by simp [World.frozen?, h17]); have fp2 : w5.frozen? ⟨V2.heap.size, 2, none⟩ = false := (by simp [World.frozen?, h17]); clear q5 h17 t12 t13 t14))
                      obtain ⟨w6, hw6⟩ : ∃ v, v = (w5.setCell ⟨V2.heap.size, 1, none⟩ (.int .i64 (y1 : Int))).setCell ⟨V2.heap.size, 2, none⟩ (.int .i64 (y2 : Int)) := ⟨_, rfl⟩
                      rw [← hw6]
                      have h17 : w6.heap[V2.heap.size]? = some (.cells #[.int .i64 (k : Int), .int .i64 (y1 : Int), .int .i64 (y2 : Int)] 59 (0, 0)) := by rw [hw6]; simp [World.setCell, Array.getElem?_modify, H17.out]
                      have hoth : ∀ k, k ≠ V2.heap.size → w6.heap[k]? = w5.heap[k]? := fun k hk => by
                        have hne : ¬ V2.heap.size = k := fun e => hk e.symm
                        rw [hw6]
                        simp [World.setCell, Array.getElem?_modify, hne]
                      have hb56 : Below V2.heap.size w5 w6 := by rw [hw6]; exact ((Below.refl _ w5).setCell (p := ⟨V2.heap.size, 1, none⟩) (Nat.le_refl _) _).setCell (p := ⟨V2.heap.size, 2, none⟩) (Nat.le_refl _) _
                      have p0 := cell_in h17 (i := 0) rfl
                      have p1' := cell_in h17 (i := 1) rfl
                      have p2' := cell_in h17 (i := 2) rfl
                      have HKB : Hid (∀ k, k < wo.heap.size → (Value.slice (some ⟨lb, 0, none⟩) ll cap).ownBlock ≠ some k → w6.heap[k]? = wo.heap[k]?) := fun k hk hne => (hoth k (by have := HG13.out.2.2; omega)).trans ((Q5.out.1 k (by have := HBO3.out.size; omega) hne).1.trans (HBO3.out.block k hk))
                      have HZB : Hid (wo.heap.size ≤ w6.heap.size) := Nat.le_trans (Nat.le_trans HBO3.out.size Q5.out.2.2.size) hb56.size
                      have HOB : Hid (Ow3 w6 w.heap.size u10 (outL (scG N) (mkG N) (rch (scG N) g m) m)) := HS.out.out5 HKB.out HZB.out (Below.refl _ _)
                      have HOW : Hid (Owk w6 w.heap.size v5 (addAll (rch (scG N) g m) (scG N (0, xi, xj)))) := by
                        rw [HAL.out]
                        exact HO5.out.same fun k e => hoth k (fun e2 => by subst e2; exact (Q5.out.1 V2.heap.size HLT3.out.2.2 (HNE3.out _ HG13.out.2.2)).2 e)
                      have HBB : Hid (Below w.heap.size w w6) := (HS.out.bl.trans (HBO3.out.mono HBW.out)).trans (Q5.out.2.2.trans (hb56.mono (Nat.le_trans HBW.out HG13.out.2.2)))
                      have HSW : Hid (w.heap.size ≤ w6.heap.size) := HBB.out.size
                      have HBE : Hid (∀ v9 : World, w6.grownBy v9 u10.ownBlock → Below w.heap.size w v9) := fun v9 hg => HBB.out.grown hg HBB.out.size (fun k e => (HOB.out.lt e).1)
                      have HGL : Hid (Grw (.slice (some ⟨lb, 0, none⟩) ll cap) v5 wo.heap.size) := Q5.out.2.1.mono HBO3.out.size
                      clear hw6 h17 hoth hb56 p1 p2 fp1 fp2 HO5 H17 HR17 HU3 HV3 HC3 HLT3 HNE3 HOW3
                      go_wp2_with (at_builtin; go_must (refine push3_at _ rfl (.tmp 132) (.tmp 134) 22 rfl w.heap.size i0 Try.underlying22 HI.out _ (outL (scG N) (mkG N) (rch (scG N) g m) m) k y1 y2 _ rfl rfl (by simp) HOB.out HOLL.out (by first | exact HSW.out | (simp; have := HSW.out; omega)) ?_); intro u2 w9 hu2 hgr2 hat2; have HU9 := Lib.hid hu2; have HG9 := Lib.hid hgr2; have HA9 := Lib.hid hat2; clear hu2 hgr2 hat2)
                      have HNN' : Hid (BnS N g w.heap.size w (m + 1) v5 u2 w9) := by
                        refine HS.out.step (x := (0, xi, xj)) (by rw [← HLL.out]; exact HXL.out) (W3 := w6) (W5 := w6) (W6 := w9) HKB.out HZB.out HOW.out HGL.out (Below.refl _ _) HG9.out ?_ HA9.out (HBE.out _ HG9.out)
                        rw [HMK.out]
                        exact HU9.out
                      exact ⟨⟨m + 1, by go_num, HNN'.out⟩, by simp [intOf]; omega⟩
                  · have g4 : ¬ (k : Int) ≥ 4 := by omega
                    have HPX : Hid (nd N xi = ⟨k, xa, xb⟩) := HX.out
                    have HPY : Hid (nd N xj = ⟨k, ya, yb⟩) := (by have e := HY.out; rw [← HKL.out] at e; exact e)
                    have HSC : Hid (scG N (0, xi, xj) = []) := scG_leaf HSG.out HPX.out HPY.out (fun h => h4 h.2)
                    have HMK : Hid (∀ ps, mkG N (0, xi, xj) ps = ⟨k, 0, 0⟩) := fun ps => by
                      rw [mkG_leaf HSG.out HPX.out HPY.out h4]
                      have := HLX.out (by omega)
                      rw [this.1, this.2]
                    clear h4 hkp hkq
                    obtain ⟨VB, hVB⟩ : ∃ v, v = V2.alloc (.cells #[.int .i64 (k : Int), .int .i64 0, .int .i64 0] 59) := ⟨_, rfl⟩
                    have hbb : Below V2.heap.size V2 VB := by rw [hVB]; exact (Below.refl _ V2).alloc (Nat.le_refl _) _
                    have HKB : Hid (∀ k, k < wo.heap.size → (Value.slice (some ⟨lb, 0, none⟩) ll cap).ownBlock ≠ some k → VB.heap[k]? = wo.heap[k]?) := fun k hk _ => (HB2.out.trans (hbb.mono HB2.out.size)).block k hk
                    have HZB : Hid (wo.heap.size ≤ VB.heap.size) := Nat.le_trans HB2.out.size hbb.size
                    have HOB : Hid (Ow3 VB w.heap.size u10 (outL (scG N) (mkG N) (rch (scG N) g m) m)) := HS.out.out5 HKB.out HZB.out (Below.refl _ _)
                    have HOW : Hid (Owk VB w.heap.size (.slice (some ⟨lb, 0, none⟩) ll cap) (addAll (rch (scG N) g m) (scG N (0, xi, xj)))) := by
                      rw [HSC.out, ← HLL.out]
                      exact HOL.out.below (HB2.out.trans (hbb.mono HB2.out.size)) (Nat.le_refl _)
                    have HBB : Hid (Below w.heap.size w VB) := HS.out.bl.trans ((HB2.out.trans (hbb.mono HB2.out.size)).mono HBW.out)
                    have HSW : Hid (w.heap.size ≤ VB.heap.size) := HBB.out.size
                    have HBE : Hid (∀ v9 : World, VB.grownBy v9 u10.ownBlock → Below w.heap.size w v9) := fun v9 hg => HBB.out.grown hg HBB.out.size (fun k e => (HOB.out.lt e).1)
                    have HVB := Lib.hid hVB
                    clear hbb HB2
                    go_upto_region 30 with (fail)
                    rw [← hVB]
                    have hbr : VB.heap[V2.heap.size]? = some (.cells #[.int .i64 (k : Int), .int .i64 0, .int .i64 0] 59 (0, 0)) := by rw [hVB]; exact heap_alloc_new _ _
                    have z0 := cell_in hbr (i := 0) rfl
                    have z1 := cell_in hbr (i := 1) rfl
                    have z2 := cell_in hbr (i := 2) rfl
                    clear hVB hbr
                    go_wp2_with (at_builtin; go_must (refine push3_at _ rfl (.tmp 132) (.tmp 134) 22 rfl w.heap.size i0 Try.underlying22 HI.out _ (outL (scG N) (mkG N) (rch (scG N) g m) m) k 0 0 _ rfl rfl (by simp) HOB.out HOLL.out (by first | exact HSW.out | (simp; have := HSW.out; omega)) ?_); intro u2 w9 hu2 hgr2 hat2; have HU9 := Lib.hid hu2; have HG9 := Lib.hid hgr2; have HA9 := Lib.hid hat2; clear hu2 hgr2 hat2)
                    have HNN' : Hid (BnS N g w.heap.size w (m + 1) (.slice (some ⟨lb, 0, none⟩) ll cap) u2 w9) := by
                      refine HS.out.step (x := (0, xi, xj)) (by rw [← HLL.out]; exact HXL.out) (W3 := VB) (W5 := VB) (W6 := w9) HKB.out HZB.out HOW.out (.inl rfl) (Below.refl _ _) HG9.out ?_ HA9.out (HBE.out _ HG9.out)
                      rw [show mkG N (0, xi, xj) ((scG N (0, xi, xj)).map (ixK (addAll (rch (scG N) g m) (scG N (0, xi, xj))))) = ⟨k, 0, 0⟩ from HMK.out _]
                      exact HU9.out
                    exact ⟨⟨m + 1, by go_num, HNN'.out⟩, by simp [intOf]; omega⟩
                · have gn : ((k : Int) != (l : Int)) = true := by simp; omega
                  have HSC : Hid (scG N (0, xi, xj) = []) := scG_leaf HSG.out HX.out HY.out (fun h => hkl h.1)
                  have HMK : Hid (∀ ps, mkG N (0, xi, xj) ps = ⟨1, 0, 0⟩) := fun ps => mkG_diff HSG.out HX.out HY.out hkl ps
                  clear hkl hkp hkq
                  have hbb : Below V2.heap.size V2 V2 := Below.refl _ _
                  have HKB : Hid (∀ k, k < wo.heap.size → (Value.slice (some ⟨lb, 0, none⟩) ll cap).ownBlock ≠ some k → V2.heap[k]? = wo.heap[k]?) := fun k hk _ => (HB2.out.trans (hbb.mono HB2.out.size)).block k hk
                  have HZB : Hid (wo.heap.size ≤ V2.heap.size) := Nat.le_trans HB2.out.size hbb.size
                  have HOB : Hid (Ow3 V2 w.heap.size u10 (outL (scG N) (mkG N) (rch (scG N) g m) m)) := HS.out.out5 HKB.out HZB.out (Below.refl _ _)
                  have HOW : Hid (Owk V2 w.heap.size (.slice (some ⟨lb, 0, none⟩) ll cap) (addAll (rch (scG N) g m) (scG N (0, xi, xj)))) := by
                    rw [HSC.out, ← HLL.out]
                    exact HOL.out.below (HB2.out.trans (hbb.mono HB2.out.size)) (Nat.le_refl _)
                  have HBB : Hid (Below w.heap.size w V2) := HS.out.bl.trans ((HB2.out.trans (hbb.mono HB2.out.size)).mono HBW.out)
                  have HSW : Hid (w.heap.size ≤ V2.heap.size) := HBB.out.size
                  have HBE : Hid (∀ v9 : World, V2.grownBy v9 u10.ownBlock → Below w.heap.size w v9) := fun v9 hg => HBB.out.grown hg HBB.out.size (fun k e => (HOB.out.lt e).1)
                  clear hbb HB2
                  go_wp2_with (at_builtin; go_must (refine push3_at _ rfl (.tmp 88) (.tmp 91) 22 rfl w.heap.size i0 Try.underlying22 HI.out _ (outL (scG N) (mkG N) (rch (scG N) g m) m) 1 0 0 _ rfl rfl (by simp) HOB.out HOLL.out (by first | exact HSW.out | (simp; have := HSW.out; omega)) ?_); intro u2 w9 hu2 hgr2 hat2; have HU9 := Lib.hid hu2; have HG9 := Lib.hid hgr2; have HA9 := Lib.hid hat2; clear hu2 hgr2 hat2)
                  have HNN' : Hid (BnS N g w.heap.size w (m + 1) (.slice (some ⟨lb, 0, none⟩) ll cap) u2 w9) := by
                    refine HS.out.step (x := (0, xi, xj)) (by rw [← HLL.out]; exact HXL.out) (W3 := V2) (W5 := V2) (W6 := w9) HKB.out HZB.out HOW.out (.inl rfl) (Below.refl _ _) HG9.out ?_ HA9.out (HBE.out _ HG9.out)
                    rw [show mkG N (0, xi, xj) ((scG N (0, xi, xj)).map (ixK (addAll (rch (scG N) g m) (scG N (0, xi, xj))))) = ⟨1, 0, 0⟩ from HMK.out _]
                    exact HU9.out
                  exact ⟨⟨m + 1, by go_num, HNN'.out⟩, by simp [intOf]; omega⟩
      · subst hxu
        have gu : decide ((1 : Nat) = 0) = false := by decide
        rw [gu] at c2
        by_cases h1 : k = 0
        · have gs1 : ((k : Int) == 0) = true := by simp; omega
          have HSS := Lib.hid (goal_strong HOK.out (by rw [HLN.out]; exact HXN.out.2.1) (by rw [HLN.out]; exact HXN.out.2.2) (u := 1) (by omega) (.inl (by rw [HX.out]; exact h1)))
          have HSC : Hid (scG N (1, xi, xj) = []) := HSS.out.1
          have HMK : Hid (∀ ps, mkG N (1, xi, xj) ps = ⟨0, 0, 0⟩) := HSS.out.2
          obtain ⟨V2, hV2⟩ : ∃ v, v = V := ⟨_, rfl⟩
          have HB2 : Hid (Below wo.heap.size wo V2) := by rw [hV2]; exact HBV.out
          subst hV2
          clear h1 hkp hkq
          have hbb : Below V2.heap.size V2 V2 := Below.refl _ _
          have HKB : Hid (∀ k, k < wo.heap.size → (Value.slice (some ⟨lb, 0, none⟩) ll cap).ownBlock ≠ some k → V2.heap[k]? = wo.heap[k]?) := fun k hk _ => (HB2.out.trans (hbb.mono HB2.out.size)).block k hk
          have HZB : Hid (wo.heap.size ≤ V2.heap.size) := Nat.le_trans HB2.out.size hbb.size
          have HOB : Hid (Ow3 V2 w.heap.size u10 (outL (scG N) (mkG N) (rch (scG N) g m) m)) := HS.out.out5 HKB.out HZB.out (Below.refl _ _)
          have HOW : Hid (Owk V2 w.heap.size (.slice (some ⟨lb, 0, none⟩) ll cap) (addAll (rch (scG N) g m) (scG N (1, xi, xj)))) := by
            rw [HSC.out, ← HLL.out]
            exact HOL.out.below (HB2.out.trans (hbb.mono HB2.out.size)) (Nat.le_refl _)
          have HBB : Hid (Below w.heap.size w V2) := HS.out.bl.trans ((HB2.out.trans (hbb.mono HB2.out.size)).mono HBW.out)
          have HSW : Hid (w.heap.size ≤ V2.heap.size) := HBB.out.size
          have HBE : Hid (∀ v9 : World, V2.grownBy v9 u10.ownBlock → Below w.heap.size w v9) := fun v9 hg => HBB.out.grown hg HBB.out.size (fun k e => (HOB.out.lt e).1)
          clear hbb HB2
          go_wp2_with (at_builtin; go_must (refine push3_at _ rfl (.tmp 60) (.tmp 63) 22 rfl w.heap.size i0 Try.underlying22 HI.out _ (outL (scG N) (mkG N) (rch (scG N) g m) m) 0 0 0 _ rfl rfl (by simp) HOB.out HOLL.out (by first | exact HSW.out | (simp; have := HSW.out; omega)) ?_); intro u2 w9 hu2 hgr2 hat2; have HU9 := Lib.hid hu2; have HG9 := Lib.hid hgr2; have HA9 := Lib.hid hat2; clear hu2 hgr2 hat2)
          have HNN' : Hid (BnS N g w.heap.size w (m + 1) (.slice (some ⟨lb, 0, none⟩) ll cap) u2 w9) := by
            refine HS.out.step (x := (1, xi, xj)) (by rw [← HLL.out]; exact HXL.out) (W3 := V2) (W5 := V2) (W6 := w9) HKB.out HZB.out HOW.out (.inl rfl) (Below.refl _ _) HG9.out ?_ HA9.out (HBE.out _ HG9.out)
            rw [show mkG N (1, xi, xj) ((scG N (1, xi, xj)).map (ixK (addAll (rch (scG N) g m) (scG N (1, xi, xj))))) = ⟨0, 0, 0⟩ from HMK.out _]
            exact HU9.out
          exact ⟨⟨m + 1, by go_num, HNN'.out⟩, by simp [intOf]; omega⟩
        · have gs1 : ((k : Int) == 0) = false := by simp; omega
          by_cases h2 : l = 0
          · have gs2 : ((l : Int) == 0) = true := by simp; omega
            have HSS := Lib.hid (goal_strong HOK.out (by rw [HLN.out]; exact HXN.out.2.1) (by rw [HLN.out]; exact HXN.out.2.2) (u := 1) (by omega) (.inr (by rw [HY.out]; exact h2)))
            have HSC : Hid (scG N (1, xi, xj) = []) := HSS.out.1
            have HMK : Hid (∀ ps, mkG N (1, xi, xj) ps = ⟨0, 0, 0⟩) := HSS.out.2
            obtain ⟨V2, hV2⟩ : ∃ v, v = V := ⟨_, rfl⟩
            have HB2 : Hid (Below wo.heap.size wo V2) := by rw [hV2]; exact HBV.out
            subst hV2
            clear h1 h2 hkp hkq
            have hbb : Below V2.heap.size V2 V2 := Below.refl _ _
            have HKB : Hid (∀ k, k < wo.heap.size → (Value.slice (some ⟨lb, 0, none⟩) ll cap).ownBlock ≠ some k → V2.heap[k]? = wo.heap[k]?) := fun k hk _ => (HB2.out.trans (hbb.mono HB2.out.size)).block k hk
            have HZB : Hid (wo.heap.size ≤ V2.heap.size) := Nat.le_trans HB2.out.size hbb.size
            have HOB : Hid (Ow3 V2 w.heap.size u10 (outL (scG N) (mkG N) (rch (scG N) g m) m)) := HS.out.out5 HKB.out HZB.out (Below.refl _ _)
            have HOW : Hid (Owk V2 w.heap.size (.slice (some ⟨lb, 0, none⟩) ll cap) (addAll (rch (scG N) g m) (scG N (1, xi, xj)))) := by
              rw [HSC.out, ← HLL.out]
              exact HOL.out.below (HB2.out.trans (hbb.mono HB2.out.size)) (Nat.le_refl _)
            have HBB : Hid (Below w.heap.size w V2) := HS.out.bl.trans ((HB2.out.trans (hbb.mono HB2.out.size)).mono HBW.out)
            have HSW : Hid (w.heap.size ≤ V2.heap.size) := HBB.out.size
            have HBE : Hid (∀ v9 : World, V2.grownBy v9 u10.ownBlock → Below w.heap.size w v9) := fun v9 hg => HBB.out.grown hg HBB.out.size (fun k e => (HOB.out.lt e).1)
            clear hbb HB2
            go_wp2_with (at_builtin; go_must (refine push3_at _ rfl (.tmp 60) (.tmp 63) 22 rfl w.heap.size i0 Try.underlying22 HI.out _ (outL (scG N) (mkG N) (rch (scG N) g m) m) 0 0 0 _ rfl rfl (by simp) HOB.out HOLL.out (by first | exact HSW.out | (simp; have := HSW.out; omega)) ?_); intro u2 w9 hu2 hgr2 hat2; have HU9 := Lib.hid hu2; have HG9 := Lib.hid hgr2; have HA9 := Lib.hid hat2; clear hu2 hgr2 hat2)
            have HNN' : Hid (BnS N g w.heap.size w (m + 1) (.slice (some ⟨lb, 0, none⟩) ll cap) u2 w9) := by
              refine HS.out.step (x := (1, xi, xj)) (by rw [← HLL.out]; exact HXL.out) (W3 := V2) (W5 := V2) (W6 := w9) HKB.out HZB.out HOW.out (.inl rfl) (Below.refl _ _) HG9.out ?_ HA9.out (HBE.out _ HG9.out)
              rw [show mkG N (1, xi, xj) ((scG N (1, xi, xj)).map (ixK (addAll (rch (scG N) g m) (scG N (1, xi, xj))))) = ⟨0, 0, 0⟩ from HMK.out _]
              exact HU9.out
            exact ⟨⟨m + 1, by go_num, HNN'.out⟩, by simp [intOf]; omega⟩
          · have gs2 : ((l : Int) == 0) = false := by simp; omega
            by_cases h3 : k = 1
            · have gw1 : ((k : Int) == 1) = true := by simp; omega
              have HSG : Hid (simG N (1, xi, xj) = (1, xj, xj)) := by unfold simG; rw [Hid, if_pos (by rw [HX.out]; exact h3)]
              clear h1 h2 h3
              go_upto_region 16 with (fail)
              obtain ⟨V1, hV1⟩ : ∃ v, v = V.setCell ⟨wo.heap.size, 0, none⟩ (.int .i64 (xj : Int)) := ⟨_, rfl⟩
              rw [← hV1]
              obtain ⟨c21, ho1, hs1, hb1⟩ := cell_set1 HRV.out (by omega) hV1
              have hu1 := (ho1 r13 (by omega)).trans HUV.out
              have hv1 := (ho1 r14 (by omega)).trans HVV.out
              have HU1 := Lib.hid hu1
              have HV1 := Lib.hid hv1
              have HBV1 : Hid (Below wo.heap.size wo V1) := HBV.out.trans (hb1 _ (Nat.le_refl _))
              have HC21 := Lib.hid c21
              have HS1 := Lib.hid hs1
              clear hV1 ho1 hb1 c0 c1 c2 c21 f0 f1 d0 d1 d2 e0 e1 e2 fd0 fd1 fd2 fe0 fe1 fe2 hs1
              have a0 := cell_in hv1 (i := 0) rfl
              have a1 := cell_in hv1 (i := 1) rfl
              have a2 := cell_in hv1 (i := 2) rfl
              have b0 := cell_in hu1 (i := 0) rfl
              have b1 := cell_in hu1 (i := 1) rfl
              have b2 := cell_in hu1 (i := 2) rfl
              have fb0 : V1.frozen? ⟨r13, 0, none⟩ = false := by simp [World.frozen?, hu1]
              have fb1 : V1.frozen? ⟨r13, 1, none⟩ = false := by simp [World.frozen?, hu1]
              have fb2 : V1.frozen? ⟨r13, 2, none⟩ = false := by simp [World.frozen?, hu1]
              clear hu1 hv1
              go_upto_region 20 with (fail)
              obtain ⟨V2, hV2⟩ : ∃ v, v = ((V1.setCell ⟨r13, 0, none⟩ (.int .i64 (l : Int))).setCell ⟨r13, 1, none⟩ (.int .i64 (ya : Int))).setCell ⟨r13, 2, none⟩ (.int .i64 (yb : Int)) := ⟨_, rfl⟩
              rw [← hV2]
              obtain ⟨hrw, hoth, hbl2⟩ := set_threeO HU1.out hV2
              have hz2 : V2.heap.size = V.heap.size := by rw [hV2, ← HS1.out]; simp [World.setCell]
              have HB2 : Hid (Below wo.heap.size wo V2) := HBV1.out.trans (hbl2 _ (by omega))
              have HU2 : Hid (V2.heap[r13]? = some (.cells #[.int .i64 (l : Int), .int .i64 (ya : Int), .int .i64 (yb : Int)] 59 (0, 0))) := hrw
              have HV2 : Hid (V2.heap[r14]? = some (.cells #[.int .i64 (l : Int), .int .i64 (ya : Int), .int .i64 (yb : Int)] 59 (0, 0))) := (hoth r14 hne).trans HV1.out
              have c22 : V2.cell? ⟨wo.heap.size, 2, none⟩ = some (.bool false) := (World.cell?_of_block (a := ⟨wo.heap.size, 2, none⟩) (hoth wo.heap.size (by omega))).trans HC21.out
              have d0 := cell_in HU2.out (i := 0) rfl
              have d1 := cell_in HU2.out (i := 1) rfl
              have d2 := cell_in HU2.out (i := 2) rfl
              have e0 := cell_in HV2.out (i := 0) rfl
              have e1 := cell_in HV2.out (i := 1) rfl
              have e2 := cell_in HV2.out (i := 2) rfl
              have hy12 : wo.heap.size < V2.heap.size := by omega
              have hy13 : r13 < V2.heap.size := by omega
              have hy14 : r14 < V2.heap.size := by omega
              have gn : ((l : Int) != (l : Int)) = false := by simp
              clear hV2 hrw hoth hbl2 a0 a1 a2 b0 b1 b2 fb0 fb1 fb2 HU1 HV1 HBV1 HC21 HS1 HUV HVV HRV HBV hz2
              by_cases h4 : 4 ≤ l
              · have g4 : (l : Int) ≥ 4 := by omega
                rcases (show l = 4 ∨ l = 5 by omega) with hk45 | hk45
                · have g5 : ((l : Int) == 4) = true := by simp; omega
                  have HK45 := Lib.hid hk45
                  have HPX : Hid (nd N xj = ⟨l, ya, yb⟩) := HY.out
                  have HPY : Hid (nd N xj = ⟨l, ya, yb⟩) := HY.out
                  clear hk45 h4 hkp hkq
                  obtain ⟨tu, htu⟩ : ∃ t, t = 1 := ⟨_, rfl⟩
                  have htu1 : tu ≤ 1 := by rw [htu]; omega
                  have HSC2 : Hid (scG N (1, xi, xj) = [(tu, ya, ya), (1, yb, yb)]) := by
                    rw [Hid, scG_part HSG.out HPX.out HPY.out (by have := HK45.out; omega), htu]
                    rw [if_neg (by have := HK45.out; omega)]
                  have HAL : Hid (addAll (rch (scG N) g m) (scG N (1, xi, xj)) = addK (addK L (tu, ya, ya)) (1, yb, yb)) := by rw [Hid, HSC2.out, ← HLL.out]; rfl
                  have hix1 : ixK (addK (addK L (tu, ya, ya)) (1, yb, yb)) (tu, ya, ya) = ixK (addK L (tu, ya, ya)) (tu, ya, ya) := by
                    obtain ⟨Z, hZ⟩ := addK_pre (addK L (tu, ya, ya)) (1, yb, yb)
                    rw [hZ]
                    exact idx_append (addK_mem L (tu, ya, ya))
                  obtain ⟨y1, hy1⟩ : ∃ y, y = ixK (addK L (tu, ya, ya)) (tu, ya, ya) := ⟨_, rfl⟩
                  obtain ⟨y2, hy2⟩ : ∃ y, y = ixK (addK (addK L (tu, ya, ya)) (1, yb, yb)) (1, yb, yb) := ⟨_, rfl⟩
                  have HMK : Hid (mkG N (1, xi, xj) ((scG N (1, xi, xj)).map (ixK (addAll (rch (scG N) g m) (scG N (1, xi, xj))))) = ⟨l, y1, y2⟩) := by
                    rw [Hid, HAL.out, HSC2.out, List.map_cons, List.map_cons, List.map_nil, mkG_part HSG.out HPX.out HPY.out (by have := HK45.out; omega), hix1, hy1, hy2]
                  have hL1 : (addK L (tu, ya, ya)).length ≤ 1000000 ∧ 1 ≤ (addK L (tu, ya, ya)).length := by
                    have : (addK L (tu, ya, ya)).length ≤ L.length + 1 := by
                      unfold addK
                      split
                      · omega
                      · rw [List.length_append]; simp
                    exact ⟨by have := HLG.out; omega, List.length_pos_of_mem (addK_mem L (tu, ya, ya))⟩
                  have hO1 : ∀ y ∈ addK L (tu, ya, ya), y.1 ≤ 1 := fun y hy => by
                    rcases addK_sub hy with hy | hy
                    · exact HLO.out y hy
                    · rw [hy]; exact htu1
                  have HA1 : Hid (∀ V3, Owk V3 w.heap.size (.slice (some ⟨lb, 0, none⟩) ll cap) L → w.heap.size ≤ V3.heap.size → Calls Try.prog 50 #[.slice (some ⟨lb, 0, none⟩) ll cap, .agg #[.int .i64 (ya : Int), .int .i64 (ya : Int), .bool false]] V3 fun e w' => ∃ v', e = .returned (.tuple #[v', .int .i64 (y1 : Int)]) ∧ AkQ w.heap.size L (.slice (some ⟨lb, 0, none⟩) ll cap) V3 (addK L (tu, ya, ya)) v' w') := fun V3 ho hz => by
                    have := HAK.out w.heap.size L (.slice (some ⟨lb, 0, none⟩) ll cap) (tu, ya, ya) V3 ho HLG.out.2 (by have := HLG.out; omega) HLO.out htu1 hz
                    rw [← hy1] at this
                    have e : decide (tu = 0) = false := by rw [htu]; decide
                    dsimp only at this
                    rw [e] at this
                    exact this
                  have HA2 : Hid (∀ w4 v4, Owk w4 w.heap.size v4 (addK L (tu, ya, ya)) → w.heap.size ≤ w4.heap.size → Calls Try.prog 50 #[v4, .agg #[.int .i64 (yb : Int), .int .i64 (yb : Int), .bool false]] w4 fun e w' => ∃ v', e = .returned (.tuple #[v', .int .i64 (y2 : Int)]) ∧ AkQ w.heap.size (addK L (tu, ya, ya)) v4 w4 (addK (addK L (tu, ya, ya)) (1, yb, yb)) v' w') := fun w4 v4 ho hz => by
                    have := HAK.out w.heap.size (addK L (tu, ya, ya)) v4 (1, yb, yb) w4 ho hL1.2 hL1.1 hO1 (by show 1 ≤ 1; omega) hz
                    rw [← hy2] at this
                    exact this
                  clear hix1 hy1 hy2 hL1 hO1 htu htu1
                  go_upto_region 26 with (fail)
                  obtain ⟨V3, hV3⟩ : ∃ v, v = (V2.alloc (.cells #[.int .i64 (l : Int), .int .i64 0, .int .i64 0] 59)).alloc (.cells #[.int .i64 (ya : Int), .int .i64 (ya : Int), .bool false] 78) := ⟨_, rfl⟩
                  rw [← hV3]
                  have hb23 : Below V2.heap.size V2 V3 := by rw [hV3]; exact ((Below.refl _ V2).alloc (Nat.le_refl _) _).alloc (by simp) _
                  have hr17 : V3.heap[V2.heap.size]? = some (.cells #[.int .i64 (l : Int), .int .i64 0, .int .i64 0] 59 (0, 0)) := by
                    rw [hV3]
                    show ((V2.heap.push _).push _)[V2.heap.size]? = _
                    rw [Array.getElem?_push, if_neg (by simp), Array.getElem?_push, if_pos rfl]
                  have hr18 : V3.heap[V2.heap.size + 1]? = some (.cells #[.int .i64 (ya : Int), .int .i64 (ya : Int), .bool false] 78 (0, 0)) := by
                    rw [hV3]
                    show ((V2.heap.push _).push _)[V2.heap.size + 1]? = _
                    rw [Array.getElem?_push, if_pos (by simp)]
                  have hz3 : V3.heap.size = V2.heap.size + 2 := by rw [hV3]; simp
                  have HBO3 := Lib.hid (HB2.out.trans (hb23.mono HB2.out.size))
                  have HR17 := Lib.hid hr17
                  have HU3 := Lib.hid ((hb23.block _ hy13).trans HU2.out)
                  have HV3 := Lib.hid ((hb23.block _ hy14).trans HV2.out)
                  have HC3 : Hid (V3.cell? ⟨wo.heap.size, 2, none⟩ = some (.bool false) ∧ wo.heap.size < V3.heap.size) := ⟨(hb23.cell (p := ⟨wo.heap.size, 2, none⟩) hy12).trans c22, by omega⟩
                  have HLT3 : Hid (r13 < V3.heap.size ∧ r14 < V3.heap.size ∧ V2.heap.size < V3.heap.size) := ⟨by omega, by omega, by omega⟩
                  have HNE3 : Hid (∀ r, wo.heap.size ≤ r → (Value.slice (some ⟨lb, 0, none⟩) ll cap).ownBlock ≠ some r) := fun r hr e => by
                    have e : lb = r := Option.some.inj e
                    have := HLB.out
                    omega
                  have HG13 : Hid (wo.heap.size ≤ r13 ∧ wo.heap.size ≤ r14 ∧ wo.heap.size ≤ V2.heap.size) := ⟨by omega, by omega, HB2.out.size⟩
                  have HOW3 : Hid (Owk V3 w.heap.size (.slice (some ⟨lb, 0, none⟩) ll cap) L) := HOL.out.below HBO3.out (Nat.le_refl _)
                  have HSW3 : Hid (w.heap.size ≤ V3.heap.size) := Nat.le_trans HBW.out HBO3.out.size
                  have s0 := cell_in hr18 (i := 0) rfl
                  have s1 := cell_in hr18 (i := 1) rfl
                  have s2 := cell_in hr18 (i := 2) rfl
                  clear hV3 hb23 hr17 hr18 hz3 HB2 HU2 HV2 c22 hy12 hy13 hy14
                  go_upto_region 30 with (first
                    | (go_at_call 50; (with_reducible refine (HA1.out _ HOW3.out HSW3.out).mono ?_); rintro e w4 ⟨v4, rfl, q4⟩; have Q4 := Lib.hid q4; have k12 := (q4.ks wo.heap.size HC3.out.2 (HNE3.out _ (Nat.le_refl _))); have t12 : w4.cell? ⟨wo.heap.size, 2, none⟩ = some (.bool false) := ((World.cell?_of_block (a := ⟨wo.heap.size, 2, none⟩) k12).trans HC3.out.1); have t13 := cell_in ((q4.ks r13 HLT3.out.1 (HNE3.out _ HG13.out.1)).trans HU3.out) (i := 2) rfl; have t14 := cell_in ((q4.ks r14 HLT3.out.2.1 (HNE3.out _ HG13.out.2.1)).trans HV3.out) (i := 2) rfl; clear q4 k12 s0 s1 s2)
                    | (go_at_call 50; (with_reducible refine (HA2.out _ _ Q4.out.ow (Nat.le_trans HSW3.out Q4.out.bl.size)).mono ?_); rintro e w5 ⟨v5, rfl, q5⟩; have Q5 := Lib.hid (Q4.out.two q5); have HO5 := Lib.hid q5.ow; have h17 := ((Q5.out.1 V2.heap.size HLT3.out.2.2 (HNE3.out _ HG13.out.2.2)).1).trans HR17.out; have H17 := Lib.hid h17; have p1 := cell_in h17 (i := 1) rfl; have p2 := cell_in h17 (i := 2) rfl; have fp1 : w5.frozen? ⟨V2.heap.size, 1, none⟩ = false := (by simp [World.frozen?, h17]); have fp2 : w5.frozen? ⟨V2.heap.size, 2, none⟩ = false := (by simp [World.frozen?, h17]); clear q5 h17 t12 t13 t14))
                  obtain ⟨w6, hw6⟩ : ∃ v, v = (w5.setCell ⟨V2.heap.size, 1, none⟩ (.int .i64 (y1 : Int))).setCell ⟨V2.heap.size, 2, none⟩ (.int .i64 (y2 : Int)) := ⟨_, rfl⟩
                  rw [← hw6]
                  have h17 : w6.heap[V2.heap.size]? = some (.cells #[.int .i64 (l : Int), .int .i64 (y1 : Int), .int .i64 (y2 : Int)] 59 (0, 0)) := by rw [hw6]; simp [World.setCell, Array.getElem?_modify, H17.out]
                  have hoth : ∀ k, k ≠ V2.heap.size → w6.heap[k]? = w5.heap[k]? := fun k hk => by
                    have hne : ¬ V2.heap.size = k := fun e => hk e.symm
                    rw [hw6]
                    simp [World.setCell, Array.getElem?_modify, hne]
                  have hb56 : Below V2.heap.size w5 w6 := by rw [hw6]; exact ((Below.refl _ w5).setCell (p := ⟨V2.heap.size, 1, none⟩) (Nat.le_refl _) _).setCell (p := ⟨V2.heap.size, 2, none⟩) (Nat.le_refl _) _
                  have p0 := cell_in h17 (i := 0) rfl
                  have p1' := cell_in h17 (i := 1) rfl
                  have p2' := cell_in h17 (i := 2) rfl
                  have HKB : Hid (∀ k, k < wo.heap.size → (Value.slice (some ⟨lb, 0, none⟩) ll cap).ownBlock ≠ some k → w6.heap[k]? = wo.heap[k]?) := fun k hk hne => (hoth k (by have := HG13.out.2.2; omega)).trans ((Q5.out.1 k (by have := HBO3.out.size; omega) hne).1.trans (HBO3.out.block k hk))
                  have HZB : Hid (wo.heap.size ≤ w6.heap.size) := Nat.le_trans (Nat.le_trans HBO3.out.size Q5.out.2.2.size) hb56.size
                  have HOB : Hid (Ow3 w6 w.heap.size u10 (outL (scG N) (mkG N) (rch (scG N) g m) m)) := HS.out.out5 HKB.out HZB.out (Below.refl _ _)
                  have HOW : Hid (Owk w6 w.heap.size v5 (addAll (rch (scG N) g m) (scG N (1, xi, xj)))) := by
                    rw [HAL.out]
                    exact HO5.out.same fun k e => hoth k (fun e2 => by subst e2; exact (Q5.out.1 V2.heap.size HLT3.out.2.2 (HNE3.out _ HG13.out.2.2)).2 e)
                  have HBB : Hid (Below w.heap.size w w6) := (HS.out.bl.trans (HBO3.out.mono HBW.out)).trans (Q5.out.2.2.trans (hb56.mono (Nat.le_trans HBW.out HG13.out.2.2)))
                  have HSW : Hid (w.heap.size ≤ w6.heap.size) := HBB.out.size
                  have HBE : Hid (∀ v9 : World, w6.grownBy v9 u10.ownBlock → Below w.heap.size w v9) := fun v9 hg => HBB.out.grown hg HBB.out.size (fun k e => (HOB.out.lt e).1)
                  have HGL : Hid (Grw (.slice (some ⟨lb, 0, none⟩) ll cap) v5 wo.heap.size) := Q5.out.2.1.mono HBO3.out.size
                  clear hw6 h17 hoth hb56 p1 p2 fp1 fp2 HO5 H17 HR17 HU3 HV3 HC3 HLT3 HNE3 HOW3
                  go_wp2_with (at_builtin; go_must (refine push3_at _ rfl (.tmp 132) (.tmp 134) 22 rfl w.heap.size i0 Try.underlying22 HI.out _ (outL (scG N) (mkG N) (rch (scG N) g m) m) l y1 y2 _ rfl rfl (by simp) HOB.out HOLL.out (by first | exact HSW.out | (simp; have := HSW.out; omega)) ?_); intro u2 w9 hu2 hgr2 hat2; have HU9 := Lib.hid hu2; have HG9 := Lib.hid hgr2; have HA9 := Lib.hid hat2; clear hu2 hgr2 hat2)
                  have HNN' : Hid (BnS N g w.heap.size w (m + 1) v5 u2 w9) := by
                    refine HS.out.step (x := (1, xi, xj)) (by rw [← HLL.out]; exact HXL.out) (W3 := w6) (W5 := w6) (W6 := w9) HKB.out HZB.out HOW.out HGL.out (Below.refl _ _) HG9.out ?_ HA9.out (HBE.out _ HG9.out)
                    rw [HMK.out]
                    exact HU9.out
                  exact ⟨⟨m + 1, by go_num, HNN'.out⟩, by simp [intOf]; omega⟩
                · have g5 : ((l : Int) == 4) = false := by simp; omega
                  have HK45 := Lib.hid hk45
                  have HPX : Hid (nd N xj = ⟨l, ya, yb⟩) := HY.out
                  have HPY : Hid (nd N xj = ⟨l, ya, yb⟩) := HY.out
                  clear hk45 h4 hkp hkq
                  obtain ⟨tu, htu⟩ : ∃ t, t = othN 1 := ⟨_, rfl⟩
                  have htu1 : tu ≤ 1 := by rw [htu]; exact othN_le _
                  have HSC2 : Hid (scG N (1, xi, xj) = [(tu, ya, ya), (1, yb, yb)]) := by
                    rw [Hid, scG_part HSG.out HPX.out HPY.out (by have := HK45.out; omega), htu]
                    rw [if_pos HK45.out]
                  have HAL : Hid (addAll (rch (scG N) g m) (scG N (1, xi, xj)) = addK (addK L (tu, ya, ya)) (1, yb, yb)) := by rw [Hid, HSC2.out, ← HLL.out]; rfl
                  have hix1 : ixK (addK (addK L (tu, ya, ya)) (1, yb, yb)) (tu, ya, ya) = ixK (addK L (tu, ya, ya)) (tu, ya, ya) := by
                    obtain ⟨Z, hZ⟩ := addK_pre (addK L (tu, ya, ya)) (1, yb, yb)
                    rw [hZ]
                    exact idx_append (addK_mem L (tu, ya, ya))
                  obtain ⟨y1, hy1⟩ : ∃ y, y = ixK (addK L (tu, ya, ya)) (tu, ya, ya) := ⟨_, rfl⟩
                  obtain ⟨y2, hy2⟩ : ∃ y, y = ixK (addK (addK L (tu, ya, ya)) (1, yb, yb)) (1, yb, yb) := ⟨_, rfl⟩
                  have HMK : Hid (mkG N (1, xi, xj) ((scG N (1, xi, xj)).map (ixK (addAll (rch (scG N) g m) (scG N (1, xi, xj))))) = ⟨l, y1, y2⟩) := by
                    rw [Hid, HAL.out, HSC2.out, List.map_cons, List.map_cons, List.map_nil, mkG_part HSG.out HPX.out HPY.out (by have := HK45.out; omega), hix1, hy1, hy2]
                  have hL1 : (addK L (tu, ya, ya)).length ≤ 1000000 ∧ 1 ≤ (addK L (tu, ya, ya)).length := by
                    have : (addK L (tu, ya, ya)).length ≤ L.length + 1 := by
                      unfold addK
                      split
                      · omega
                      · rw [List.length_append]; simp
                    exact ⟨by have := HLG.out; omega, List.length_pos_of_mem (addK_mem L (tu, ya, ya))⟩
                  have hO1 : ∀ y ∈ addK L (tu, ya, ya), y.1 ≤ 1 := fun y hy => by
                    rcases addK_sub hy with hy | hy
                    · exact HLO.out y hy
                    · rw [hy]; exact htu1
                  have HA1 : Hid (∀ V3, Owk V3 w.heap.size (.slice (some ⟨lb, 0, none⟩) ll cap) L → w.heap.size ≤ V3.heap.size → Calls Try.prog 50 #[.slice (some ⟨lb, 0, none⟩) ll cap, .agg #[.int .i64 (ya : Int), .int .i64 (ya : Int), .bool true]] V3 fun e w' => ∃ v', e = .returned (.tuple #[v', .int .i64 (y1 : Int)]) ∧ AkQ w.heap.size L (.slice (some ⟨lb, 0, none⟩) ll cap) V3 (addK L (tu, ya, ya)) v' w') := fun V3 ho hz => by
                    have := HAK.out w.heap.size L (.slice (some ⟨lb, 0, none⟩) ll cap) (tu, ya, ya) V3 ho HLG.out.2 (by have := HLG.out; omega) HLO.out htu1 hz
                    rw [← hy1] at this
                    have e : decide (tu = 0) = true := by rw [htu]; decide
                    dsimp only at this
                    rw [e] at this
                    exact this
                  have HA2 : Hid (∀ w4 v4, Owk w4 w.heap.size v4 (addK L (tu, ya, ya)) → w.heap.size ≤ w4.heap.size → Calls Try.prog 50 #[v4, .agg #[.int .i64 (yb : Int), .int .i64 (yb : Int), .bool false]] w4 fun e w' => ∃ v', e = .returned (.tuple #[v', .int .i64 (y2 : Int)]) ∧ AkQ w.heap.size (addK L (tu, ya, ya)) v4 w4 (addK (addK L (tu, ya, ya)) (1, yb, yb)) v' w') := fun w4 v4 ho hz => by
                    have := HAK.out w.heap.size (addK L (tu, ya, ya)) v4 (1, yb, yb) w4 ho hL1.2 hL1.1 hO1 (by show 1 ≤ 1; omega) hz
                    rw [← hy2] at this
                    exact this
                  clear hix1 hy1 hy2 hL1 hO1 htu htu1
                  go_upto_region 26 with (fail)
                  obtain ⟨V3, hV3⟩ : ∃ v, v = (V2.alloc (.cells #[.int .i64 (l : Int), .int .i64 0, .int .i64 0] 59)).alloc (.cells #[.int .i64 (ya : Int), .int .i64 (ya : Int), .bool true] 78) := ⟨_, rfl⟩
                  rw [← hV3]
                  have hb23 : Below V2.heap.size V2 V3 := by rw [hV3]; exact ((Below.refl _ V2).alloc (Nat.le_refl _) _).alloc (by simp) _
                  have hr17 : V3.heap[V2.heap.size]? = some (.cells #[.int .i64 (l : Int), .int .i64 0, .int .i64 0] 59 (0, 0)) := by
                    rw [hV3]
                    show ((V2.heap.push _).push _)[V2.heap.size]? = _
                    rw [Array.getElem?_push, if_neg (by simp), Array.getElem?_push, if_pos rfl]
                  have hr18 : V3.heap[V2.heap.size + 1]? = some (.cells #[.int .i64 (ya : Int), .int .i64 (ya : Int), .bool true] 78 (0, 0)) := by
                    rw [hV3]
                    show ((V2.heap.push _).push _)[V2.heap.size + 1]? = _
                    rw [Array.getElem?_push, if_pos (by simp)]
                  have hz3 : V3.heap.size = V2.heap.size + 2 := by rw [hV3]; simp
                  have HBO3 := Lib.hid (HB2.out.trans (hb23.mono HB2.out.size))
                  have HR17 := Lib.hid hr17
                  have HU3 := Lib.hid ((hb23.block _ hy13).trans HU2.out)
                  have HV3 := Lib.hid ((hb23.block _ hy14).trans HV2.out)
                  have HC3 : Hid (V3.cell? ⟨wo.heap.size, 2, none⟩ = some (.bool false) ∧ wo.heap.size < V3.heap.size) := ⟨(hb23.cell (p := ⟨wo.heap.size, 2, none⟩) hy12).trans c22, by omega⟩
                  have HLT3 : Hid (r13 < V3.heap.size ∧ r14 < V3.heap.size ∧ V2.heap.size < V3.heap.size) := ⟨by omega, by omega, by omega⟩
                  have HNE3 : Hid (∀ r, wo.heap.size ≤ r → (Value.slice (some ⟨lb, 0, none⟩) ll cap).ownBlock ≠ some r) := fun r hr e => by
                    have e : lb = r := Option.some.inj e
                    have := HLB.out
                    omega
                  have HG13 : Hid (wo.heap.size ≤ r13 ∧ wo.heap.size ≤ r14 ∧ wo.heap.size ≤ V2.heap.size) := ⟨by omega, by omega, HB2.out.size⟩
                  have HOW3 : Hid (Owk V3 w.heap.size (.slice (some ⟨lb, 0, none⟩) ll cap) L) := HOL.out.below HBO3.out (Nat.le_refl _)
                  have HSW3 : Hid (w.heap.size ≤ V3.heap.size) := Nat.le_trans HBW.out HBO3.out.size
                  have s0 := cell_in hr18 (i := 0) rfl
                  have s1 := cell_in hr18 (i := 1) rfl
                  have s2 := cell_in hr18 (i := 2) rfl
                  clear hV3 hb23 hr17 hr18 hz3 HB2 HU2 HV2 c22 hy12 hy13 hy14
                  go_upto_region 30 with (first
                    | (go_at_call 50; (with_reducible refine (HA1.out _ HOW3.out HSW3.out).mono ?_); rintro e w4 ⟨v4, rfl, q4⟩; have Q4 := Lib.hid q4; have k12 := (q4.ks wo.heap.size HC3.out.2 (HNE3.out _ (Nat.le_refl _))); have t12 : w4.cell? ⟨wo.heap.size, 2, none⟩ = some (.bool false) := ((World.cell?_of_block (a := ⟨wo.heap.size, 2, none⟩) k12).trans HC3.out.1); have t13 := cell_in ((q4.ks r13 HLT3.out.1 (HNE3.out _ HG13.out.1)).trans HU3.out) (i := 2) rfl; have t14 := cell_in ((q4.ks r14 HLT3.out.2.1 (HNE3.out _ HG13.out.2.1)).trans HV3.out) (i := 2) rfl; clear q4 k12 s0 s1 s2)
                    | (go_at_call 50; (with_reducible refine (HA2.out _ _ Q4.out.ow (Nat.le_trans HSW3.out Q4.out.bl.size)).mono ?_); rintro e w5 ⟨v5, rfl, q5⟩; have Q5 := Lib.hid (Q4.out.two q5); have HO5 := Lib.hid q5.ow; have h17 := ((Q5.out.1 V2.heap.size HLT3.out.2.2 (HNE3.out _ HG13.out.2.2)).1).trans HR17.out; have H17 := Lib.hid h17; have p1 := cell_in h17 (i := 1) rfl; have p2 := cell_in h17 (i := 2) rfl; have fp1 : w5.frozen? ⟨V2.heap.size, 1, none⟩ = false := (by simp [World.frozen?, h17]); have fp2 : w5.frozen? ⟨V2.heap.size, 2, none⟩ = false := (by simp [World.frozen?, h17]); clear q5 h17 t12 t13 t14))
                  obtain ⟨w6, hw6⟩ : ∃ v, v = (w5.setCell ⟨V2.heap.size, 1, none⟩ (.int .i64 (y1 : Int))).setCell ⟨V2.heap.size, 2, none⟩ (.int .i64 (y2 : Int)) := ⟨_, rfl⟩
                  rw [← hw6]
                  have h17 : w6.heap[V2.heap.size]? = some (.cells #[.int .i64 (l : Int), .int .i64 (y1 : Int), .int .i64 (y2 : Int)] 59 (0, 0)) := by rw [hw6]; simp [World.setCell, Array.getElem?_modify, H17.out]
                  have hoth : ∀ k, k ≠ V2.heap.size → w6.heap[k]? = w5.heap[k]? := fun k hk => by
                    have hne : ¬ V2.heap.size = k := fun e => hk e.symm
                    rw [hw6]
                    simp [World.setCell, Array.getElem?_modify, hne]
                  have hb56 : Below V2.heap.size w5 w6 := by rw [hw6]; exact ((Below.refl _ w5).setCell (p := ⟨V2.heap.size, 1, none⟩) (Nat.le_refl _) _).setCell (p := ⟨V2.heap.size, 2, none⟩) (Nat.le_refl _) _
                  have p0 := cell_in h17 (i := 0) rfl
                  have p1' := cell_in h17 (i := 1) rfl
                  have p2' := cell_in h17 (i := 2) rfl
                  have HKB : Hid (∀ k, k < wo.heap.size → (Value.slice (some ⟨lb, 0, none⟩) ll cap).ownBlock ≠ some k → w6.heap[k]? = wo.heap[k]?) := fun k hk hne => (hoth k (by have := HG13.out.2.2; omega)).trans ((Q5.out.1 k (by have := HBO3.out.size; omega) hne).1.trans (HBO3.out.block k hk))
                  have HZB : Hid (wo.heap.size ≤ w6.heap.size) := Nat.le_trans (Nat.le_trans HBO3.out.size Q5.out.2.2.size) hb56.size
                  have HOB : Hid (Ow3 w6 w.heap.size u10 (outL (scG N) (mkG N) (rch (scG N) g m) m)) := HS.out.out5 HKB.out HZB.out (Below.refl _ _)
                  have HOW : Hid (Owk w6 w.heap.size v5 (addAll (rch (scG N) g m) (scG N (1, xi, xj)))) := by
                    rw [HAL.out]
                    exact HO5.out.same fun k e => hoth k (fun e2 => by subst e2; exact (Q5.out.1 V2.heap.size HLT3.out.2.2 (HNE3.out _ HG13.out.2.2)).2 e)
                  have HBB : Hid (Below w.heap.size w w6) := (HS.out.bl.trans (HBO3.out.mono HBW.out)).trans (Q5.out.2.2.trans (hb56.mono (Nat.le_trans HBW.out HG13.out.2.2)))
                  have HSW : Hid (w.heap.size ≤ w6.heap.size) := HBB.out.size
                  have HBE : Hid (∀ v9 : World, w6.grownBy v9 u10.ownBlock → Below w.heap.size w v9) := fun v9 hg => HBB.out.grown hg HBB.out.size (fun k e => (HOB.out.lt e).1)
                  have HGL : Hid (Grw (.slice (some ⟨lb, 0, none⟩) ll cap) v5 wo.heap.size) := Q5.out.2.1.mono HBO3.out.size
                  clear hw6 h17 hoth hb56 p1 p2 fp1 fp2 HO5 H17 HR17 HU3 HV3 HC3 HLT3 HNE3 HOW3
                  go_wp2_with (at_builtin; go_must (refine push3_at _ rfl (.tmp 132) (.tmp 134) 22 rfl w.heap.size i0 Try.underlying22 HI.out _ (outL (scG N) (mkG N) (rch (scG N) g m) m) l y1 y2 _ rfl rfl (by simp) HOB.out HOLL.out (by first | exact HSW.out | (simp; have := HSW.out; omega)) ?_); intro u2 w9 hu2 hgr2 hat2; have HU9 := Lib.hid hu2; have HG9 := Lib.hid hgr2; have HA9 := Lib.hid hat2; clear hu2 hgr2 hat2)
                  have HNN' : Hid (BnS N g w.heap.size w (m + 1) v5 u2 w9) := by
                    refine HS.out.step (x := (1, xi, xj)) (by rw [← HLL.out]; exact HXL.out) (W3 := w6) (W5 := w6) (W6 := w9) HKB.out HZB.out HOW.out HGL.out (Below.refl _ _) HG9.out ?_ HA9.out (HBE.out _ HG9.out)
                    rw [HMK.out]
                    exact HU9.out
                  exact ⟨⟨m + 1, by go_num, HNN'.out⟩, by simp [intOf]; omega⟩
              · have g4 : ¬ (l : Int) ≥ 4 := by omega
                have HPX : Hid (nd N xj = ⟨l, ya, yb⟩) := HY.out
                have HPY : Hid (nd N xj = ⟨l, ya, yb⟩) := HY.out
                have HSC : Hid (scG N (1, xi, xj) = []) := scG_leaf HSG.out HPX.out HPY.out (fun h => h4 h.2)
                have HMK : Hid (∀ ps, mkG N (1, xi, xj) ps = ⟨l, 0, 0⟩) := fun ps => by
                  rw [mkG_leaf HSG.out HPX.out HPY.out h4]
                  have := HLY.out (by omega)
                  rw [this.1, this.2]
                clear h4 hkp hkq
                obtain ⟨VB, hVB⟩ : ∃ v, v = V2.alloc (.cells #[.int .i64 (l : Int), .int .i64 0, .int .i64 0] 59) := ⟨_, rfl⟩
                have hbb : Below V2.heap.size V2 VB := by rw [hVB]; exact (Below.refl _ V2).alloc (Nat.le_refl _) _
                have HKB : Hid (∀ k, k < wo.heap.size → (Value.slice (some ⟨lb, 0, none⟩) ll cap).ownBlock ≠ some k → VB.heap[k]? = wo.heap[k]?) := fun k hk _ => (HB2.out.trans (hbb.mono HB2.out.size)).block k hk
                have HZB : Hid (wo.heap.size ≤ VB.heap.size) := Nat.le_trans HB2.out.size hbb.size
                have HOB : Hid (Ow3 VB w.heap.size u10 (outL (scG N) (mkG N) (rch (scG N) g m) m)) := HS.out.out5 HKB.out HZB.out (Below.refl _ _)
                have HOW : Hid (Owk VB w.heap.size (.slice (some ⟨lb, 0, none⟩) ll cap) (addAll (rch (scG N) g m) (scG N (1, xi, xj)))) := by
                  rw [HSC.out, ← HLL.out]
                  exact HOL.out.below (HB2.out.trans (hbb.mono HB2.out.size)) (Nat.le_refl _)
                have HBB : Hid (Below w.heap.size w VB) := HS.out.bl.trans ((HB2.out.trans (hbb.mono HB2.out.size)).mono HBW.out)
                have HSW : Hid (w.heap.size ≤ VB.heap.size) := HBB.out.size
                have HBE : Hid (∀ v9 : World, VB.grownBy v9 u10.ownBlock → Below w.heap.size w v9) := fun v9 hg => HBB.out.grown hg HBB.out.size (fun k e => (HOB.out.lt e).1)
                have HVB := Lib.hid hVB
                clear hbb HB2
                go_upto_region 30 with (fail)
                rw [← hVB]
                have hbr : VB.heap[V2.heap.size]? = some (.cells #[.int .i64 (l : Int), .int .i64 0, .int .i64 0] 59 (0, 0)) := by rw [hVB]; exact heap_alloc_new _ _
                have z0 := cell_in hbr (i := 0) rfl
                have z1 := cell_in hbr (i := 1) rfl
                have z2 := cell_in hbr (i := 2) rfl
                clear hVB hbr
                go_wp2_with (at_builtin; go_must (refine push3_at _ rfl (.tmp 132) (.tmp 134) 22 rfl w.heap.size i0 Try.underlying22 HI.out _ (outL (scG N) (mkG N) (rch (scG N) g m) m) l 0 0 _ rfl rfl (by simp) HOB.out HOLL.out (by first | exact HSW.out | (simp; have := HSW.out; omega)) ?_); intro u2 w9 hu2 hgr2 hat2; have HU9 := Lib.hid hu2; have HG9 := Lib.hid hgr2; have HA9 := Lib.hid hat2; clear hu2 hgr2 hat2)
                have HNN' : Hid (BnS N g w.heap.size w (m + 1) (.slice (some ⟨lb, 0, none⟩) ll cap) u2 w9) := by
                  refine HS.out.step (x := (1, xi, xj)) (by rw [← HLL.out]; exact HXL.out) (W3 := VB) (W5 := VB) (W6 := w9) HKB.out HZB.out HOW.out (.inl rfl) (Below.refl _ _) HG9.out ?_ HA9.out (HBE.out _ HG9.out)
                  rw [show mkG N (1, xi, xj) ((scG N (1, xi, xj)).map (ixK (addAll (rch (scG N) g m) (scG N (1, xi, xj))))) = ⟨l, 0, 0⟩ from HMK.out _]
                  exact HU9.out
                exact ⟨⟨m + 1, by go_num, HNN'.out⟩, by simp [intOf]; omega⟩
            · have gw1 : ((k : Int) == 1) = false := by simp; omega
              by_cases h5 : l = 1
              · have gw2 : ((l : Int) == 1) = true := by simp; omega
                have HSG : Hid (simG N (1, xi, xj) = (1, xi, xi)) := by unfold simG; rw [Hid, if_neg (by rw [HX.out]; exact h3), if_pos (by rw [HY.out]; exact h5)]
                clear h1 h2 h3 h5
                go_upto_region 19 with (fail)
                obtain ⟨V1, hV1⟩ : ∃ v, v = V.setCell ⟨wo.heap.size, 1, none⟩ (.int .i64 (xi : Int)) := ⟨_, rfl⟩
                rw [← hV1]
                obtain ⟨c21, ho1, hs1, hb1⟩ := cell_set1 HRV.out (by omega) hV1
                have hu1 := (ho1 r13 (by omega)).trans HUV.out
                have hv1 := (ho1 r14 (by omega)).trans HVV.out
                have HU1 := Lib.hid hu1
                have HV1 := Lib.hid hv1
                have HBV1 : Hid (Below wo.heap.size wo V1) := HBV.out.trans (hb1 _ (Nat.le_refl _))
                have HC21 := Lib.hid c21
                have HS1 := Lib.hid hs1
                clear hV1 ho1 hb1 c0 c1 c2 c21 f0 f1 d0 d1 d2 e0 e1 e2 fd0 fd1 fd2 fe0 fe1 fe2 hs1
                have a0 := cell_in hu1 (i := 0) rfl
                have a1 := cell_in hu1 (i := 1) rfl
                have a2 := cell_in hu1 (i := 2) rfl
                have b0 := cell_in hv1 (i := 0) rfl
                have b1 := cell_in hv1 (i := 1) rfl
                have b2 := cell_in hv1 (i := 2) rfl
                have fb0 : V1.frozen? ⟨r14, 0, none⟩ = false := by simp [World.frozen?, hv1]
                have fb1 : V1.frozen? ⟨r14, 1, none⟩ = false := by simp [World.frozen?, hv1]
                have fb2 : V1.frozen? ⟨r14, 2, none⟩ = false := by simp [World.frozen?, hv1]
                clear hu1 hv1
                go_upto_region 20 with (fail)
                obtain ⟨V2, hV2⟩ : ∃ v, v = ((V1.setCell ⟨r14, 0, none⟩ (.int .i64 (k : Int))).setCell ⟨r14, 1, none⟩ (.int .i64 (xa : Int))).setCell ⟨r14, 2, none⟩ (.int .i64 (xb : Int)) := ⟨_, rfl⟩
                rw [← hV2]
                obtain ⟨hrw, hoth, hbl2⟩ := set_threeO HV1.out hV2
                have hz2 : V2.heap.size = V.heap.size := by rw [hV2, ← HS1.out]; simp [World.setCell]
                have HB2 : Hid (Below wo.heap.size wo V2) := HBV1.out.trans (hbl2 _ (by omega))
                have HU2 : Hid (V2.heap[r13]? = some (.cells #[.int .i64 (k : Int), .int .i64 (xa : Int), .int .i64 (xb : Int)] 59 (0, 0))) := (hoth r13 (Ne.symm hne)).trans HU1.out
                have HV2 : Hid (V2.heap[r14]? = some (.cells #[.int .i64 (k : Int), .int .i64 (xa : Int), .int .i64 (xb : Int)] 59 (0, 0))) := hrw
                have c22 : V2.cell? ⟨wo.heap.size, 2, none⟩ = some (.bool false) := (World.cell?_of_block (a := ⟨wo.heap.size, 2, none⟩) (hoth wo.heap.size (by omega))).trans HC21.out
                have d0 := cell_in HU2.out (i := 0) rfl
                have d1 := cell_in HU2.out (i := 1) rfl
                have d2 := cell_in HU2.out (i := 2) rfl
                have e0 := cell_in HV2.out (i := 0) rfl
                have e1 := cell_in HV2.out (i := 1) rfl
                have e2 := cell_in HV2.out (i := 2) rfl
                have hy12 : wo.heap.size < V2.heap.size := by omega
                have hy13 : r13 < V2.heap.size := by omega
                have hy14 : r14 < V2.heap.size := by omega
                have gn : ((k : Int) != (k : Int)) = false := by simp
                clear hV2 hrw hoth hbl2 a0 a1 a2 b0 b1 b2 fb0 fb1 fb2 HU1 HV1 HBV1 HC21 HS1 HUV HVV HRV HBV hz2
                by_cases h4 : 4 ≤ k
                · have g4 : (k : Int) ≥ 4 := by omega
                  rcases (show k = 4 ∨ k = 5 by omega) with hk45 | hk45
                  · have g5 : ((k : Int) == 4) = true := by simp; omega
                    have HK45 := Lib.hid hk45
                    have HPX : Hid (nd N xi = ⟨k, xa, xb⟩) := HX.out
                    have HPY : Hid (nd N xi = ⟨k, xa, xb⟩) := HX.out
                    clear hk45 h4 hkp hkq
                    obtain ⟨tu, htu⟩ : ∃ t, t = 1 := ⟨_, rfl⟩
                    have htu1 : tu ≤ 1 := by rw [htu]; omega
                    have HSC2 : Hid (scG N (1, xi, xj) = [(tu, xa, xa), (1, xb, xb)]) := by
                      rw [Hid, scG_part HSG.out HPX.out HPY.out (by have := HK45.out; omega), htu]
                      rw [if_neg (by have := HK45.out; omega)]
                    have HAL : Hid (addAll (rch (scG N) g m) (scG N (1, xi, xj)) = addK (addK L (tu, xa, xa)) (1, xb, xb)) := by rw [Hid, HSC2.out, ← HLL.out]; rfl
                    have hix1 : ixK (addK (addK L (tu, xa, xa)) (1, xb, xb)) (tu, xa, xa) = ixK (addK L (tu, xa, xa)) (tu, xa, xa) := by
                      obtain ⟨Z, hZ⟩ := addK_pre (addK L (tu, xa, xa)) (1, xb, xb)
                      rw [hZ]
                      exact idx_append (addK_mem L (tu, xa, xa))
                    obtain ⟨y1, hy1⟩ : ∃ y, y = ixK (addK L (tu, xa, xa)) (tu, xa, xa) := ⟨_, rfl⟩
                    obtain ⟨y2, hy2⟩ : ∃ y, y = ixK (addK (addK L (tu, xa, xa)) (1, xb, xb)) (1, xb, xb) := ⟨_, rfl⟩
                    have HMK : Hid (mkG N (1, xi, xj) ((scG N (1, xi, xj)).map (ixK (addAll (rch (scG N) g m) (scG N (1, xi, xj))))) = ⟨k, y1, y2⟩) := by
                      rw [Hid, HAL.out, HSC2.out, List.map_cons, List.map_cons, List.map_nil, mkG_part HSG.out HPX.out HPY.out (by have := HK45.out; omega), hix1, hy1, hy2]
                    have hL1 : (addK L (tu, xa, xa)).length ≤ 1000000 ∧ 1 ≤ (addK L (tu, xa, xa)).length := by
                      have : (addK L (tu, xa, xa)).length ≤ L.length + 1 := by
                        unfold addK
                        split
                        · omega
                        · rw [List.length_append]; simp
                      exact ⟨by have := HLG.out; omega, List.length_pos_of_mem (addK_mem L (tu, xa, xa))⟩
                    have hO1 : ∀ y ∈ addK L (tu, xa, xa), y.1 ≤ 1 := fun y hy => by
                      rcases addK_sub hy with hy | hy
                      · exact HLO.out y hy
                      · rw [hy]; exact htu1
                    have HA1 : Hid (∀ V3, Owk V3 w.heap.size (.slice (some ⟨lb, 0, none⟩) ll cap) L → w.heap.size ≤ V3.heap.size → Calls Try.prog 50 #[.slice (some ⟨lb, 0, none⟩) ll cap, .agg #[.int .i64 (xa : Int), .int .i64 (xa : Int), .bool false]] V3 fun e w' => ∃ v', e = .returned (.tuple #[v', .int .i64 (y1 : Int)]) ∧ AkQ w.heap.size L (.slice (some ⟨lb, 0, none⟩) ll cap) V3 (addK L (tu, xa, xa)) v' w') := fun V3 ho hz => by
                      have := HAK.out w.heap.size L (.slice (some ⟨lb, 0, none⟩) ll cap) (tu, xa, xa) V3 ho HLG.out.2 (by have := HLG.out; omega) HLO.out htu1 hz
                      rw [← hy1] at this
                      have e : decide (tu = 0) = false := by rw [htu]; decide
                      dsimp only at this
                      rw [e] at this
                      exact this
                    have HA2 : Hid (∀ w4 v4, Owk w4 w.heap.size v4 (addK L (tu, xa, xa)) → w.heap.size ≤ w4.heap.size → Calls Try.prog 50 #[v4, .agg #[.int .i64 (xb : Int), .int .i64 (xb : Int), .bool false]] w4 fun e w' => ∃ v', e = .returned (.tuple #[v', .int .i64 (y2 : Int)]) ∧ AkQ w.heap.size (addK L (tu, xa, xa)) v4 w4 (addK (addK L (tu, xa, xa)) (1, xb, xb)) v' w') := fun w4 v4 ho hz => by
                      have := HAK.out w.heap.size (addK L (tu, xa, xa)) v4 (1, xb, xb) w4 ho hL1.2 hL1.1 hO1 (by show 1 ≤ 1; omega) hz
                      rw [← hy2] at this
                      exact this
                    clear hix1 hy1 hy2 hL1 hO1 htu htu1
                    go_upto_region 26 with (fail)
                    obtain ⟨V3, hV3⟩ : ∃ v, v = (V2.alloc (.cells #[.int .i64 (k : Int), .int .i64 0, .int .i64 0] 59)).alloc (.cells #[.int .i64 (xa : Int), .int .i64 (xa : Int), .bool false] 78) := ⟨_, rfl⟩
                    rw [← hV3]
                    have hb23 : Below V2.heap.size V2 V3 := by rw [hV3]; exact ((Below.refl _ V2).alloc (Nat.le_refl _) _).alloc (by simp) _
                    have hr17 : V3.heap[V2.heap.size]? = some (.cells #[.int .i64 (k : Int), .int .i64 0, .int .i64 0] 59 (0, 0)) := by
                      rw [hV3]
                      show ((V2.heap.push _).push _)[V2.heap.size]? = _
                      rw [Array.getElem?_push, if_neg (by simp), Array.getElem?_push, if_pos rfl]
                    have hr18 : V3.heap[V2.heap.size + 1]? = some (.cells #[.int .i64 (xa : Int), .int .i64 (xa : Int), .bool false] 78 (0, 0)) := by
                      rw [hV3]
                      show ((V2.heap.push _).push _)[V2.heap.size + 1]? = _
                      rw [Array.getElem?_push, if_pos (by simp)]
                    have hz3 : V3.heap.size = V2.heap.size + 2 := by rw [hV3]; simp
                    have HBO3 := Lib.hid (HB2.out.trans (hb23.mono HB2.out.size))
                    have HR17 := Lib.hid hr17
                    have HU3 := Lib.hid ((hb23.block _ hy13).trans HU2.out)
                    have HV3 := Lib.hid ((hb23.block _ hy14).trans HV2.out)
                    have HC3 : Hid (V3.cell? ⟨wo.heap.size, 2, none⟩ = some (.bool false) ∧ wo.heap.size < V3.heap.size) := ⟨(hb23.cell (p := ⟨wo.heap.size, 2, none⟩) hy12).trans c22, by omega⟩
                    have HLT3 : Hid (r13 < V3.heap.size ∧ r14 < V3.heap.size ∧ V2.heap.size < V3.heap.size) := ⟨by omega, by omega, by omega⟩
                    have HNE3 : Hid (∀ r, wo.heap.size ≤ r → (Value.slice (some ⟨lb, 0, none⟩) ll cap).ownBlock ≠ some r) := fun r hr e => by
                      have e : lb = r := Option.some.inj e
                      have := HLB.out
                      omega
                    have HG13 : Hid (wo.heap.size ≤ r13 ∧ wo.heap.size ≤ r14 ∧ wo.heap.size ≤ V2.heap.size) := ⟨by omega, by omega, HB2.out.size⟩
                    have HOW3 : Hid (Owk V3 w.heap.size (.slice (some ⟨lb, 0, none⟩) ll cap) L) := HOL.out.below HBO3.out (Nat.le_refl _)
                    have HSW3 : Hid (w.heap.size ≤ V3.heap.size) := Nat.le_trans HBW.out HBO3.out.size
                    have s0 := cell_in hr18 (i := 0) rfl
                    have s1 := cell_in hr18 (i := 1) rfl
                    have s2 := cell_in hr18 (i := 2) rfl
                    clear hV3 hb23 hr17 hr18 hz3 HB2 HU2 HV2 c22 hy12 hy13 hy14
                    go_upto_region 30 with (first
                      | (go_at_call 50; (with_reducible refine (HA1.out _ HOW3.out HSW3.out).mono ?_); rintro e w4 ⟨v4, rfl, q4⟩; have Q4 := Lib.hid q4; have k12 := (q4.ks wo.heap.size HC3.out.2 (HNE3.out _ (Nat.le_refl _))); have t12 : w4.cell? ⟨wo.heap.size, 2, none⟩ = some (.bool false) := ((World.cell?_of_block (a := ⟨wo.heap.size, 2, none⟩) k12).trans HC3.out.1); have t13 := cell_in ((q4.ks r13 HLT3.out.1 (HNE3.out _ HG13.out.1)).trans HU3.out) (i := 2) rfl; have t14 := cell_in ((q4.ks r14 HLT3.out.2.1 (HNE3.out _ HG13.out.2.1)).trans HV3.out) (i := 2) rfl; clear q4 k12 s0 s1 s2)
                      | (go_at_call 50; (with_reducible refine (HA2.out _ _ Q4.out.ow (Nat.le_trans HSW3.out Q4.out.bl.size)).mono ?_); rintro e w5 ⟨v5, rfl, q5⟩; have Q5 := Lib.hid (Q4.out.two q5); have HO5 := Lib.hid q5.ow; have h17 := ((Q5.out.1 V2.heap.size HLT3.out.2.2 (HNE3.out _ HG13.out.2.2)).1).trans HR17.out; have H17 := Lib.hid h17; have p1 := cell_in h17 (i := 1) rfl; have p2 := cell_in h17 (i := 2) rfl; have fp1 : w5.frozen? ⟨V2.heap.size, 1, none⟩ = false := (by simp [World.frozen?, h17]); have fp2 : w5.frozen? ⟨V2.heap.size, 2, none⟩ = false := (by simp [World.frozen?, h17]); clear q5 h17 t12 t13 t14))
                    obtain ⟨w6, hw6⟩ : ∃ v, v = (w5.setCell ⟨V2.heap.size, 1, none⟩ (.int .i64 (y1 : Int))).setCell ⟨V2.heap.size, 2, none⟩ (.int .i64 (y2 : Int)) := ⟨_, rfl⟩
                    rw [← hw6]
                    have h17 : w6.heap[V2.heap.size]? = some (.cells #[.int .i64 (k : Int), .int .i64 (y1 : Int), .int .i64 (y2 : Int)] 59 (0, 0)) := by rw [hw6]; simp [World.setCell, Array.getElem?_modify, H17.out]
                    have hoth : ∀ k, k ≠ V2.heap.size → w6.heap[k]? = w5.heap[k]? := fun k hk => by
                      have hne : ¬ V2.heap.size = k := fun e => hk e.symm
                      rw [hw6]
                      simp [World.setCell, Array.getElem?_modify, hne]
                    have hb56 : Below V2.heap.size w5 w6 := by rw [hw6]; exact ((Below.refl _ w5).setCell (p := ⟨V2.heap.size, 1, none⟩) (Nat.le_refl _) _).setCell (p := ⟨V2.heap.size, 2, none⟩) (Nat.le_refl _) _
                    have p0 := cell_in h17 (i := 0) rfl
                    have p1' := cell_in h17 (i := 1) rfl
                    have p2' := cell_in h17 (i := 2) rfl
                    have HKB : Hid (∀ k, k < wo.heap.size → (Value.slice (some ⟨lb, 0, none⟩) ll cap).ownBlock ≠ some k → w6.heap[k]? = wo.heap[k]?) := fun k hk hne => (hoth k (by have := HG13.out.2.2; omega)).trans ((Q5.out.1 k (by have := HBO3.out.size; omega) hne).1.trans (HBO3.out.block k hk))
                    have HZB : Hid (wo.heap.size ≤ w6.heap.size) := Nat.le_trans (Nat.le_trans HBO3.out.size Q5.out.2.2.size) hb56.size
                    have HOB : Hid (Ow3 w6 w.heap.size u10 (outL (scG N) (mkG N) (rch (scG N) g m) m)) := HS.out.out5 HKB.out HZB.out (Below.refl _ _)
                    have HOW : Hid (Owk w6 w.heap.size v5 (addAll (rch (scG N) g m) (scG N (1, xi, xj)))) := by
                      rw [HAL.out]
                      exact HO5.out.same fun k e => hoth k (fun e2 => by subst e2; exact (Q5.out.1 V2.heap.size HLT3.out.2.2 (HNE3.out _ HG13.out.2.2)).2 e)
                    have HBB : Hid (Below w.heap.size w w6) := (HS.out.bl.trans (HBO3.out.mono HBW.out)).trans (Q5.out.2.2.trans (hb56.mono (Nat.le_trans HBW.out HG13.out.2.2)))
                    have HSW : Hid (w.heap.size ≤ w6.heap.size) := HBB.out.size
                    have HBE : Hid (∀ v9 : World, w6.grownBy v9 u10.ownBlock → Below w.heap.size w v9) := fun v9 hg => HBB.out.grown hg HBB.out.size (fun k e => (HOB.out.lt e).1)
                    have HGL : Hid (Grw (.slice (some ⟨lb, 0, none⟩) ll cap) v5 wo.heap.size) := Q5.out.2.1.mono HBO3.out.size
                    clear hw6 h17 hoth hb56 p1 p2 fp1 fp2 HO5 H17 HR17 HU3 HV3 HC3 HLT3 HNE3 HOW3
                    go_wp2_with (at_builtin; go_must (refine push3_at _ rfl (.tmp 132) (.tmp 134) 22 rfl w.heap.size i0 Try.underlying22 HI.out _ (outL (scG N) (mkG N) (rch (scG N) g m) m) k y1 y2 _ rfl rfl (by simp) HOB.out HOLL.out (by first | exact HSW.out | (simp; have := HSW.out; omega)) ?_); intro u2 w9 hu2 hgr2 hat2; have HU9 := Lib.hid hu2; have HG9 := Lib.hid hgr2; have HA9 := Lib.hid hat2; clear hu2 hgr2 hat2)
                    have HNN' : Hid (BnS N g w.heap.size w (m + 1) v5 u2 w9) := by
                      refine HS.out.step (x := (1, xi, xj)) (by rw [← HLL.out]; exact HXL.out) (W3 := w6) (W5 := w6) (W6 := w9) HKB.out HZB.out HOW.out HGL.out (Below.refl _ _) HG9.out ?_ HA9.out (HBE.out _ HG9.out)
                      rw [HMK.out]
                      exact HU9.out
                    exact ⟨⟨m + 1, by go_num, HNN'.out⟩, by simp [intOf]; omega⟩
                  · have g5 : ((k : Int) == 4) = false := by simp; omega
                    have HK45 := Lib.hid hk45
                    have HPX : Hid (nd N xi = ⟨k, xa, xb⟩) := HX.out
                    have HPY : Hid (nd N xi = ⟨k, xa, xb⟩) := HX.out
                    clear hk45 h4 hkp hkq
                    obtain ⟨tu, htu⟩ : ∃ t, t = othN 1 := ⟨_, rfl⟩
                    have htu1 : tu ≤ 1 := by rw [htu]; exact othN_le _
                    have HSC2 : Hid (scG N (1, xi, xj) = [(tu, xa, xa), (1, xb, xb)]) := by
                      rw [Hid, scG_part HSG.out HPX.out HPY.out (by have := HK45.out; omega), htu]
                      rw [if_pos HK45.out]
                    have HAL : Hid (addAll (rch (scG N) g m) (scG N (1, xi, xj)) = addK (addK L (tu, xa, xa)) (1, xb, xb)) := by rw [Hid, HSC2.out, ← HLL.out]; rfl
                    have hix1 : ixK (addK (addK L (tu, xa, xa)) (1, xb, xb)) (tu, xa, xa) = ixK (addK L (tu, xa, xa)) (tu, xa, xa) := by
                      obtain ⟨Z, hZ⟩ := addK_pre (addK L (tu, xa, xa)) (1, xb, xb)
                      rw [hZ]
                      exact idx_append (addK_mem L (tu, xa, xa))
                    obtain ⟨y1, hy1⟩ : ∃ y, y = ixK (addK L (tu, xa, xa)) (tu, xa, xa) := ⟨_, rfl⟩
                    obtain ⟨y2, hy2⟩ : ∃ y, y = ixK (addK (addK L (tu, xa, xa)) (1, xb, xb)) (1, xb, xb) := ⟨_, rfl⟩
                    have HMK : Hid (mkG N (1, xi, xj) ((scG N (1, xi, xj)).map (ixK (addAll (rch (scG N) g m) (scG N (1, xi, xj))))) = ⟨k, y1, y2⟩) := by
                      rw [Hid, HAL.out, HSC2.out, List.map_cons, List.map_cons, List.map_nil, mkG_part HSG.out HPX.out HPY.out (by have := HK45.out; omega), hix1, hy1, hy2]
                    have hL1 : (addK L (tu, xa, xa)).length ≤ 1000000 ∧ 1 ≤ (addK L (tu, xa, xa)).length := by
                      have : (addK L (tu, xa, xa)).length ≤ L.length + 1 := by
                        unfold addK
                        split
                        · omega
                        · rw [List.length_append]; simp
                      exact ⟨by have := HLG.out; omega, List.length_pos_of_mem (addK_mem L (tu, xa, xa))⟩
                    have hO1 : ∀ y ∈ addK L (tu, xa, xa), y.1 ≤ 1 := fun y hy => by
                      rcases addK_sub hy with hy | hy
                      · exact HLO.out y hy
                      · rw [hy]; exact htu1
                    have HA1 : Hid (∀ V3, Owk V3 w.heap.size (.slice (some ⟨lb, 0, none⟩) ll cap) L → w.heap.size ≤ V3.heap.size → Calls Try.prog 50 #[.slice (some ⟨lb, 0, none⟩) ll cap, .agg #[.int .i64 (xa : Int), .int .i64 (xa : Int), .bool true]] V3 fun e w' => ∃ v', e = .returned (.tuple #[v', .int .i64 (y1 : Int)]) ∧ AkQ w.heap.size L (.slice (some ⟨lb, 0, none⟩) ll cap) V3 (addK L (tu, xa, xa)) v' w') := fun V3 ho hz => by
                      have := HAK.out w.heap.size L (.slice (some ⟨lb, 0, none⟩) ll cap) (tu, xa, xa) V3 ho HLG.out.2 (by have := HLG.out; omega) HLO.out htu1 hz
                      rw [← hy1] at this
                      have e : decide (tu = 0) = true := by rw [htu]; decide
                      dsimp only at this
                      rw [e] at this
                      exact this
                    have HA2 : Hid (∀ w4 v4, Owk w4 w.heap.size v4 (addK L (tu, xa, xa)) → w.heap.size ≤ w4.heap.size → Calls Try.prog 50 #[v4, .agg #[.int .i64 (xb : Int), .int .i64 (xb : Int), .bool false]] w4 fun e w' => ∃ v', e = .returned (.tuple #[v', .int .i64 (y2 : Int)]) ∧ AkQ w.heap.size (addK L (tu, xa, xa)) v4 w4 (addK (addK L (tu, xa, xa)) (1, xb, xb)) v' w') := fun w4 v4 ho hz => by
                      have := HAK.out w.heap.size (addK L (tu, xa, xa)) v4 (1, xb, xb) w4 ho hL1.2 hL1.1 hO1 (by show 1 ≤ 1; omega) hz
                      rw [← hy2] at this
                      exact this
                    clear hix1 hy1 hy2 hL1 hO1 htu htu1
                    go_upto_region 26 with (fail)
                    obtain ⟨V3, hV3⟩ : ∃ v, v = (V2.alloc (.cells #[.int .i64 (k : Int), .int .i64 0, .int .i64 0] 59)).alloc (.cells #[.int .i64 (xa : Int), .int .i64 (xa : Int), .bool true] 78) := ⟨_, rfl⟩
                    rw [← hV3]
                    have hb23 : Below V2.heap.size V2 V3 := by rw [hV3]; exact ((Below.refl _ V2).alloc (Nat.le_refl _) _).alloc (by simp) _
                    have hr17 : V3.heap[V2.heap.size]? = some (.cells #[.int .i64 (k : Int), .int .i64 0, .int .i64 0] 59 (0, 0)) := by
                      rw [hV3]
                      show ((V2.heap.push _).push _)[V2.heap.size]? = _
                      rw [Array.getElem?_push, if_neg (by simp), Array.getElem?_push, if_pos rfl]
                    have hr18 : V3.heap[V2.heap.size + 1]? = some (.cells #[.int .i64 (xa : Int), .int .i64 (xa : Int), .bool true] 78 (0, 0)) := by
                      rw [hV3]
                      show ((V2.heap.push _).push _)[V2.heap.size + 1]? = _
                      rw [Array.getElem?_push, if_pos (by simp)]
                    have hz3 : V3.heap.size = V2.heap.size + 2 := by rw [hV3]; simp
                    have HBO3 := Lib.hid (HB2.out.trans (hb23.mono HB2.out.size))
                    have HR17 := Lib.hid hr17
                    have HU3 := Lib.hid ((hb23.block _ hy13).trans HU2.out)
                    have HV3 := Lib.hid ((hb23.block _ hy14).trans HV2.out)
                    have HC3 : Hid (V3.cell? ⟨wo.heap.size, 2, none⟩ = some (.bool false) ∧ wo.heap.size < V3.heap.size) := ⟨(hb23.cell (p := ⟨wo.heap.size, 2, none⟩) hy12).trans c22, by omega⟩
                    have HLT3 : Hid (r13 < V3.heap.size ∧ r14 < V3.heap.size ∧ V2.heap.size < V3.heap.size) := ⟨by omega, by omega, by omega⟩
                    have HNE3 : Hid (∀ r, wo.heap.size ≤ r → (Value.slice (some ⟨lb, 0, none⟩) ll cap).ownBlock ≠ some r) := fun r hr e => by
                      have e : lb = r := Option.some.inj e
                      have := HLB.out
                      omega
                    have HG13 : Hid (wo.heap.size ≤ r13 ∧ wo.heap.size ≤ r14 ∧ wo.heap.size ≤ V2.heap.size) := ⟨by omega, by omega, HB2.out.size⟩
                    have HOW3 : Hid (Owk V3 w.heap.size (.slice (some ⟨lb, 0, none⟩) ll cap) L) := HOL.out.below HBO3.out (Nat.le_refl _)
                    have HSW3 : Hid (w.heap.size ≤ V3.heap.size) := Nat.le_trans HBW.out HBO3.out.size
                    have s0 := cell_in hr18 (i := 0) rfl
                    have s1 := cell_in hr18 (i := 1) rfl
                    have s2 := cell_in hr18 (i := 2) rfl
                    clear hV3 hb23 hr17 hr18 hz3 HB2 HU2 HV2 c22 hy12 hy13 hy14
                    go_upto_region 30 with (first
                      | (go_at_call 50; (with_reducible refine (HA1.out _ HOW3.out HSW3.out).mono ?_); rintro e w4 ⟨v4, rfl, q4⟩; have Q4 := Lib.hid q4; have k12 := (q4.ks wo.heap.size HC3.out.2 (HNE3.out _ (Nat.le_refl _))); have t12 : w4.cell? ⟨wo.heap.size, 2, none⟩ = some (.bool false) := ((World.cell?_of_block (a := ⟨wo.heap.size, 2, none⟩) k12).trans HC3.out.1); have t13 := cell_in ((q4.ks r13 HLT3.out.1 (HNE3.out _ HG13.out.1)).trans HU3.out) (i := 2) rfl; have t14 := cell_in ((q4.ks r14 HLT3.out.2.1 (HNE3.out _ HG13.out.2.1)).trans HV3.out) (i := 2) rfl; clear q4 k12 s0 s1 s2)
                      | (go_at_call 50; (with_reducible refine (HA2.out _ _ Q4.out.ow (Nat.le_trans HSW3.out Q4.out.bl.size)).mono ?_); rintro e w5 ⟨v5, rfl, q5⟩; have Q5 := Lib.hid (Q4.out.two q5); have HO5 := Lib.hid q5.ow; have h17 := ((Q5.out.1 V2.heap.size HLT3.out.2.2 (HNE3.out _ HG13.out.2.2)).1).trans HR17.out; have H17 := Lib.hid h17; have p1 := cell_in h17 (i := 1) rfl; have p2 := cell_in h17 (i := 2) rfl; have fp1 : w5.frozen? ⟨V2.heap.size, 1, none⟩ = false := (by simp [World.frozen?, h17]); have fp2 : w5.frozen? ⟨V2.heap.size, 2, none⟩ = false := (by simp [World.frozen?, h17]); clear q5 h17 t12 t13 t14))
                    obtain ⟨w6, hw6⟩ : ∃ v, v = (w5.setCell ⟨V2.heap.size, 1, none⟩ (.int .i64 (y1 : Int))).setCell ⟨V2.heap.size, 2, none⟩ (.int .i64 (y2 : Int)) := ⟨_, rfl⟩
                    rw [← hw6]
                    have h17 : w6.heap[V2.heap.size]? = some (.cells #[.int .i64 (k : Int), .int .i64 (y1 : Int), .int .i64 (y2 : Int)] 59 (0, 0)) := by rw [hw6]; simp [World.setCell, Array.getElem?_modify, H17.out]
                    have hoth : ∀ k, k ≠ V2.heap.size → w6.heap[k]? = w5.heap[k]? := fun k hk => by
                      have hne : ¬ V2.heap.size = k := fun e => hk e.symm
                      rw [hw6]
                      simp [World.setCell, Array.getElem?_modify, hne]
                    have hb56 : Below V2.heap.size w5 w6 := by rw [hw6]; exact ((Below.refl _ w5).setCell (p := ⟨V2.heap.size, 1, none⟩) (Nat.le_refl _) _).setCell (p := ⟨V2.heap.size, 2, none⟩) (Nat.le_refl _) _
                    have p0 := cell_in h17 (i := 0) rfl
                    have p1' := cell_in h17 (i := 1) rfl
                    have p2' := cell_in h17 (i := 2) rfl
                    have HKB : Hid (∀ k, k < wo.heap.size → (Value.slice (some ⟨lb, 0, none⟩) ll cap).ownBlock ≠ some k → w6.heap[k]? = wo.heap[k]?) := fun k hk hne => (hoth k (by have := HG13.out.2.2; omega)).trans ((Q5.out.1 k (by have := HBO3.out.size; omega) hne).1.trans (HBO3.out.block k hk))
                    have HZB : Hid (wo.heap.size ≤ w6.heap.size) := Nat.le_trans (Nat.le_trans HBO3.out.size Q5.out.2.2.size) hb56.size
                    have HOB : Hid (Ow3 w6 w.heap.size u10 (outL (scG N) (mkG N) (rch (scG N) g m) m)) := HS.out.out5 HKB.out HZB.out (Below.refl _ _)
                    have HOW : Hid (Owk w6 w.heap.size v5 (addAll (rch (scG N) g m) (scG N (1, xi, xj)))) := by
                      rw [HAL.out]
                      exact HO5.out.same fun k e => hoth k (fun e2 => by subst e2; exact (Q5.out.1 V2.heap.size HLT3.out.2.2 (HNE3.out _ HG13.out.2.2)).2 e)
                    have HBB : Hid (Below w.heap.size w w6) := (HS.out.bl.trans (HBO3.out.mono HBW.out)).trans (Q5.out.2.2.trans (hb56.mono (Nat.le_trans HBW.out HG13.out.2.2)))
                    have HSW : Hid (w.heap.size ≤ w6.heap.size) := HBB.out.size
                    have HBE : Hid (∀ v9 : World, w6.grownBy v9 u10.ownBlock → Below w.heap.size w v9) := fun v9 hg => HBB.out.grown hg HBB.out.size (fun k e => (HOB.out.lt e).1)
                    have HGL : Hid (Grw (.slice (some ⟨lb, 0, none⟩) ll cap) v5 wo.heap.size) := Q5.out.2.1.mono HBO3.out.size
                    clear hw6 h17 hoth hb56 p1 p2 fp1 fp2 HO5 H17 HR17 HU3 HV3 HC3 HLT3 HNE3 HOW3
                    go_wp2_with (at_builtin; go_must (refine push3_at _ rfl (.tmp 132) (.tmp 134) 22 rfl w.heap.size i0 Try.underlying22 HI.out _ (outL (scG N) (mkG N) (rch (scG N) g m) m) k y1 y2 _ rfl rfl (by simp) HOB.out HOLL.out (by first | exact HSW.out | (simp; have := HSW.out; omega)) ?_); intro u2 w9 hu2 hgr2 hat2; have HU9 := Lib.hid hu2; have HG9 := Lib.hid hgr2; have HA9 := Lib.hid hat2; clear hu2 hgr2 hat2)
                    have HNN' : Hid (BnS N g w.heap.size w (m + 1) v5 u2 w9) := by
                      refine HS.out.step (x := (1, xi, xj)) (by rw [← HLL.out]; exact HXL.out) (W3 := w6) (W5 := w6) (W6 := w9) HKB.out HZB.out HOW.out HGL.out (Below.refl _ _) HG9.out ?_ HA9.out (HBE.out _ HG9.out)
                      rw [HMK.out]
                      exact HU9.out
                    exact ⟨⟨m + 1, by go_num, HNN'.out⟩, by simp [intOf]; omega⟩
                · have g4 : ¬ (k : Int) ≥ 4 := by omega
                  have HPX : Hid (nd N xi = ⟨k, xa, xb⟩) := HX.out
                  have HPY : Hid (nd N xi = ⟨k, xa, xb⟩) := HX.out
                  have HSC : Hid (scG N (1, xi, xj) = []) := scG_leaf HSG.out HPX.out HPY.out (fun h => h4 h.2)
                  have HMK : Hid (∀ ps, mkG N (1, xi, xj) ps = ⟨k, 0, 0⟩) := fun ps => by
                    rw [mkG_leaf HSG.out HPX.out HPY.out h4]
                    have := HLX.out (by omega)
                    rw [this.1, this.2]
                  clear h4 hkp hkq
                  obtain ⟨VB, hVB⟩ : ∃ v, v = V2.alloc (.cells #[.int .i64 (k : Int), .int .i64 0, .int .i64 0] 59) := ⟨_, rfl⟩
                  have hbb : Below V2.heap.size V2 VB := by rw [hVB]; exact (Below.refl _ V2).alloc (Nat.le_refl _) _
                  have HKB : Hid (∀ k, k < wo.heap.size → (Value.slice (some ⟨lb, 0, none⟩) ll cap).ownBlock ≠ some k → VB.heap[k]? = wo.heap[k]?) := fun k hk _ => (HB2.out.trans (hbb.mono HB2.out.size)).block k hk
                  have HZB : Hid (wo.heap.size ≤ VB.heap.size) := Nat.le_trans HB2.out.size hbb.size
                  have HOB : Hid (Ow3 VB w.heap.size u10 (outL (scG N) (mkG N) (rch (scG N) g m) m)) := HS.out.out5 HKB.out HZB.out (Below.refl _ _)
                  have HOW : Hid (Owk VB w.heap.size (.slice (some ⟨lb, 0, none⟩) ll cap) (addAll (rch (scG N) g m) (scG N (1, xi, xj)))) := by
                    rw [HSC.out, ← HLL.out]
                    exact HOL.out.below (HB2.out.trans (hbb.mono HB2.out.size)) (Nat.le_refl _)
                  have HBB : Hid (Below w.heap.size w VB) := HS.out.bl.trans ((HB2.out.trans (hbb.mono HB2.out.size)).mono HBW.out)
                  have HSW : Hid (w.heap.size ≤ VB.heap.size) := HBB.out.size
                  have HBE : Hid (∀ v9 : World, VB.grownBy v9 u10.ownBlock → Below w.heap.size w v9) := fun v9 hg => HBB.out.grown hg HBB.out.size (fun k e => (HOB.out.lt e).1)
                  have HVB := Lib.hid hVB
                  clear hbb HB2
                  go_upto_region 30 with (fail)
                  rw [← hVB]
                  have hbr : VB.heap[V2.heap.size]? = some (.cells #[.int .i64 (k : Int), .int .i64 0, .int .i64 0] 59 (0, 0)) := by rw [hVB]; exact heap_alloc_new _ _
                  have z0 := cell_in hbr (i := 0) rfl
                  have z1 := cell_in hbr (i := 1) rfl
                  have z2 := cell_in hbr (i := 2) rfl
                  clear hVB hbr
                  go_wp2_with (at_builtin; go_must (refine push3_at _ rfl (.tmp 132) (.tmp 134) 22 rfl w.heap.size i0 Try.underlying22 HI.out _ (outL (scG N) (mkG N) (rch (scG N) g m) m) k 0 0 _ rfl rfl (by simp) HOB.out HOLL.out (by first | exact HSW.out | (simp; have := HSW.out; omega)) ?_); intro u2 w9 hu2 hgr2 hat2; have HU9 := Lib.hid hu2; have HG9 := Lib.hid hgr2; have HA9 := Lib.hid hat2; clear hu2 hgr2 hat2)
                  have HNN' : Hid (BnS N g w.heap.size w (m + 1) (.slice (some ⟨lb, 0, none⟩) ll cap) u2 w9) := by
                    refine HS.out.step (x := (1, xi, xj)) (by rw [← HLL.out]; exact HXL.out) (W3 := VB) (W5 := VB) (W6 := w9) HKB.out HZB.out HOW.out (.inl rfl) (Below.refl _ _) HG9.out ?_ HA9.out (HBE.out _ HG9.out)
                    rw [show mkG N (1, xi, xj) ((scG N (1, xi, xj)).map (ixK (addAll (rch (scG N) g m) (scG N (1, xi, xj))))) = ⟨k, 0, 0⟩ from HMK.out _]
                    exact HU9.out
                  exact ⟨⟨m + 1, by go_num, HNN'.out⟩, by simp [intOf]; omega⟩
              · have gw2 : ((l : Int) == 1) = false := by simp; omega
                have HSG : Hid (simG N (1, xi, xj) = (1, xi, xj)) := by unfold simG; rw [Hid, if_neg (by rw [HX.out]; exact h3), if_neg (by rw [HY.out]; exact h5)]
                clear h1 h2 h3 h5
                obtain ⟨V2, hV2⟩ : ∃ v, v = V := ⟨_, rfl⟩
                have HB2 : Hid (Below wo.heap.size wo V2) := by rw [hV2]; exact HBV.out
                have HU2 : Hid (V2.heap[r13]? = some (.cells #[.int .i64 (k : Int), .int .i64 (xa : Int), .int .i64 (xb : Int)] 59 (0, 0))) := by rw [hV2]; exact HUV.out
                have HV2 : Hid (V2.heap[r14]? = some (.cells #[.int .i64 (l : Int), .int .i64 (ya : Int), .int .i64 (yb : Int)] 59 (0, 0))) := by rw [hV2]; exact HVV.out
                subst hV2
                have c22 := c2
                have hy12 : wo.heap.size < V2.heap.size := by omega
                have hy13 : r13 < V2.heap.size := by omega
                have hy14 : r14 < V2.heap.size := by omega
                clear c0 c1 f0 f1 fd0 fd1 fd2 fe0 fe1 fe2 HUV HVV HRV HBV
                by_cases hkl : k = l
                · have gn : ((k : Int) != (l : Int)) = false := by simp; omega
                  have HKL := Lib.hid hkl
                  clear hkl
                  by_cases h4 : 4 ≤ k
                  · have g4 : (k : Int) ≥ 4 := by omega
                    rcases (show k = 4 ∨ k = 5 by omega) with hk45 | hk45
                    · have g5 : ((k : Int) == 4) = true := by simp; omega
                      have HK45 := Lib.hid hk45
                      have HPX : Hid (nd N xi = ⟨k, xa, xb⟩) := HX.out
                      have HPY : Hid (nd N xj = ⟨k, ya, yb⟩) := (by have e := HY.out; rw [← HKL.out] at e; exact e)
                      clear hk45 h4 hkp hkq
                      obtain ⟨tu, htu⟩ : ∃ t, t = 1 := ⟨_, rfl⟩
                      have htu1 : tu ≤ 1 := by rw [htu]; omega
                      have HSC2 : Hid (scG N (1, xi, xj) = [(tu, xa, ya), (1, xb, yb)]) := by
                        rw [Hid, scG_part HSG.out HPX.out HPY.out (by have := HK45.out; omega), htu]
                        rw [if_neg (by have := HK45.out; omega)]
                      have HAL : Hid (addAll (rch (scG N) g m) (scG N (1, xi, xj)) = addK (addK L (tu, xa, ya)) (1, xb, yb)) := by rw [Hid, HSC2.out, ← HLL.out]; rfl
                      have hix1 : ixK (addK (addK L (tu, xa, ya)) (1, xb, yb)) (tu, xa, ya) = ixK (addK L (tu, xa, ya)) (tu, xa, ya) := by
                        obtain ⟨Z, hZ⟩ := addK_pre (addK L (tu, xa, ya)) (1, xb, yb)
                        rw [hZ]
                        exact idx_append (addK_mem L (tu, xa, ya))
                      obtain ⟨y1, hy1⟩ : ∃ y, y = ixK (addK L (tu, xa, ya)) (tu, xa, ya) := ⟨_, rfl⟩
                      obtain ⟨y2, hy2⟩ : ∃ y, y = ixK (addK (addK L (tu, xa, ya)) (1, xb, yb)) (1, xb, yb) := ⟨_, rfl⟩
                      have HMK : Hid (mkG N (1, xi, xj) ((scG N (1, xi, xj)).map (ixK (addAll (rch (scG N) g m) (scG N (1, xi, xj))))) = ⟨k, y1, y2⟩) := by
                        rw [Hid, HAL.out, HSC2.out, List.map_cons, List.map_cons, List.map_nil, mkG_part HSG.out HPX.out HPY.out (by have := HK45.out; omega), hix1, hy1, hy2]
                      have hL1 : (addK L (tu, xa, ya)).length ≤ 1000000 ∧ 1 ≤ (addK L (tu, xa, ya)).length := by
                        have : (addK L (tu, xa, ya)).length ≤ L.length + 1 := by
                          unfold addK
                          split
                          · omega
                          · rw [List.length_append]; simp
                        exact ⟨by have := HLG.out; omega, List.length_pos_of_mem (addK_mem L (tu, xa, ya))⟩
                      have hO1 : ∀ y ∈ addK L (tu, xa, ya), y.1 ≤ 1 := fun y hy => by
                        rcases addK_sub hy with hy | hy
                        · exact HLO.out y hy
                        · rw [hy]; exact htu1
                      have HA1 : Hid (∀ V3, Owk V3 w.heap.size (.slice (some ⟨lb, 0, none⟩) ll cap) L → w.heap.size ≤ V3.heap.size → Calls Try.prog 50 #[.slice (some ⟨lb, 0, none⟩) ll cap, .agg #[.int .i64 (xa : Int), .int .i64 (ya : Int), .bool false]] V3 fun e w' => ∃ v', e = .returned (.tuple #[v', .int .i64 (y1 : Int)]) ∧ AkQ w.heap.size L (.slice (some ⟨lb, 0, none⟩) ll cap) V3 (addK L (tu, xa, ya)) v' w') := fun V3 ho hz => by
                        have := HAK.out w.heap.size L (.slice (some ⟨lb, 0, none⟩) ll cap) (tu, xa, ya) V3 ho HLG.out.2 (by have := HLG.out; omega) HLO.out htu1 hz
                        rw [← hy1] at this
                        have e : decide (tu = 0) = false := by rw [htu]; decide
                        dsimp only at this
                        rw [e] at this
                        exact this
                      have HA2 : Hid (∀ w4 v4, Owk w4 w.heap.size v4 (addK L (tu, xa, ya)) → w.heap.size ≤ w4.heap.size → Calls Try.prog 50 #[v4, .agg #[.int .i64 (xb : Int), .int .i64 (yb : Int), .bool false]] w4 fun e w' => ∃ v', e = .returned (.tuple #[v', .int .i64 (y2 : Int)]) ∧ AkQ w.heap.size (addK L (tu, xa, ya)) v4 w4 (addK (addK L (tu, xa, ya)) (1, xb, yb)) v' w') := fun w4 v4 ho hz => by
                        have := HAK.out w.heap.size (addK L (tu, xa, ya)) v4 (1, xb, yb) w4 ho hL1.2 hL1.1 hO1 (by show 1 ≤ 1; omega) hz
                        rw [← hy2] at this
                        exact this
                      clear hix1 hy1 hy2 hL1 hO1 htu htu1
                      go_upto_region 26 with (fail)
                      obtain ⟨V3, hV3⟩ : ∃ v, v = (V2.alloc (.cells #[.int .i64 (k : Int), .int .i64 0, .int .i64 0] 59)).alloc (.cells #[.int .i64 (xa : Int), .int .i64 (ya : Int), .bool false] 78) := ⟨_, rfl⟩
                      rw [← hV3]
                      have hb23 : Below V2.heap.size V2 V3 := by rw [hV3]; exact ((Below.refl _ V2).alloc (Nat.le_refl _) _).alloc (by simp) _
                      have hr17 : V3.heap[V2.heap.size]? = some (.cells #[.int .i64 (k : Int), .int .i64 0, .int .i64 0] 59 (0, 0)) := by
                        rw [hV3]
                        show ((V2.heap.push _).push _)[V2.heap.size]? = _
                        rw [Array.getElem?_push, if_neg (by simp), Array.getElem?_push, if_pos rfl]
                      have hr18 : V3.heap[V2.heap.size + 1]? = some (.cells #[.int .i64 (xa : Int), .int .i64 (ya : Int), .bool false] 78 (0, 0)) := by
                        rw [hV3]
                        show ((V2.heap.push _).push _)[V2.heap.size + 1]? = _
                        rw [Array.getElem?_push, if_pos (by simp)]
                      have hz3 : V3.heap.size = V2.heap.size + 2 := by rw [hV3]; simp
                      have HBO3 := Lib.hid (HB2.out.trans (hb23.mono HB2.out.size))
                      have HR17 := Lib.hid hr17
                      have HU3 := Lib.hid ((hb23.block _ hy13).trans HU2.out)
                      have HV3 := Lib.hid ((hb23.block _ hy14).trans HV2.out)
                      have HC3 : Hid (V3.cell? ⟨wo.heap.size, 2, none⟩ = some (.bool false) ∧ wo.heap.size < V3.heap.size) := ⟨(hb23.cell (p := ⟨wo.heap.size, 2, none⟩) hy12).trans c22, by omega⟩
                      have HLT3 : Hid (r13 < V3.heap.size ∧ r14 < V3.heap.size ∧ V2.heap.size < V3.heap.size) := ⟨by omega, by omega, by omega⟩
                      have HNE3 : Hid (∀ r, wo.heap.size ≤ r → (Value.slice (some ⟨lb, 0, none⟩) ll cap).ownBlock ≠ some r) := fun r hr e => by
                        have e : lb = r := Option.some.inj e
                        have := HLB.out
                        omega
                      have HG13 : Hid (wo.heap.size ≤ r13 ∧ wo.heap.size ≤ r14 ∧ wo.heap.size ≤ V2.heap.size) := ⟨by omega, by omega, HB2.out.size⟩
                      have HOW3 : Hid (Owk V3 w.heap.size (.slice (some ⟨lb, 0, none⟩) ll cap) L) := HOL.out.below HBO3.out (Nat.le_refl _)
                      have HSW3 : Hid (w.heap.size ≤ V3.heap.size) := Nat.le_trans HBW.out HBO3.out.size
                      have s0 := cell_in hr18 (i := 0) rfl
                      have s1 := cell_in hr18 (i := 1) rfl
                      have s2 := cell_in hr18 (i := 2) rfl
                      clear hV3 hb23 hr17 hr18 hz3 HB2 HU2 HV2 c22 hy12 hy13 hy14
                      go_upto_region 30 with (first
                        | (go_at_call 50; (with_reducible refine (HA1.out _ HOW3.out HSW3.out).mono ?_); rintro e w4 ⟨v4, rfl, q4⟩; have Q4 := Lib.hid q4; have k12 := (q4.ks wo.heap.size HC3.out.2 (HNE3.out _ (Nat.le_refl _))); have t12 : w4.cell? ⟨wo.heap.size, 2, none⟩ = some (.bool false) := ((World.cell?_of_block (a := ⟨wo.heap.size, 2, none⟩) k12).trans HC3.out.1); have t13 := cell_in ((q4.ks r13 HLT3.out.1 (HNE3.out _ HG13.out.1)).trans HU3.out) (i := 2) rfl; have t14 := cell_in ((q4.ks r14 HLT3.out.2.1 (HNE3.out _ HG13.out.2.1)).trans HV3.out) (i := 2) rfl; clear q4 k12 s0 s1 s2)
                        | (go_at_call 50; (with_reducible refine (HA2.out _ _ Q4.out.ow (Nat.le_trans HSW3.out Q4.out.bl.size)).mono ?_); rintro e w5 ⟨v5, rfl, q5⟩; have Q5 := Lib.hid (Q4.out.two q5); have HO5 := Lib.hid q5.ow; have h17 := ((Q5.out.1 V2.heap.size HLT3.out.2.2 (HNE3.out _ HG13.out.2.2)).1).trans HR17.out; have H17 := Lib.hid h17; have p1 := cell_in h17 (i := 1) rfl; have p2 := cell_in h17 (i := 2) rfl; have fp1 : w5.frozen? ⟨V2.heap.size, 1, none⟩ = false := (by simp [World.frozen?, h17]); have fp2 : w5.frozen? ⟨V2.heap.size, 2, none⟩ = false := (by simp [World.frozen?, h17]); clear q5 h17 t12 t13 t14))
                      obtain ⟨w6, hw6⟩ : ∃ v, v = (w5.setCell ⟨V2.heap.size, 1, none⟩ (.int .i64 (y1 : Int))).setCell ⟨V2.heap.size, 2, none⟩ (.int .i64 (y2 : Int)) := ⟨_, rfl⟩
                      rw [← hw6]
                      have h17 : w6.heap[V2.heap.size]? = some (.cells #[.int .i64 (k : Int), .int .i64 (y1 : Int), .int .i64 (y2 : Int)] 59 (0, 0)) := by rw [hw6]; simp [World.setCell, Array.getElem?_modify, H17.out]
                      have hoth : ∀ k, k ≠ V2.heap.size → w6.heap[k]? = w5.heap[k]? := fun k hk => by
                        have hne : ¬ V2.heap.size = k := fun e => hk e.symm
                        rw [hw6]
                        simp [World.setCell, Array.getElem?_modify, hne]
                      have hb56 : Below V2.heap.size w5 w6 := by rw [hw6]; exact ((Below.refl _ w5).setCell (p := ⟨V2.heap.size, 1, none⟩) (Nat.le_refl _) _).setCell (p := ⟨V2.heap.size, 2, none⟩) (Nat.le_refl _) _
                      have p0 := cell_in h17 (i := 0) rfl
                      have p1' := cell_in h17 (i := 1) rfl
                      have p2' := cell_in h17 (i := 2) rfl
                      have HKB : Hid (∀ k, k < wo.heap.size → (Value.slice (some ⟨lb, 0, none⟩) ll cap).ownBlock ≠ some k → w6.heap[k]? = wo.heap[k]?) := fun k hk hne => (hoth k (by have := HG13.out.2.2; omega)).trans ((Q5.out.1 k (by have := HBO3.out.size; omega) hne).1.trans (HBO3.out.block k hk))
                      have HZB : Hid (wo.heap.size ≤ w6.heap.size) := Nat.le_trans (Nat.le_trans HBO3.out.size Q5.out.2.2.size) hb56.size
                      have HOB : Hid (Ow3 w6 w.heap.size u10 (outL (scG N) (mkG N) (rch (scG N) g m) m)) := HS.out.out5 HKB.out HZB.out (Below.refl _ _)
                      have HOW : Hid (Owk w6 w.heap.size v5 (addAll (rch (scG N) g m) (scG N (1, xi, xj)))) := by
                        rw [HAL.out]
                        exact HO5.out.same fun k e => hoth k (fun e2 => by subst e2; exact (Q5.out.1 V2.heap.size HLT3.out.2.2 (HNE3.out _ HG13.out.2.2)).2 e)
                      have HBB : Hid (Below w.heap.size w w6) := (HS.out.bl.trans (HBO3.out.mono HBW.out)).trans (Q5.out.2.2.trans (hb56.mono (Nat.le_trans HBW.out HG13.out.2.2)))
                      have HSW : Hid (w.heap.size ≤ w6.heap.size) := HBB.out.size
                      have HBE : Hid (∀ v9 : World, w6.grownBy v9 u10.ownBlock → Below w.heap.size w v9) := fun v9 hg => HBB.out.grown hg HBB.out.size (fun k e => (HOB.out.lt e).1)
                      have HGL : Hid (Grw (.slice (some ⟨lb, 0, none⟩) ll cap) v5 wo.heap.size) := Q5.out.2.1.mono HBO3.out.size
                      clear hw6 h17 hoth hb56 p1 p2 fp1 fp2 HO5 H17 HR17 HU3 HV3 HC3 HLT3 HNE3 HOW3
                      go_wp2_with (at_builtin; go_must (refine push3_at _ rfl (.tmp 132) (.tmp 134) 22 rfl w.heap.size i0 Try.underlying22 HI.out _ (outL (scG N) (mkG N) (rch (scG N) g m) m) k y1 y2 _ rfl rfl (by simp) HOB.out HOLL.out (by first | exact HSW.out | (simp; have := HSW.out; omega)) ?_); intro u2 w9 hu2 hgr2 hat2; have HU9 := Lib.hid hu2; have HG9 := Lib.hid hgr2; have HA9 := Lib.hid hat2; clear hu2 hgr2 hat2)
                      have HNN' : Hid (BnS N g w.heap.size w (m + 1) v5 u2 w9) := by
                        refine HS.out.step (x := (1, xi, xj)) (by rw [← HLL.out]; exact HXL.out) (W3 := w6) (W5 := w6) (W6 := w9) HKB.out HZB.out HOW.out HGL.out (Below.refl _ _) HG9.out ?_ HA9.out (HBE.out _ HG9.out)
                        rw [HMK.out]
                        exact HU9.out
                      exact ⟨⟨m + 1, by go_num, HNN'.out⟩, by simp [intOf]; omega⟩
                    · have g5 : ((k : Int) == 4) = false := by simp; omega
                      have HK45 := Lib.hid hk45
                      have HPX : Hid (nd N xi = ⟨k, xa, xb⟩) := HX.out
                      have HPY : Hid (nd N xj = ⟨k, ya, yb⟩) := (by have e := HY.out; rw [← HKL.out] at e; exact e)
                      clear hk45 h4 hkp hkq
                      obtain ⟨tu, htu⟩ : ∃ t, t = othN 1 := ⟨_, rfl⟩
                      have htu1 : tu ≤ 1 := by rw [htu]; exact othN_le _
                      have HSC2 : Hid (scG N (1, xi, xj) = [(tu, xa, ya), (1, xb, yb)]) := by
                        rw [Hid, scG_part HSG.out HPX.out HPY.out (by have := HK45.out; omega), htu]
                        rw [if_pos HK45.out]
                      have HAL : Hid (addAll (rch (scG N) g m) (scG N (1, xi, xj)) = addK (addK L (tu, xa, ya)) (1, xb, yb)) := by rw [Hid, HSC2.out, ← HLL.out]; rfl
                      have hix1 : ixK (addK (addK L (tu, xa, ya)) (1, xb, yb)) (tu, xa, ya) = ixK (addK L (tu, xa, ya)) (tu, xa, ya) := by
                        obtain ⟨Z, hZ⟩ := addK_pre (addK L (tu, xa, ya)) (1, xb, yb)
                        rw [hZ]
                        exact idx_append (addK_mem L (tu, xa, ya))
                      obtain ⟨y1, hy1⟩ : ∃ y, y = ixK (addK L (tu, xa, ya)) (tu, xa, ya) := ⟨_, rfl⟩
                      obtain ⟨y2, hy2⟩ : ∃ y, y = ixK (addK (addK L (tu, xa, ya)) (1, xb, yb)) (1, xb, yb) := ⟨_, rfl⟩
                      have HMK : Hid (mkG N (1, xi, xj) ((scG N (1, xi, xj)).map (ixK (addAll (rch (scG N) g m) (scG N (1, xi, xj))))) = ⟨k, y1, y2⟩) := by
                        rw [Hid, HAL.out, HSC2.out, List.map_cons, List.map_cons, List.map_nil, mkG_part HSG.out HPX.out HPY.out (by have := HK45.out; omega), hix1, hy1, hy2]
                      have hL1 : (addK L (tu, xa, ya)).length ≤ 1000000 ∧ 1 ≤ (addK L (tu, xa, ya)).length := by
                        have : (addK L (tu, xa, ya)).length ≤ L.length + 1 := by
                          unfold addK
                          split
                          · omega
                          · rw [List.length_append]; simp
                        exact ⟨by have := HLG.out; omega, List.length_pos_of_mem (addK_mem L (tu, xa, ya))⟩
                      have hO1 : ∀ y ∈ addK L (tu, xa, ya), y.1 ≤ 1 := fun y hy => by
                        rcases addK_sub hy with hy | hy
                        · exact HLO.out y hy
                        · rw [hy]; exact htu1
                      have HA1 : Hid (∀ V3, Owk V3 w.heap.size (.slice (some ⟨lb, 0, none⟩) ll cap) L → w.heap.size ≤ V3.heap.size → Calls Try.prog 50 #[.slice (some ⟨lb, 0, none⟩) ll cap, .agg #[.int .i64 (xa : Int), .int .i64 (ya : Int), .bool true]] V3 fun e w' => ∃ v', e = .returned (.tuple #[v', .int .i64 (y1 : Int)]) ∧ AkQ w.heap.size L (.slice (some ⟨lb, 0, none⟩) ll cap) V3 (addK L (tu, xa, ya)) v' w') := fun V3 ho hz => by
                        have := HAK.out w.heap.size L (.slice (some ⟨lb, 0, none⟩) ll cap) (tu, xa, ya) V3 ho HLG.out.2 (by have := HLG.out; omega) HLO.out htu1 hz
                        rw [← hy1] at this
                        have e : decide (tu = 0) = true := by rw [htu]; decide
                        dsimp only at this
                        rw [e] at this
                        exact this
                      have HA2 : Hid (∀ w4 v4, Owk w4 w.heap.size v4 (addK L (tu, xa, ya)) → w.heap.size ≤ w4.heap.size → Calls Try.prog 50 #[v4, .agg #[.int .i64 (xb : Int), .int .i64 (yb : Int), .bool false]] w4 fun e w' => ∃ v', e = .returned (.tuple #[v', .int .i64 (y2 : Int)]) ∧ AkQ w.heap.size (addK L (tu, xa, ya)) v4 w4 (addK (addK L (tu, xa, ya)) (1, xb, yb)) v' w') := fun w4 v4 ho hz => by
                        have := HAK.out w.heap.size (addK L (tu, xa, ya)) v4 (1, xb, yb) w4 ho hL1.2 hL1.1 hO1 (by show 1 ≤ 1; omega) hz
                        rw [← hy2] at this
                        exact this
                      clear hix1 hy1 hy2 hL1 hO1 htu htu1
                      go_upto_region 26 with (fail)
                      obtain ⟨V3, hV3⟩ : ∃ v, v = (V2.alloc (.cells #[.int .i64 (k : Int), .int .i64 0, .int .i64 0] 59)).alloc (.cells #[.int .i64 (xa : Int), .int .i64 (ya : Int), .bool true] 78) := ⟨_, rfl⟩
                      rw [← hV3]
                      have hb23 : Below V2.heap.size V2 V3 := by rw [hV3]; exact ((Below.refl _ V2).alloc (Nat.le_refl _) _).alloc (by simp) _
                      have hr17 : V3.heap[V2.heap.size]? = some (.cells #[.int .i64 (k : Int), .int .i64 0, .int .i64 0] 59 (0, 0)) := by
                        rw [hV3]
                        show ((V2.heap.push _).push _)[V2.heap.size]? = _
                        rw [Array.getElem?_push, if_neg (by simp), Array.getElem?_push, if_pos rfl]
                      have hr18 : V3.heap[V2.heap.size + 1]? = some (.cells #[.int .i64 (xa : Int), .int .i64 (ya : Int), .bool true] 78 (0, 0)) := by
                        rw [hV3]
                        show ((V2.heap.push _).push _)[V2.heap.size + 1]? = _
                        rw [Array.getElem?_push, if_pos (by simp)]
                      have hz3 : V3.heap.size = V2.heap.size + 2 := by rw [hV3]; simp
                      have HBO3 := Lib.hid (HB2.out.trans (hb23.mono HB2.out.size))
                      have HR17 := Lib.hid hr17
                      have HU3 := Lib.hid ((hb23.block _ hy13).trans HU2.out)
                      have HV3 := Lib.hid ((hb23.block _ hy14).trans HV2.out)
                      have HC3 : Hid (V3.cell? ⟨wo.heap.size, 2, none⟩ = some (.bool false) ∧ wo.heap.size < V3.heap.size) := ⟨(hb23.cell (p := ⟨wo.heap.size, 2, none⟩) hy12).trans c22, by omega⟩
                      have HLT3 : Hid (r13 < V3.heap.size ∧ r14 < V3.heap.size ∧ V2.heap.size < V3.heap.size) := ⟨by omega, by omega, by omega⟩
                      have HNE3 : Hid (∀ r, wo.heap.size ≤ r → (Value.slice (some ⟨lb, 0, none⟩) ll cap).ownBlock ≠ some r) := fun r hr e => by
                        have e : lb = r := Option.some.inj e
                        have := HLB.out
                        omega
                      have HG13 : Hid (wo.heap.size ≤ r13 ∧ wo.heap.size ≤ r14 ∧ wo.heap.size ≤ V2.heap.size) := ⟨by omega, by omega, HB2.out.size⟩
                      have HOW3 : Hid (Owk V3 w.heap.size (.slice (some ⟨lb, 0, none⟩) ll cap) L) := HOL.out.below HBO3.out (Nat.le_refl _)
                      have HSW3 : Hid (w.heap.size ≤ V3.heap.size) := Nat.le_trans HBW.out HBO3.out.size
                      have s0 := cell_in hr18 (i := 0) rfl
                      have s1 := cell_in hr18 (i := 1) rfl
                      have s2 := cell_in hr18 (i := 2) rfl
                      clear hV3 hb23 hr17 hr18 hz3 HB2 HU2 HV2 c22 hy12 hy13 hy14
                      go_upto_region 30 with (first
                        | (go_at_call 50; (with_reducible refine (HA1.out _ HOW3.out HSW3.out).mono ?_); rintro e w4 ⟨v4, rfl, q4⟩; have Q4 := Lib.hid q4; have k12 := (q4.ks wo.heap.size HC3.out.2 (HNE3.out _ (Nat.le_refl _))); have t12 : w4.cell? ⟨wo.heap.size, 2, none⟩ = some (.bool false) := ((World.cell?_of_block (a := ⟨wo.heap.size, 2, none⟩) k12).trans HC3.out.1); have t13 := cell_in ((q4.ks r13 HLT3.out.1 (HNE3.out _ HG13.out.1)).trans HU3.out) (i := 2) rfl; have t14 := cell_in ((q4.ks r14 HLT3.out.2.1 (HNE3.out _ HG13.out.2.1)).trans HV3.out) (i := 2) rfl; clear q4 k12 s0 s1 s2)
                        | (go_at_call 50; (with_reducible refine (HA2.out _ _ Q4.out.ow (Nat.le_trans HSW3.out Q4.out.bl.size)).mono ?_); rintro e w5 ⟨v5, rfl, q5⟩; have Q5 := Lib.hid (Q4.out.two q5); have HO5 := Lib.hid q5.ow; have h17 := ((Q5.out.1 V2.heap.size HLT3.out.2.2 (HNE3.out _ HG13.out.2.2)).1).trans HR17.out; have H17 := Lib.hid h17; have p1 := cell_in h17 (i := 1) rfl; have p2 := cell_in h17 (i := 2) rfl; have fp1 : w5.frozen? ⟨V2.heap.size, 1, none⟩ = false := (by simp [World.frozen?, h17]); have fp2 : w5.frozen? ⟨V2.heap.size, 2, none⟩ = false := (by simp [World.frozen?, h17]); clear q5 h17 t12 t13 t14))
                      obtain ⟨w6, hw6⟩ : ∃ v, v = (w5.setCell ⟨V2.heap.size, 1, none⟩ (.int .i64 (y1 : Int))).setCell ⟨V2.heap.size, 2, none⟩ (.int .i64 (y2 : Int)) := ⟨_, rfl⟩
                      rw [← hw6]
                      have h17 : w6.heap[V2.heap.size]? = some (.cells #[.int .i64 (k : Int), .int .i64 (y1 : Int), .int .i64 (y2 : Int)] 59 (0, 0)) := by rw [hw6]; simp [World.setCell, Array.getElem?_modify, H17.out]
                      have hoth : ∀ k, k ≠ V2.heap.size → w6.heap[k]? = w5.heap[k]? := fun k hk => by
                        have hne : ¬ V2.heap.size = k := fun e => hk e.symm
                        rw [hw6]
                        simp [World.setCell, Array.getElem?_modify, hne]
                      have hb56 : Below V2.heap.size w5 w6 := by rw [hw6]; exact ((Below.refl _ w5).setCell (p := ⟨V2.heap.size, 1, none⟩) (Nat.le_refl _) _).setCell (p := ⟨V2.heap.size, 2, none⟩) (Nat.le_refl _) _
                      have p0 := cell_in h17 (i := 0) rfl
                      have p1' := cell_in h17 (i := 1) rfl
                      have p2' := cell_in h17 (i := 2) rfl
                      have HKB : Hid (∀ k, k < wo.heap.size → (Value.slice (some ⟨lb, 0, none⟩) ll cap).ownBlock ≠ some k → w6.heap[k]? = wo.heap[k]?) := fun k hk hne => (hoth k (by have := HG13.out.2.2; omega)).trans ((Q5.out.1 k (by have := HBO3.out.size; omega) hne).1.trans (HBO3.out.block k hk))
                      have HZB : Hid (wo.heap.size ≤ w6.heap.size) := Nat.le_trans (Nat.le_trans HBO3.out.size Q5.out.2.2.size) hb56.size
                      have HOB : Hid (Ow3 w6 w.heap.size u10 (outL (scG N) (mkG N) (rch (scG N) g m) m)) := HS.out.out5 HKB.out HZB.out (Below.refl _ _)
                      have HOW : Hid (Owk w6 w.heap.size v5 (addAll (rch (scG N) g m) (scG N (1, xi, xj)))) := by
                        rw [HAL.out]
                        exact HO5.out.same fun k e => hoth k (fun e2 => by subst e2; exact (Q5.out.1 V2.heap.size HLT3.out.2.2 (HNE3.out _ HG13.out.2.2)).2 e)
                      have HBB : Hid (Below w.heap.size w w6) := (HS.out.bl.trans (HBO3.out.mono HBW.out)).trans (Q5.out.2.2.trans (hb56.mono (Nat.le_trans HBW.out HG13.out.2.2)))
                      have HSW : Hid (w.heap.size ≤ w6.heap.size) := HBB.out.size
                      have HBE : Hid (∀ v9 : World, w6.grownBy v9 u10.ownBlock → Below w.heap.size w v9) := fun v9 hg => HBB.out.grown hg HBB.out.size (fun k e => (HOB.out.lt e).1)
                      have HGL : Hid (Grw (.slice (some ⟨lb, 0, none⟩) ll cap) v5 wo.heap.size) := Q5.out.2.1.mono HBO3.out.size
                      clear hw6 h17 hoth hb56 p1 p2 fp1 fp2 HO5 H17 HR17 HU3 HV3 HC3 HLT3 HNE3 HOW3
                      go_wp2_with (at_builtin; go_must (refine push3_at _ rfl (.tmp 132) (.tmp 134) 22 rfl w.heap.size i0 Try.underlying22 HI.out _ (outL (scG N) (mkG N) (rch (scG N) g m) m) k y1 y2 _ rfl rfl (by simp) HOB.out HOLL.out (by first | exact HSW.out | (simp; have := HSW.out; omega)) ?_); intro u2 w9 hu2 hgr2 hat2; have HU9 := Lib.hid hu2; have HG9 := Lib.hid hgr2; have HA9 := Lib.hid hat2; clear hu2 hgr2 hat2)
                      have HNN' : Hid (BnS N g w.heap.size w (m + 1) v5 u2 w9) := by
                        refine HS.out.step (x := (1, xi, xj)) (by rw [← HLL.out]; exact HXL.out) (W3 := w6) (W5 := w6) (W6 := w9) HKB.out HZB.out HOW.out HGL.out (Below.refl _ _) HG9.out ?_ HA9.out (HBE.out _ HG9.out)
                        rw [HMK.out]
                        exact HU9.out
                      exact ⟨⟨m + 1, by go_num, HNN'.out⟩, by simp [intOf]; omega⟩
                  · have g4 : ¬ (k : Int) ≥ 4 := by omega
                    have HPX : Hid (nd N xi = ⟨k, xa, xb⟩) := HX.out
                    have HPY : Hid (nd N xj = ⟨k, ya, yb⟩) := (by have e := HY.out; rw [← HKL.out] at e; exact e)
                    have HSC : Hid (scG N (1, xi, xj) = []) := scG_leaf HSG.out HPX.out HPY.out (fun h => h4 h.2)
                    have HMK : Hid (∀ ps, mkG N (1, xi, xj) ps = ⟨k, 0, 0⟩) := fun ps => by
                      rw [mkG_leaf HSG.out HPX.out HPY.out h4]
                      have := HLX.out (by omega)
                      rw [this.1, this.2]
                    clear h4 hkp hkq
                    obtain ⟨VB, hVB⟩ : ∃ v, v = V2.alloc (.cells #[.int .i64 (k : Int), .int .i64 0, .int .i64 0] 59) := ⟨_, rfl⟩
                    have hbb : Below V2.heap.size V2 VB := by rw [hVB]; exact (Below.refl _ V2).alloc (Nat.le_refl _) _
                    have HKB : Hid (∀ k, k < wo.heap.size → (Value.slice (some ⟨lb, 0, none⟩) ll cap).ownBlock ≠ some k → VB.heap[k]? = wo.heap[k]?) := fun k hk _ => (HB2.out.trans (hbb.mono HB2.out.size)).block k hk
                    have HZB : Hid (wo.heap.size ≤ VB.heap.size) := Nat.le_trans HB2.out.size hbb.size
                    have HOB : Hid (Ow3 VB w.heap.size u10 (outL (scG N) (mkG N) (rch (scG N) g m) m)) := HS.out.out5 HKB.out HZB.out (Below.refl _ _)
                    have HOW : Hid (Owk VB w.heap.size (.slice (some ⟨lb, 0, none⟩) ll cap) (addAll (rch (scG N) g m) (scG N (1, xi, xj)))) := by
                      rw [HSC.out, ← HLL.out]
                      exact HOL.out.below (HB2.out.trans (hbb.mono HB2.out.size)) (Nat.le_refl _)
                    have HBB : Hid (Below w.heap.size w VB) := HS.out.bl.trans ((HB2.out.trans (hbb.mono HB2.out.size)).mono HBW.out)
                    have HSW : Hid (w.heap.size ≤ VB.heap.size) := HBB.out.size
                    have HBE : Hid (∀ v9 : World, VB.grownBy v9 u10.ownBlock → Below w.heap.size w v9) := fun v9 hg => HBB.out.grown hg HBB.out.size (fun k e => (HOB.out.lt e).1)
                    have HVB := Lib.hid hVB
                    clear hbb HB2
                    go_upto_region 30 with (fail)
                    rw [← hVB]
                    have hbr : VB.heap[V2.heap.size]? = some (.cells #[.int .i64 (k : Int), .int .i64 0, .int .i64 0] 59 (0, 0)) := by rw [hVB]; exact heap_alloc_new _ _
                    have z0 := cell_in hbr (i := 0) rfl
                    have z1 := cell_in hbr (i := 1) rfl
                    have z2 := cell_in hbr (i := 2) rfl
                    clear hVB hbr
                    go_wp2_with (at_builtin; go_must (refine push3_at _ rfl (.tmp 132) (.tmp 134) 22 rfl w.heap.size i0 Try.underlying22 HI.out _ (outL (scG N) (mkG N) (rch (scG N) g m) m) k 0 0 _ rfl rfl (by simp) HOB.out HOLL.out (by first | exact HSW.out | (simp; have := HSW.out; omega)) ?_); intro u2 w9 hu2 hgr2 hat2; have HU9 := Lib.hid hu2; have HG9 := Lib.hid hgr2; have HA9 := Lib.hid hat2; clear hu2 hgr2 hat2)
                    have HNN' : Hid (BnS N g w.heap.size w (m + 1) (.slice (some ⟨lb, 0, none⟩) ll cap) u2 w9) := by
                      refine HS.out.step (x := (1, xi, xj)) (by rw [← HLL.out]; exact HXL.out) (W3 := VB) (W5 := VB) (W6 := w9) HKB.out HZB.out HOW.out (.inl rfl) (Below.refl _ _) HG9.out ?_ HA9.out (HBE.out _ HG9.out)
                      rw [show mkG N (1, xi, xj) ((scG N (1, xi, xj)).map (ixK (addAll (rch (scG N) g m) (scG N (1, xi, xj))))) = ⟨k, 0, 0⟩ from HMK.out _]
                      exact HU9.out
                    exact ⟨⟨m + 1, by go_num, HNN'.out⟩, by simp [intOf]; omega⟩
                · have gn : ((k : Int) != (l : Int)) = true := by simp; omega
                  have HSC : Hid (scG N (1, xi, xj) = []) := scG_leaf HSG.out HX.out HY.out (fun h => hkl h.1)
                  have HMK : Hid (∀ ps, mkG N (1, xi, xj) ps = ⟨0, 0, 0⟩) := fun ps => mkG_diff HSG.out HX.out HY.out hkl ps
                  clear hkl hkp hkq
                  have hbb : Below V2.heap.size V2 V2 := Below.refl _ _
                  have HKB : Hid (∀ k, k < wo.heap.size → (Value.slice (some ⟨lb, 0, none⟩) ll cap).ownBlock ≠ some k → V2.heap[k]? = wo.heap[k]?) := fun k hk _ => (HB2.out.trans (hbb.mono HB2.out.size)).block k hk
                  have HZB : Hid (wo.heap.size ≤ V2.heap.size) := Nat.le_trans HB2.out.size hbb.size
                  have HOB : Hid (Ow3 V2 w.heap.size u10 (outL (scG N) (mkG N) (rch (scG N) g m) m)) := HS.out.out5 HKB.out HZB.out (Below.refl _ _)
                  have HOW : Hid (Owk V2 w.heap.size (.slice (some ⟨lb, 0, none⟩) ll cap) (addAll (rch (scG N) g m) (scG N (1, xi, xj)))) := by
                    rw [HSC.out, ← HLL.out]
                    exact HOL.out.below (HB2.out.trans (hbb.mono HB2.out.size)) (Nat.le_refl _)
                  have HBB : Hid (Below w.heap.size w V2) := HS.out.bl.trans ((HB2.out.trans (hbb.mono HB2.out.size)).mono HBW.out)
                  have HSW : Hid (w.heap.size ≤ V2.heap.size) := HBB.out.size
                  have HBE : Hid (∀ v9 : World, V2.grownBy v9 u10.ownBlock → Below w.heap.size w v9) := fun v9 hg => HBB.out.grown hg HBB.out.size (fun k e => (HOB.out.lt e).1)
                  clear hbb HB2
                  go_wp2_with (at_builtin; go_must (refine push3_at _ rfl (.tmp 88) (.tmp 91) 22 rfl w.heap.size i0 Try.underlying22 HI.out _ (outL (scG N) (mkG N) (rch (scG N) g m) m) 0 0 0 _ rfl rfl (by simp) HOB.out HOLL.out (by first | exact HSW.out | (simp; have := HSW.out; omega)) ?_); intro u2 w9 hu2 hgr2 hat2; have HU9 := Lib.hid hu2; have HG9 := Lib.hid hgr2; have HA9 := Lib.hid hat2; clear hu2 hgr2 hat2)
                  have HNN' : Hid (BnS N g w.heap.size w (m + 1) (.slice (some ⟨lb, 0, none⟩) ll cap) u2 w9) := by
                    refine HS.out.step (x := (1, xi, xj)) (by rw [← HLL.out]; exact HXL.out) (W3 := V2) (W5 := V2) (W6 := w9) HKB.out HZB.out HOW.out (.inl rfl) (Below.refl _ _) HG9.out ?_ HA9.out (HBE.out _ HG9.out)
                    rw [show mkG N (1, xi, xj) ((scG N (1, xi, xj)).map (ixK (addAll (rch (scG N) g m) (scG N (1, xi, xj))))) = ⟨0, 0, 0⟩ from HMK.out _]
                    exact HU9.out
                  exact ⟨⟨m + 1, by go_num, HNN'.out⟩, by simp [intOf]; omega⟩
    · have hmm' : m = L.length := by omega
      have i1 : ¬ (m : Int) < (L.length : Int) := by omega
      have HUF : Hid (Unf (scG N) g (mkG N) (outL (scG N) (mkG N) (rch (scG N) g m) m)) := ⟨m, by rw [← hL, hmm'], rfl⟩
      obtain ⟨Yv, mv, dv, hov, hcr⟩ := HCR.out _ _ _ HS.out.oo HUF.out HS.out.bl.size
      subst hov
      have HC := Lib.hid hcr
      have HBL := Lib.hid HS.out.bl
      clear hcr hol hcell hmm'
      generalize L.length = ll at *
      go_wp2_with (go_at_call 26; refine HC.out.mono ?_; rintro e w9 ⟨⟨y, can, rfl, h1, h2⟩, hb9⟩)
      go_ret
      exact ⟨⟨y, can, rfl, h1, h2⟩, HBL.out.trans (hb9.mono HBL.out.size)⟩
end Go.Proofs.Ytmbdjjkgjnemiaa
