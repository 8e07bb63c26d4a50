import Derived.Test.YtfeohcknopdamaaT04
import Derived.Shelf.Spec.SlicesInsertGrow
/- Layer 10: slices.Insert of one number into a slice that the call owns: the library's contract, laid at this program. -/
namespace Go.Proofs.Ytfeohcknopdamaa
open Go.RowKit Go.Shelf
set_option linter.unusedVariables false

def insRen : Go.Shelf.Ren := ⟨fun | 21 => 81 | 27 => 90 | 28 => 91 | 35 => 95 | 39 => 78 | n => n, fun | 22 => 22 | n => n, fun n => n⟩
theorem insLays : Lays2.n21 Try.prog insRen := { mixed := by kernel_rfl, f21 := Try.func81.trans (congrArg some (by kernel_rfl)), f27 := Try.func90.trans (congrArg some (by kernel_rfl)), f28 := Try.func91.trans (congrArg some (by kernel_rfl)), f35 := Try.func95.trans (congrArg some (by kernel_rfl)), f39 := Try.func78.trans (congrArg some (by kernel_rfl)), t0 := Try.underlying0, a0 := Try.isAgg0, z0 := Try.sizeOf0, v0 := Try.zeroValue0, t3 := Try.underlying3, a3 := Try.isAgg3, z3 := Try.sizeOf3, v3 := Try.zeroValue3, t4 := Try.underlying4, a4 := Try.isAgg4, z4 := Try.sizeOf4, v4 := Try.zeroValue4, t22 := Try.underlying22, a22 := Try.isAgg22, z22 := Try.sizeOf22, v22 := Try.zeroValue22, i3 := by kernel_rfl }
/-- x stands at the place i. -/
def insI (zs : List Int) (i : Nat) (x : Int) : List Int := zs.take i ++ x :: zs.drop i
theorem insI_len (zs : List Int) (i : Nat) (x : Int) : (insI zs i x).length = zs.length + 1 := by
  unfold insI
  rw [List.length_append, List.length_cons, List.length_take, List.length_drop]; omega
theorem insI_at {zs : List Int} {i j : Nat} {x : Int} (hi : i ≤ zs.length) (hj : j < zs.length + 1) : atI (insI zs i x) j = if j < i then atI zs j else if j = i then x else atI zs (j - 1) := by
  unfold insI atI
  by_cases h1 : j < i
  · rw [if_pos h1, List.getElem?_append_left (by rw [List.length_take]; omega), List.getElem?_take_of_lt h1]
  · rw [if_neg h1, List.getElem?_append_right (by rw [List.length_take]; omega), List.length_take, Nat.min_eq_left hi]
    by_cases h2 : j = i
    · rw [if_pos h2, h2, Nat.sub_self]; rfl
    · rw [if_neg h2]
      obtain ⟨d, rfl⟩ : ∃ d, j = i + d + 1 := ⟨j - i - 1, by omega⟩
      rw [show i + d + 1 - i = d + 1 by omega, List.getElem?_cons_succ, List.getElem?_drop]
      rfl
theorem setCells_block {b t : Nat} : ∀ (vs : List Value) (o : Nat) (w : World) (cs : Array Value), w.heap[b]? = some (.cells cs t (0, 0)) → ∃ cs', (w.setCells b o vs).heap[b]? = some (.cells cs' t (0, 0)) ∧ cs'.size = cs.size
  | [], o, w, cs, h => ⟨cs, h, rfl⟩
  | v :: vs, o, w, cs, h => by
    rw [World.setCells]
    obtain ⟨cs', h1, h2⟩ := setCells_block vs (o + 1) _ _ (heap_setCell_same w b o cs t v h)
    exact ⟨cs', h1, by rw [h2, Array.size_setIfInBounds]⟩
theorem grown_setCells {w : World} {g : Nat} : ∀ (vs : List Value) (o : Nat) (W : World), w.grownBy W (some g) → w.grownBy (W.setCells g o vs) (some g)
  | [], o, W, h => h
  | v :: vs, o, W, h => by
    rw [World.setCells]
    exact grown_setCells vs (o + 1) _ (grown_set h o v)
theorem Ow.of_cells {w : World} {B g cap : Nat} {zs : List Int} {cur : Array Value} (hg : w.heap[g]? = some (.cells cur 3 (0, 0))) (hB : B ≤ g) (hc : zs.length ≤ cap) (hm : cap ≤ maxLen) (hs : cur.size = cap)
    (hz : ∀ j, j < zs.length → w.cell? ⟨g, j, none⟩ = some (.int .i64 (atI zs j))) : Ow w B 3 (.slice (some ⟨g, 0, none⟩) zs.length cap) zs := by
  refine ⟨by rw [List.length_map, Nat.mul_one], .inr ⟨g, cap, cur, rfl, hB, hg, hc, hm, by rw [hs, Nat.mul_one], ?_⟩⟩
  have hl : cur.toList.length = cap := by rw [Array.length_toList]; exact hs
  refine List.ext_getElem (by rw [List.length_take, hl, List.length_map]; omega) fun j h1 h2 => ?_
  rw [List.length_map] at h2
  have h3 := hz j h2
  rw [cell_of_row _ _ _ _ _ _ hg] at h3
  rw [List.getElem_take, List.getElem_map]
  rw [Array.getElem?_eq_getElem (by omega)] at h3
  rw [Array.getElem_toList, Option.some.inj h3, atI_get h2]
theorem zeros_size (n : Nat) : (Builtin.zeroCells (Value.int .i64 0).cells n).size = n := by simp [Builtin.zeroCells, Value.cells]
set_option maxHeartbeats 1600000 in
theorem insert_any (zs : List Int) (v : Value) (B p i : Nat) (x : Int) (w : World) (h : Ow w B 3 v zs) (hn : zs.length ≤ 1000) (hi : i ≤ zs.length) (hB : B ≤ w.heap.size)
    (hp : w.heap[p]? = some (.cells #[.int .i64 x] 3 (0, 0))) (hvp : v.ownBlock ≠ some p) :
    Calls Try.prog 81 #[v, .int .i64 (i : Int), .slice (some ⟨p, 0, none⟩) 1 1] w fun e w' => (∃ v', e = .returned v' ∧ Ow w' B 3 v' (insI zs i x)) ∧ w.grownBy w' v.ownBlock := by
  have hvs : ∀ (j : Nat) (u : Value), ([Value.int .i64 x] : List Value)[j]? = some u → w.cell? ⟨p, 0 + j, none⟩ = some u := fun j u hu => by
    rw [cell_of_row _ _ _ _ _ _ hp]
    match j, hu with
    | 0, hu => simpa using hu
  have h1v : ∀ u ∈ ([Value.int .i64 x] : List Value), u.oneCell' = true := fun u hu => by
    rw [List.mem_singleton] at hu; rw [hu]; rfl
  have h1c : ∀ u ∈ ints zs, u.oneCell' = true := fun u hu => by
    obtain ⟨z, _, rfl⟩ := List.mem_map.1 hu; rfl
  have hmax : ∀ k, k ≤ 1001 → k ≤ maxLen := fun k hk => by unfold maxLen; omega
  rcases h.2 with ⟨rfl, h0⟩ | ⟨g, cap, cur, rfl, hbg, hgb, hnc, hcm, hsz, htk⟩
  · -- the nil slice
    obtain rfl : zs = [] := List.eq_nil_of_length_eq_zero h0
    obtain rfl : i = 0 := by simpa using hi
    refine (Any2.slices_Insert_int_end_grow insLays none 0 0 p 0 1 1 [] [.int .i64 x] w (by omega) (by omega) (by omega) (by omega) rfl rfl (fun _ => rfl) (fun a e => by cases e) hvs h1v).mono ?_
    rintro e w' ⟨rfl, rfl⟩
    have hge := grownCap_ge w (0 + 1) 0 (insRen.t 3)
    have hle := grownCap_le_maxLen w (0 + 1) 0 (insRen.t 3) (hmax _ (by omega))
    generalize grownCap w (0 + 1) 0 (insRen.t 3) = G at *
    refine ⟨⟨_, rfl, ?_⟩, ⟨rfl, rfl, rfl, by simp, fun k hk _ => Below.heap_alloc w.drew _ k hk⟩⟩
    refine Ow.of_cells (zs := insI [] 0 x) (World.alloc_heap_new w.drew _) hB hge hle (by rw [Array.size_append, zeros_size]; simp; omega) fun j hj => ?_
    rw [insI_len] at hj
    obtain rfl : j = 0 := by simpa using hj
    rw [World.cell?_alloc_at (w := w.drew) _ _ w.heap.size _ rfl, Array.getElem?_append_left (by simp)]
    rfl
  · rw [Nat.mul_one] at hsz htk
    have hcs : ∀ (j : Nat) (u : Value), (ints zs)[j]? = some u → w.cell? ⟨g, 0 + j, none⟩ = some u := fun j u hu => by
      obtain ⟨hj, rfl⟩ := ints_at hu
      rw [Nat.zero_add]
      exact h.cellAt rfl hj
    have hin : ∀ j, j < cap → (w.cell? ⟨g, 0 + j, none⟩).isSome = true := fun j hj => by
      rw [cell_of_row _ _ _ _ _ _ hgb, Array.getElem?_eq_getElem (by omega)]; rfl
    have hfr : ∀ j, w.frozen? ⟨g, 0 + j, none⟩ = false := fun j => by simp [World.frozen?, hgb]
    have hne : p ≠ g := fun e => hvp (by rw [e]; rfl)
    have hlen : (ints zs).length = zs.length := List.length_map ..
    have hil := insI_len zs i x
    by_cases hroom : zs.length + 1 ≤ cap
    · by_cases hlt : i < zs.length
      · refine (Any2.slices_Insert_int_shift insLays g 0 zs.length cap i p 0 1 1 (ints zs) [.int .i64 x] w hlt (by omega) hroom (by unfold maxLen at hcm; omega) hne hlen rfl hcs (fun j hj => hin j (by omega)) (fun j _ => hfr j) hvs h1c h1v
          3 3 1 cap (by simp [World.shape?, hp]) (by simp [World.shape?, hgb, hsz]) (by omega) (by simp [World.frozen?, hp]) (by simp [World.frozen?, hp])).mono ?_
        rintro e w' ⟨rfl, rfl⟩
        have hdl : ((ints zs).drop i).length = zs.length - i := by rw [List.length_drop, hlen]
        obtain ⟨c1, hb1, hs1⟩ := setCells_block ((ints zs).drop i) (0 + (i + 1)) w.drew cur hgb
        obtain ⟨c2, hb2, hs2⟩ := setCells_block [Value.int .i64 x] (0 + i) _ c1 hb1
        have hsome1 : ∀ j, j < cap → ((w.drew.setCells g (0 + (i + 1)) ((ints zs).drop i)).cell? ⟨g, j, none⟩).isSome = true := fun j hj => by
          rw [cell_of_row _ _ _ _ _ _ hb1, Array.getElem?_eq_getElem (by omega)]; rfl
        refine ⟨⟨_, rfl, ?_⟩, grown_setCells _ _ _ (grown_setCells _ _ _ (grown_drew (World.grownBy.refl w (some g))))⟩
        rw [← hil]
        refine Ow.of_cells hb2 hbg (by omega) hcm (by omega) fun j hj => ?_
        rw [hil] at hj
        rw [insI_at hi hj]
        by_cases h2 : j = i
        · subst h2
          rw [if_neg (Nat.lt_irrefl _), if_pos rfl]
          have := World.cell?_setCells_in g [Value.int .i64 x] (0 + j) (w.drew.setCells g (0 + (j + 1)) ((ints zs).drop j)) (fun k hk => by
            rw [List.length_singleton] at hk
            exact hsome1 _ (by omega)) 0 (by simp)
          rw [Nat.add_zero, Nat.zero_add] at this
          simpa using this
        · rw [World.cell?_setCells_out g [Value.int .i64 x] (0 + i) _ ⟨g, j, none⟩ (fun _ _ => by show j < 0 + i ∨ 0 + i + 1 ≤ j; omega)]
          by_cases h3 : j < i
          · rw [if_pos h3, World.cell?_setCells_out g _ (0 + (i + 1)) _ ⟨g, j, none⟩ (fun _ _ => .inl (by show j < 0 + (i + 1); omega))]
            have := h.cellAt rfl (k := j) (by omega)
            exact this
          · rw [if_neg h3, if_neg h2]
            have := World.cell?_setCells_in g ((ints zs).drop i) (0 + (i + 1)) w.drew (fun k hk => by
              have := hin (i + 1 + k) (by omega)
              rw [show 0 + (i + 1) + k = 0 + (i + 1 + k) by omega]
              exact this) (j - (i + 1)) (by omega)
            rw [show 0 + (i + 1) + (j - (i + 1)) = j by omega] at this
            rw [this, List.getElem_drop, List.getElem_map]
            congr 2
            rw [atI_get (by omega)]
            congr 1
            omega
      · obtain rfl : i = zs.length := by omega
        refine (Any2.slices_Insert_int_end_room insLays g 0 zs.length cap p 0 1 1 [.int .i64 x] w (by omega) hroom (by unfold maxLen at hcm; omega) rfl (fun j hj => by rw [Nat.add_assoc]; exact hin _ (by omega)) (fun j _ => by rw [Nat.add_assoc]; exact hfr _) hvs h1v).mono ?_
        rintro e w' ⟨rfl, rfl⟩
        obtain ⟨c2, hb2, hs2⟩ := setCells_block [Value.int .i64 x] (0 + zs.length) w cur hgb
        refine ⟨⟨_, rfl, ?_⟩, grown_setCells _ _ _ (World.grownBy.refl w (some g))⟩
        rw [← hil]
        refine Ow.of_cells hb2 hbg (by omega) hcm (by omega) fun j hj => ?_
        rw [hil] at hj
        rw [insI_at (Nat.le_refl _) hj]
        by_cases h2 : j = zs.length
        · subst h2
          rw [if_neg (Nat.lt_irrefl _), if_pos rfl]
          have := World.cell?_setCells_in g [Value.int .i64 x] (0 + zs.length) w (fun k hk => by
            rw [List.length_singleton] at hk
            have := hin (zs.length + k) (by omega)
            rw [Nat.add_assoc]
            exact this) 0 (by simp)
          rw [Nat.add_zero, Nat.zero_add] at this
          simpa using this
        · rw [World.cell?_setCells_out g [Value.int .i64 x] (0 + zs.length) _ ⟨g, j, none⟩ (fun _ _ => .inl (by show j < 0 + zs.length; omega)), if_pos (by omega)]
          exact h.cellAt rfl (k := j) (by omega)
    · have hcap : cap = zs.length := by omega
      have hge := grownCap_ge w (zs.length + 1) cap (insRen.t 3)
      have hle := grownCap_le_maxLen w (zs.length + 1) cap (insRen.t 3) (hmax _ (by omega))
      by_cases hlt : i < zs.length
      · refine (Any2.slices_Insert_int_grow insLays g 0 zs.length cap i p 0 1 1 (ints zs) [.int .i64 x] w hlt (by omega) (by omega) (by omega) (by omega) hlen rfl hcs hvs h1c h1v).mono ?_
        rintro e w' ⟨rfl, rfl⟩
        generalize grownCap w (zs.length + 1) cap (insRen.t 3) = G at *
        obtain ⟨R, hR⟩ : ∃ R, R = ((ints zs).take i).toArray ++ Builtin.zeroCells (Value.int .i64 0).cells (zs.length + 1 - i) ++ Builtin.zeroCells (Value.int .i64 0).cells (G - (zs.length + 1)) := ⟨_, rfl⟩
        have hRs : R.size = G := by
          rw [hR, Array.size_append, Array.size_append, zeros_size, zeros_size, List.size_toArray, List.length_take, hlen]; omega
        rw [← hR]
        have hb0 : (w.alloc (.cells R (insRen.t 3))).drew.heap[w.heap.size]? = some (.cells R 3 (0, 0)) := World.alloc_heap_new w _
        have hdl : ((ints zs).drop i).length = zs.length - i := by rw [List.length_drop, hlen]
        obtain ⟨c1, hb1, hs1⟩ := setCells_block [Value.int .i64 x] i _ R hb0
        obtain ⟨c2, hb2, hs2⟩ := setCells_block ((ints zs).drop i) (i + 1) ((w.alloc (.cells R (insRen.t 3))).drew.setCells w.heap.size i [Value.int .i64 x]).drew c1 hb1
        have hsome0 : ∀ j, j < G → ((w.alloc (.cells R (insRen.t 3))).drew.cell? ⟨w.heap.size, j, none⟩).isSome = true := fun j hj => by
          rw [cell_of_row _ _ _ _ _ _ hb0, Array.getElem?_eq_getElem (by omega)]; rfl
        have hsome1 : ∀ j, j < G → (((w.alloc (.cells R (insRen.t 3))).drew.setCells w.heap.size i [Value.int .i64 x]).drew.cell? ⟨w.heap.size, j, none⟩).isSome = true := fun j hj => by
          have hb1' : ((w.alloc (.cells R (insRen.t 3))).drew.setCells w.heap.size i [Value.int .i64 x]).drew.heap[w.heap.size]? = some (.cells c1 3 (0, 0)) := hb1
          rw [cell_of_row _ _ _ _ _ _ hb1', Array.getElem?_eq_getElem (by omega)]; rfl
        have hgr : ∀ k, k < w.heap.size → ((((w.alloc (.cells R (insRen.t 3))).drew.setCells w.heap.size i [Value.int .i64 x]).drew).setCells w.heap.size (i + 1) ((ints zs).drop i)).heap[k]? = w.heap[k]? := fun k hk => by
          have h1 := grown_setCells (g := w.heap.size) ((ints zs).drop i) (i + 1) _ (grown_drew (grown_setCells (g := w.heap.size) [Value.int .i64 x] i _ (grown_drew (World.grownBy.refl (w.alloc (.cells R (insRen.t 3))) (some w.heap.size)))))
          exact (h1.block k (by simp; omega) (fun e => by injection e with e; omega)).trans (Below.heap_alloc w _ k hk)
        have hall := grown_setCells (g := w.heap.size) ((ints zs).drop i) (i + 1) _ (grown_drew (grown_setCells (g := w.heap.size) [Value.int .i64 x] i _ (grown_drew (World.grownBy.refl (w.alloc (.cells R (insRen.t 3))) (some w.heap.size)))))
        refine ⟨⟨_, rfl, ?_⟩, ⟨hall.os, hall.tape, hall.output, Nat.le_trans (by simp) hall.size, fun k hk _ => hgr k hk⟩⟩
        rw [← hil]
        refine Ow.of_cells hb2 hB (by omega) hle (by omega) fun j hj => ?_
        rw [hil] at hj
        rw [insI_at hi hj]
        by_cases h3 : i < j
        · rw [if_neg (by omega), if_neg (by omega)]
          have := World.cell?_setCells_in w.heap.size ((ints zs).drop i) (i + 1) ((w.alloc (.cells R (insRen.t 3))).drew.setCells w.heap.size i [Value.int .i64 x]).drew (fun k hk => hsome1 _ (by omega)) (j - (i + 1)) (by omega)
          rw [show i + 1 + (j - (i + 1)) = j by omega] at this
          rw [this, List.getElem_drop, List.getElem_map]
          congr 2
          rw [atI_get (by omega)]
          congr 1
          omega
        · rw [World.cell?_setCells_out w.heap.size ((ints zs).drop i) (i + 1) _ ⟨w.heap.size, j, none⟩ (fun _ _ => .inl (by show j < i + 1; omega))]
          show ((w.alloc (.cells R (insRen.t 3))).drew.setCells w.heap.size i [Value.int .i64 x]).cell? ⟨w.heap.size, j, none⟩ = _
          by_cases h2 : j = i
          · subst h2
            rw [if_neg (Nat.lt_irrefl _), if_pos rfl]
            have := World.cell?_setCells_in w.heap.size [Value.int .i64 x] j (w.alloc (.cells R (insRen.t 3))).drew (fun k hk => by
              rw [List.length_singleton] at hk
              exact hsome0 _ (by omega)) 0 (by simp)
            rw [Nat.add_zero] at this
            simpa using this
          · rw [if_pos (by omega), World.cell?_setCells_out w.heap.size [Value.int .i64 x] i _ ⟨w.heap.size, j, none⟩ (fun _ _ => .inl (by show j < i; omega)), cell_of_row _ _ _ _ _ _ hb0, hR,
              Array.getElem?_append_left (by rw [Array.size_append, zeros_size, List.size_toArray, List.length_take, hlen]; omega), Array.getElem?_append_left (by rw [List.size_toArray, List.length_take, hlen]; omega), List.getElem?_toArray, List.getElem?_take_of_lt (by omega), List.getElem?_map, List.getElem?_eq_getElem (by omega), atI_get (by omega)]
            rfl
      · obtain rfl : i = zs.length := by omega
        refine (Any2.slices_Insert_int_end_grow insLays (some ⟨g, 0, none⟩) zs.length cap p 0 1 1 (ints zs) [.int .i64 x] w (by omega) (by omega) (by omega) (by omega) hlen rfl (fun e => by cases e) (fun a e j u hu => by
          cases e
          rw [Addr.add_lit]
          exact hcs j u hu) hvs h1v).mono ?_
        rintro e w' ⟨rfl, rfl⟩
        generalize grownCap w (zs.length + 1) cap (insRen.t 3) = G at *
        refine ⟨⟨_, rfl, ?_⟩, ⟨rfl, rfl, rfl, by simp, fun k hk _ => Below.heap_alloc w.drew _ k hk⟩⟩
        rw [← hil]
        refine Ow.of_cells (World.alloc_heap_new w.drew _) hB (by omega) hle (by rw [Array.size_append, zeros_size, List.size_toArray, List.length_append, hlen]; simp; omega) fun j hj => ?_
        rw [hil] at hj
        rw [insI_at (Nat.le_refl _) hj, World.cell?_alloc_at (w := w.drew) _ _ w.heap.size _ rfl, Array.getElem?_append_left (by rw [List.size_toArray, List.length_append, hlen]; simpa using hj), List.getElem?_toArray]
        by_cases h2 : j = zs.length
        · subst h2
          rw [if_neg (Nat.lt_irrefl _), if_pos rfl, List.getElem?_append_right (by rw [hlen]; exact Nat.le_refl _), hlen, Nat.sub_self]
          rfl
        · rw [if_pos (by omega), List.getElem?_append_left (by rw [hlen]; omega), List.getElem?_map, List.getElem?_eq_getElem (by omega), atI_get (by omega)]
          rfl
end Go.Proofs.Ytfeohcknopdamaa
