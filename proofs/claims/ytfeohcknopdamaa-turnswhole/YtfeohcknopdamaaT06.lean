import Derived.Test.YtfeohcknopdamaaT04
import Derived.Test.YtfeohcknopdamaaT05
/- Layer 10: setIn over the numbers of choices (written by gen_setin.py). -/
namespace Go.Proofs.Ytfeohcknopdamaa
open Go.RowKit Go.Shelf
set_option linter.unusedVariables false
attribute [local go_sem] Oper.semAt_some

set_option maxRecDepth 100000 in
set_option maxHeartbeats 6400000 in
theorem setInC_any (n s0 a0 tb : Nat) (w : World) (hG : GoodC n s0 a0) (hT : Tab w tb) :
    Calls Try.prog 58 #[.func (.func 79) #[] #[.pointer (some ⟨tb, 0, none⟩)], .int .i64 (n : Int), .int .i64 (s0 : Int), .int .i64 (a0 : Int)] w fun e w' => (∃ v, e = .returned v ∧ Ow w' w.heap.size 3 v (pL chs n s0 a0)) ∧ Below w.heap.size w w' := by
  obtain ⟨R, hR⟩ : ∃ R : Ending → World → Prop, R = fun e w' => (∃ v, e = .returned v ∧ Ow w' w.heap.size 3 v (pL chs n s0 a0)) ∧ Below w.heap.size w w' := ⟨_, rfl⟩
  rw [← hR]
  have HRR := Lib.hid hR
  have hn := (lensC.rng _ _ _ hG).1
  have HG0 := Lib.hid hG
  have HLN : Hid (∀ x s : Nat, x ≤ 40 → s ≤ 40 → ∀ V, Below w.heap.size w V → Calls Try.prog 79 #[.int .i64 (x : Int), .int .i64 (s : Int), .pointer (some ⟨tb, 0, none⟩)] V fun e w' => e = .returned (.int .i64 ((chs x s : Nat) : Int)) ∧ V = w') := fun x s hx hs V hV => look_any x s tb V hx hs (hT.below hV)
  obtain ⟨i0, hi0, hz0, hz1, hz2⟩ := info_parts Try.infoInt
  have HI0 : Hid (Try.prog.info? 3 = some i0 ∧ i0.zero = some (.int .i64 0) ∧ i0.size = 1 ∧ i0.bytes = 8) := ⟨hi0, hz0, hz1, hz2⟩
  clear hR hG hi0 hz0 hz1 hz2 hT
  refine (callsIn_wide (n := 9)).1 ?_
  refine callsIn_of_wp_marks Try.func58 rfl trivial ?_ rfl
  simp only [Try.ntmps58, List.size_toArray, List.length_cons, List.length_nil, Nat.reduceAdd, Nat.reduceSub, Array.replicate_succ, Array.replicate_zero, List.push_toArray, List.append_toArray, List.nil_append, List.cons_append]
  gi_wp2_with (refine ⟨trivial, ?_⟩; gi_at_call 76; refine (callsIn_wide.2 (down_any _ _)).mono ?_; rintro e w' ⟨rfl, rfl⟩)
  rw [show ((((w.alloc (.cells #[.func (.func 79) #[] #[.pointer (some ⟨tb, 0, none⟩)]] 64)).alloc (.cells #[.int .i64 (s0 : Int)] 3)).alloc (.cells #[.int .i64 (a0 : Int)] 3)).alloc (.cells #[.slice none 0 0] 22)).alloc (.cells #[.int .i64 (n : Int)] 3) = stW w (.func (.func 79) #[] #[.pointer (some ⟨tb, 0, none⟩)]) s0 a0 n from rfl]
  obtain ⟨z0, hb0, q0, q1, q2, q3, q4⟩ := stW_spec w (.func (.func 79) #[] #[.pointer (some ⟨tb, 0, none⟩)]) s0 a0 n
  generalize stW w (.func (.func 79) #[] #[.pointer (some ⟨tb, 0, none⟩)]) s0 a0 n = w0 at z0 hb0 q0 q1 q2 q3 q4 ⊢
  have HZ0 := Lib.hid z0
  have HN := Lib.hid hn
  rw [show w.heap.size + 1 + 1 + 1 + 1 = w.heap.size + 4 from rfl, show w.heap.size + 1 + 1 + 1 = w.heap.size + 3 from rfl, show w.heap.size + 1 + 1 = w.heap.size + 2 from rfl]
  refine down_law (n := 8) (w.heap.size + 4) n (by omega) (by rfl) q4.cell (fun x W => ∃ s a c v, SetI chs GoodC w (.func (.func 79) #[] #[.pointer (some ⟨tb, 0, none⟩)]) n s0 a0 x s a c v W) (SetI.own (by omega)) ⟨s0, a0, [], _, HG0.out, by simp, by simp, by omega, hb0, q0, q1, q2, q3, Ow.nil _ _ _⟩ ?a1 ?assign ?body ?done
  case assign =>
    intro l x W K hK
    gi_wp2
    exact hK
  case body =>
    clear q0 q1 q2 q3 q4 hb0 HRR
    rintro l k W hk ⟨s, a, c, v, hi⟩
    have HI := Lib.hid hi
    have c0 := hi.b0.cell
    have c1 := hi.b1.cell
    have c2 := hi.b2.cell
    have hrg := lensC.rng _ _ _ hi.g
    have hgl := hi.g
    have hbw := hi.below
    clear hi
    have v1 : IntKind.i64.wrap (k : Int) = (k : Int) := IntWalk.i64_in _ (by omega)
    have HBD : Hid (Below w.heap.size w W.drew) := hbw.drew
    have HLE0 := Lib.hid (HLN.out k s (by omega) (by omega))
    have HLE1 : Hid (∀ V, Below w.heap.size w V → Calls Try.prog 79 #[.int .i64 ((k : Int) + 1), .int .i64 (s : Int), .pointer (some ⟨tb, 0, none⟩)] V fun e w' => e = .returned (.int .i64 ((chs (k + 1) s : Nat) : Int)) ∧ V = w') := HLN.out (k + 1) s (by omega) (by omega)
    have hls := lensC.skip _ _ _ hgl
    have hlt := lensC.take _ _ _ hgl
    have hlm := lensC.le (k + 1) s (by omega)
    have hps : pL chs (k + 1) s a = if a < chs k s then pL chs k s a else pL chs k (s - 1) (chs (k + 1) s - 1 - a) ++ [((k + 1 : Nat) : Int)] := rfl
    obtain ⟨hx1, hx2, hx3⟩ := hrg
    clear hgl
    generalize chs (k + 1) s = L1 at HLE1 hlt hps hlm hx3
    generalize chs k s = L0 at HLE0 hls hlt hps
    refine wpIn_block (wpIn_seq (wpIn_seq ?_))
    refine wpIn_region_round (fun V => V.cell? ⟨w.heap.size, 0, none⟩ = some (.func (.func 79) #[] #[.pointer (some ⟨tb, 0, none⟩)]) ∧ V.cell? ⟨w.heap.size + 1, 0, none⟩ = some (.int .i64 (s : Int)) ∧ V.cell? ⟨w.heap.size + 2, 0, none⟩ = some (.int .i64 (a : Int))) (by kernel_rfl) (by rfl) (fun ⟨_, _, h⟩ => by cases h.1) ⟨c0, c1, c2⟩ (fun hHeld => ?_)
    simp only [List.length_cons, List.length_nil, Nat.reduceAdd, Array.replicate_succ, Array.replicate_zero, List.push_toArray, List.nil_append, List.cons_append]
    refine wpAnyH_takeX (i := 0) (v := ?_) (by simp only [↓List.getElem?_toArray, ↓List.getElem?_cons_zero]; rfl) (by kernel_rfl) (by kernel_rfl) (by kernel_rfl) (by assumption) ?_ ?_ ?_
    rotate_left
    · exact fun _ _ _ h => (nomatch h.1)
    · exact Or.inl ⟨by rfl, by (intro V hV; (try dsimp only at hV); go_simp; try with_reducible rfl)⟩
    simp only [Act.put, List.setIfInBounds_toArray, List.set_cons_zero, List.set_cons_succ]
    refine wpAnyH_takeX (i := 1) (v := ?_) (by simp only [↓List.getElem?_toArray, ↓List.getElem?_cons_succ, ↓List.getElem?_cons_zero]; rfl) (by kernel_rfl) (by kernel_rfl) (by kernel_rfl) (by assumption) ?_ ?_ ?_
    rotate_left
    · exact fun _ _ _ h => (nomatch h.1)
    · exact Or.inl ⟨by rfl, by (intro V hV; (try dsimp only at hV); go_simp; try with_reducible rfl)⟩
    simp only [Act.put, List.setIfInBounds_toArray, List.set_cons_zero, List.set_cons_succ]
    refine wpAnyH_takeX (i := 2) (v := ?_) (by simp only [↓List.getElem?_toArray, ↓List.getElem?_cons_succ, ↓List.getElem?_cons_zero]; rfl) (by kernel_rfl) (by kernel_rfl) (by kernel_rfl) (by assumption) ?_ ?_ ?_
    rotate_left
    · exact fun _ _ _ h => (nomatch h.1)
    · exact Or.inl ⟨by rfl, by (intro V hV; (try dsimp only at hV); go_simp; try with_reducible rfl)⟩
    simp only [Act.put, List.setIfInBounds_toArray, List.set_cons_zero, List.set_cons_succ]
    refine wpAnyH_takeX (i := 3) (v := ?_) (by simp only [↓List.getElem?_toArray, ↓List.getElem?_cons_succ, ↓List.getElem?_cons_zero]; rfl) (by kernel_rfl) (by kernel_rfl) (by kernel_rfl) (by assumption) ?_ ?_ ?_
    rotate_left
    · exact fun _ _ _ h => (nomatch h.1)
    · exact Or.inl ⟨by rfl, by (intro V hV; (try dsimp only at hV); go_simp; try with_reducible rfl)⟩
    simp only [Act.put, List.setIfInBounds_toArray, List.set_cons_zero, List.set_cons_succ]
    refine wpAnyH_takeX (i := 4) (v := ?_) (by simp only [↓List.getElem?_toArray, ↓List.getElem?_cons_succ, ↓List.getElem?_cons_zero]; rfl) (by kernel_rfl) (by kernel_rfl) (by kernel_rfl) (by assumption) ?_ ?_ ?_
    rotate_left
    · exact fun _ _ _ h => (nomatch h.1)
    · exact Or.inl ⟨by rfl, by (intro V hV; (try dsimp only at hV); go_simp; try with_reducible rfl)⟩
    simp only [Act.put, List.setIfInBounds_toArray, List.set_cons_zero, List.set_cons_succ]
    refine wpAnyH_ready (rs := [5]) (by kernel_rfl) (by simp) ?_
    refine AllReadyH.cons rfl (fun K hK => ?_) ?_
    · go_simp
      go_wp2_with (go_at_call 79; (with_reducible refine (HLE0.out _ HBD.out).mono ?_); rintro e v1 ⟨rfl, rfl⟩)
      refine hK.out _ _ (by assumption) (fun hHeld => ?_)
      clear hK K
      try simp only [List.setIfInBounds_toArray, List.set_cons_zero, List.set_cons_succ]
      refine wpAnyH_takeX (i := 6) (v := ?_) (by simp only [↓List.getElem?_toArray, ↓List.getElem?_cons_succ, ↓List.getElem?_cons_zero]; rfl) (by kernel_rfl) (by kernel_rfl) (by kernel_rfl) (by assumption) ?_ ?_ ?_
      rotate_left
      · exact fun _ _ _ h => (nomatch h.1)
      · exact Or.inl ⟨by rfl, by (intro V hV; (try dsimp only at hV); go_simp; try with_reducible rfl)⟩
      simp only [Act.put, List.setIfInBounds_toArray, List.set_cons_zero, List.set_cons_succ]
      refine wpAnyH_done (by kernel_rfl) ?_ _
      by_cases hcase : a < L0
      · have d0 : decide ((a : Int) < (L0 : Int)) = true := decide_eq_true (by omega)
        have d1 : decide (a < L0) = true := decide_eq_true hcase
        have HG2 := Lib.hid (hls hcase)
        rw [if_pos hcase] at hps
        have HPS := Lib.hid hps
        clear hps hls hlt
        simp only [d1]
        gi_wp2
        have hi := HI.out
        exact ⟨trivial, KeepsOthers.drew _, s, a, c, v, HG2.out, by rw [hi.eq, HPS.out], by have := hi.len; omega, hi.size, hi.below.drew, hi.b0, hi.b1, hi.b2, hi.b3, hi.ow⟩
      · have d0 : decide ((a : Int) < (L0 : Int)) = false := decide_eq_false (by omega)
        have d1 : decide (a < L0) = false := decide_eq_false hcase
        rw [if_neg hcase] at hps
        obtain ⟨hs1, hg2⟩ := hlt hcase
        obtain ⟨a2, ha2⟩ : ∃ a2, a2 = L1 - 1 - a := ⟨_, rfl⟩
        rw [← ha2] at hg2 hps
        have HPS := Lib.hid hps
        have HG2 := Lib.hid hg2
        have HA2 := Lib.hid ha2
        clear hg2 ha2 hps hls hlt
        simp only [d1]
        obtain ⟨V1, hV1⟩ : ∃ V1, V1 = dirW W.drew.drew (L1 : Int) true := ⟨_, rfl⟩
        have hdc := dirW_cells W.drew.drew (L1 : Int) true
        have hdb := dirW_below W.drew.drew (L1 : Int) true
        have hdk := dirW_others W.drew.drew (L1 : Int) true
        have HDIR : Hid (Calls Try.prog 77 #[.int .i64 (L1 : Int), .bool true] W.drew.drew fun e w' => e = .returned (.func (.func 89) #[] #[.pointer (some ⟨W.heap.size + 1, 0, none⟩), .pointer (some ⟨W.heap.size, 0, none⟩)]) ∧ w' = V1) :=
          (direction_any _ _ _).mono fun e w' he => ⟨he.1, by rw [he.2, hV1]⟩
        rw [← hV1] at hdc hdb hdk
        clear hV1
        have HCL : Hid (Calls Try.prog 89 #[.int .i64 (a : Int), .pointer (some ⟨W.heap.size + 1, 0, none⟩), .pointer (some ⟨W.heap.size, 0, none⟩)] V1 fun e w' => e = .returned (.int .i64 (a2 : Int)) ∧ V1 = w') := by
          have := dirc_any L1 a W.heap.size true V1 (by omega) hx3 hdc.1 hdc.2
          rw [dirN, if_pos rfl, ← HA2.out] at this
          exact this
        have hi := HI.out
        have hsz := hi.size
        have g0 := boxed_below (w := W.drew.drew) hi.b0 hdb (by show w.heap.size < W.heap.size; omega)
        have g1 := boxed_below (w := W.drew.drew) hi.b1 hdb (by show w.heap.size + 1 < W.heap.size; omega)
        have g2 := boxed_below (w := W.drew.drew) hi.b2 hdb (by show w.heap.size + 2 < W.heap.size; omega)
        have g3 := boxed_below (w := W.drew.drew) hi.b3 hdb (by show w.heap.size + 3 < W.heap.size; omega)
        have hov : Ow V1 (w.heap.size + 5) 3 v c := Ow.below (w := W.drew.drew) hi.ow hdb (Nat.le_refl _)
        have hbv : Below w.heap.size w V1 := hi.below.drew.drew.trans (hdb.mono (by show w.heap.size ≤ W.heap.size; omega))
        have e0 := g0.cell
        have e1 := g1.cell
        have e2 := g2.cell
        have f2 := g2.frozen
        have HE01 := Lib.hid (And.intro e0 e1)
        have hzv : w.heap.size + 5 ≤ V1.heap.size := Nat.le_trans hsz hdb.size
        have HS01 : Hid ((V1.setCell ⟨w.heap.size + 2, 0, none⟩ (.int .i64 (a2 : Int))).cell? ⟨w.heap.size, 0, none⟩ = some (.func (.func 79) #[] #[.pointer (some ⟨tb, 0, none⟩)]) ∧ (V1.setCell ⟨w.heap.size + 2, 0, none⟩ (.int .i64 (a2 : Int))).cell? ⟨w.heap.size + 1, 0, none⟩ = some (.int .i64 (s : Int))) :=
          ⟨(boxed_setO g0 (by omega) _).cell, (boxed_setO g1 (by omega) _).cell⟩
        have HK1 : Hid (KeepsOthers W V1) := ((KeepsOthers.drew W).trans (KeepsOthers.drew _)).trans hdk
        have G0 := Lib.hid g0
        have G1 := Lib.hid g1
        have G2 := Lib.hid g2
        have G3 := Lib.hid g3
        have HOV := Lib.hid hov
        have HBV := Lib.hid hbv
        have HZV := Lib.hid hzv
        clear hdc hdb hdk hi g0 g1 g2 g3 hov hbv hzv
        have HBD2 : Hid (Below w.heap.size w W.drew.drew) := HBD.out.drew
        simp only [Exit.then]
        refine wpIn_cond_false rfl (wpIn_skip ?_)
        simp only [Exit.then]
        refine wpIn_seq (wpIn_mono (Q := fun e a' W' => e = .normal ∧ W' = V1.setCell ⟨w.heap.size + 2, 0, none⟩ (.int .i64 (a2 : Int)) ∧ ∃ u14 u15 u16 u17 u18 u19 u20 u21 u22 u23 u24 u25 u26 u27, a' = { tmps := #[.func (.func 79) #[] #[.pointer (some ⟨tb, 0, none⟩)], .int .i64 (n : Int), .int .i64 (s0 : Int), .int .i64 (a0 : Int), .pointer (some ⟨w.heap.size, 0, none⟩), undef, .pointer (some ⟨w.heap.size + 1, 0, none⟩), .pointer (some ⟨w.heap.size + 2, 0, none⟩), .slice none 0 0, .pointer (some ⟨w.heap.size + 3, 0, none⟩), .int .i64 ((k + 1 : Nat) : Int), .int .i64 (n : Int), .func (.func 88) #[] #[.pointer (some ⟨w.heap.size + 4, 0, none⟩)], .int .i64 ((k + 1 : Nat) : Int), u14, u15, u16, u17, u18, u19, u20, u21, u22, u23, u24, u25, u26, u27, undef, undef, undef, undef, undef, undef, undef, undef, undef], defers := [] }) ?r5 ?_)
        case r5 =>
          refine wpIn_region_round (fun V => V.cell? ⟨w.heap.size, 0, none⟩ = some (.func (.func 79) #[] #[.pointer (some ⟨tb, 0, none⟩)]) ∧ V.cell? ⟨w.heap.size + 1, 0, none⟩ = some (.int .i64 (s : Int))) (by kernel_rfl) (by rfl) (fun ⟨_, _, h⟩ => by cases h.1) ⟨c0, c1⟩ (fun hHeld => ?_)
          simp only [List.length_cons, List.length_nil, Nat.reduceAdd, Array.replicate_succ, Array.replicate_zero, List.push_toArray, List.nil_append, List.cons_append]
          refine wpAnyH_takeX (i := 0) (v := ?_) (by simp only [↓List.getElem?_toArray, ↓List.getElem?_cons_zero]; rfl) (by kernel_rfl) (by kernel_rfl) (by kernel_rfl) (by assumption) ?_ ?_ ?_
          rotate_left
          · exact fun _ _ _ h => (nomatch h.1)
          · exact Or.inl ⟨by rfl, by (intro V hV; (try dsimp only at hV); go_simp; try with_reducible rfl)⟩
          simp only [Act.put, List.setIfInBounds_toArray, List.set_cons_zero, List.set_cons_succ]
          refine wpAnyH_takeX (i := 1) (v := ?_) (by simp only [↓List.getElem?_toArray, ↓List.getElem?_cons_succ, ↓List.getElem?_cons_zero]; rfl) (by kernel_rfl) (by kernel_rfl) (by kernel_rfl) (by assumption) ?_ ?_ ?_
          rotate_left
          · exact fun _ _ _ h => (nomatch h.1)
          · exact Or.inl ⟨by rfl, by (intro V hV; (try dsimp only at hV); go_simp; try with_reducible rfl)⟩
          simp only [Act.put, List.setIfInBounds_toArray, List.set_cons_zero, List.set_cons_succ]
          refine wpAnyH_takeX (i := 2) (v := ?_) (by simp only [↓List.getElem?_toArray, ↓List.getElem?_cons_succ, ↓List.getElem?_cons_zero]; rfl) (by kernel_rfl) (by kernel_rfl) (by kernel_rfl) (by assumption) ?_ ?_ ?_
          rotate_left
          · exact fun _ _ _ h => (nomatch h.1)
          · exact Or.inl ⟨by rfl, by (intro V hV; (try dsimp only at hV); go_simp; try with_reducible rfl)⟩
          simp only [Act.put, List.setIfInBounds_toArray, List.set_cons_zero, List.set_cons_succ]
          refine wpAnyH_ready (rs := [3, 5]) (by kernel_rfl) (by simp) ?_
          refine AllReadyH.cons rfl (fun K hK => ?_) ?_
          · go_simp
            go_wp2_with (go_at_call 79; (with_reducible refine (HLE1.out _ HBD2.out).mono ?_); rintro e v1 ⟨rfl, rfl⟩)
            refine hK.out _ _ (by assumption) (fun hHeld => ?_)
            clear hK K
            try simp only [List.setIfInBounds_toArray, List.set_cons_zero, List.set_cons_succ]
            refine wpAnyH_ready (rs := [4, 5]) (by kernel_rfl) (by simp) ?_
            refine AllReadyH.cons rfl (fun K hK => ?_) ?_
            · go_simp
              go_wp2_with (go_at_call 77; (with_reducible refine HDIR.out.mono ?_); rintro e v1 ⟨rfl, rfl⟩)
              refine hK.out _ _ HE01.out (fun hHeld => ?_)
              clear hK K
              try simp only [List.setIfInBounds_toArray, List.set_cons_zero, List.set_cons_succ]
              refine wpAnyH_ready (rs := [5]) (by kernel_rfl) (by simp) ?_
              refine AllReadyH.cons rfl (fun K hK => ?_) ?_
              · go_simp
                refine hK.out _ _ (by assumption) (fun hHeld => ?_)
                clear hK K
                try simp only [List.setIfInBounds_toArray, List.set_cons_zero, List.set_cons_succ]
                refine wpAnyH_ready (rs := [6]) (by kernel_rfl) (by simp) ?_
                refine AllReadyH.cons rfl (fun K hK => ?_) ?_
                · go_simp
                  go_wp2_with (go_at_call 89; (with_reducible refine HCL.out.mono ?_); rintro e v1 ⟨rfl, rfl⟩)
                  refine hK.out _ _ (by assumption) (fun hHeld => ?_)
                  clear hK K
                  try simp only [List.setIfInBounds_toArray, List.set_cons_zero, List.set_cons_succ]
                  refine wpAnyH_ready (rs := [7]) (by kernel_rfl) (by simp) ?_
                  refine AllReadyH.cons rfl (fun K hK => ?_) ?_
                  · go_simp
                    refine hK.out _ _ HS01.out (fun hHeld => ?_)
                    clear hK K
                    try simp only [List.setIfInBounds_toArray, List.set_cons_zero, List.set_cons_succ]
                    refine wpAnyH_done (by kernel_rfl) ?_ _
                    exact ⟨rfl, rfl, _, _, _, _, _, _, _, _, _, _, _, _, _, _, rfl⟩
                  exact AllReadyH.nil
                exact AllReadyH.nil
              exact AllReadyH.nil
            refine AllReadyH.cons rfl (fun K hK => ?_) ?_
            · go_simp
              refine hK.out _ _ (by assumption) (fun hHeld => ?_)
              clear hK K
              try simp only [List.setIfInBounds_toArray, List.set_cons_zero, List.set_cons_succ]
              refine wpAnyH_ready (rs := [4]) (by kernel_rfl) (by simp) ?_
              refine AllReadyH.cons rfl (fun K hK => ?_) ?_
              · go_simp
                go_wp2_with (go_at_call 77; (with_reducible refine HDIR.out.mono ?_); rintro e v1 ⟨rfl, rfl⟩)
                refine hK.out _ _ HE01.out (fun hHeld => ?_)
                clear hK K
                try simp only [List.setIfInBounds_toArray, List.set_cons_zero, List.set_cons_succ]
                refine wpAnyH_ready (rs := [6]) (by kernel_rfl) (by simp) ?_
                refine AllReadyH.cons rfl (fun K hK => ?_) ?_
                · go_simp
                  go_wp2_with (go_at_call 89; (with_reducible refine HCL.out.mono ?_); rintro e v1 ⟨rfl, rfl⟩)
                  refine hK.out _ _ (by assumption) (fun hHeld => ?_)
                  clear hK K
                  try simp only [List.setIfInBounds_toArray, List.set_cons_zero, List.set_cons_succ]
                  refine wpAnyH_ready (rs := [7]) (by kernel_rfl) (by simp) ?_
                  refine AllReadyH.cons rfl (fun K hK => ?_) ?_
                  · go_simp
                    refine hK.out _ _ HS01.out (fun hHeld => ?_)
                    clear hK K
                    try simp only [List.setIfInBounds_toArray, List.set_cons_zero, List.set_cons_succ]
                    refine wpAnyH_done (by kernel_rfl) ?_ _
                    exact ⟨rfl, rfl, _, _, _, _, _, _, _, _, _, _, _, _, _, _, rfl⟩
                  exact AllReadyH.nil
                exact AllReadyH.nil
              exact AllReadyH.nil
            exact AllReadyH.nil
          refine AllReadyH.cons rfl (fun K hK => ?_) ?_
          · go_simp
            refine hK.out _ _ (by assumption) (fun hHeld => ?_)
            clear hK K
            try simp only [List.setIfInBounds_toArray, List.set_cons_zero, List.set_cons_succ]
            refine wpAnyH_ready (rs := [3]) (by kernel_rfl) (by simp) ?_
            refine AllReadyH.cons rfl (fun K hK => ?_) ?_
            · go_simp
              go_wp2_with (go_at_call 79; (with_reducible refine (HLE1.out _ HBD2.out).mono ?_); rintro e v1 ⟨rfl, rfl⟩)
              refine hK.out _ _ (by assumption) (fun hHeld => ?_)
              clear hK K
              try simp only [List.setIfInBounds_toArray, List.set_cons_zero, List.set_cons_succ]
              refine wpAnyH_ready (rs := [4]) (by kernel_rfl) (by simp) ?_
              refine AllReadyH.cons rfl (fun K hK => ?_) ?_
              · go_simp
                go_wp2_with (go_at_call 77; (with_reducible refine HDIR.out.mono ?_); rintro e v1 ⟨rfl, rfl⟩)
                refine hK.out _ _ HE01.out (fun hHeld => ?_)
                clear hK K
                try simp only [List.setIfInBounds_toArray, List.set_cons_zero, List.set_cons_succ]
                refine wpAnyH_ready (rs := [6]) (by kernel_rfl) (by simp) ?_
                refine AllReadyH.cons rfl (fun K hK => ?_) ?_
                · go_simp
                  go_wp2_with (go_at_call 89; (with_reducible refine HCL.out.mono ?_); rintro e v1 ⟨rfl, rfl⟩)
                  refine hK.out _ _ (by assumption) (fun hHeld => ?_)
                  clear hK K
                  try simp only [List.setIfInBounds_toArray, List.set_cons_zero, List.set_cons_succ]
                  refine wpAnyH_ready (rs := [7]) (by kernel_rfl) (by simp) ?_
                  refine AllReadyH.cons rfl (fun K hK => ?_) ?_
                  · go_simp
                    refine hK.out _ _ HS01.out (fun hHeld => ?_)
                    clear hK K
                    try simp only [List.setIfInBounds_toArray, List.set_cons_zero, List.set_cons_succ]
                    refine wpAnyH_done (by kernel_rfl) ?_ _
                    exact ⟨rfl, rfl, _, _, _, _, _, _, _, _, _, _, _, _, _, _, rfl⟩
                  exact AllReadyH.nil
                exact AllReadyH.nil
              exact AllReadyH.nil
            exact AllReadyH.nil
          exact AllReadyH.nil
        rintro e a' W3 ⟨rfl, rfl, u14, u15, u16, u17, u18, u19, u20, u21, u22, u23, u24, u25, u26, u27, rfl⟩
        clear e0 e1 e2 f2 c0 c1 c2 HE01 HS01 HDIR HCL
        have G2' : Hid (Boxed (V1.setCell ⟨w.heap.size + 2, 0, none⟩ (.int .i64 (a2 : Int))) (w.heap.size + 2) 3 (.int .i64 (a2 : Int))) := G2.out.set _
        have G0' : Hid (Boxed (V1.setCell ⟨w.heap.size + 2, 0, none⟩ (.int .i64 (a2 : Int))) w.heap.size 64 (.func (.func 79) #[] #[.pointer (some ⟨tb, 0, none⟩)])) := boxed_setO G0.out (by omega) _
        have g1' : Boxed (V1.setCell ⟨w.heap.size + 2, 0, none⟩ (.int .i64 (a2 : Int))) (w.heap.size + 1) 3 (.int .i64 (s : Int)) := boxed_setO G1.out (by omega) _
        have g3' : Boxed (V1.setCell ⟨w.heap.size + 2, 0, none⟩ (.int .i64 (a2 : Int))) (w.heap.size + 3) 22 v := boxed_setO G3.out (by omega) _
        have HOV' : Hid (Ow (V1.setCell ⟨w.heap.size + 2, 0, none⟩ (.int .i64 (a2 : Int))) (w.heap.size + 5) 3 v c) := Ow.setBelow HOV.out (a := ⟨w.heap.size + 2, 0, none⟩) (by show w.heap.size + 2 < w.heap.size + 5; omega) _
        have c1' := g1'.cell
        have f1' := g1'.frozen
        have HZ3 : Hid (w.heap.size + 5 ≤ (V1.setCell ⟨w.heap.size + 2, 0, none⟩ (.int .i64 (a2 : Int))).heap.size) := Nat.le_trans HZV.out (KeepsWalks.setCell V1 _ _).size
        have HB3 : Hid (Below w.heap.size w (V1.setCell ⟨w.heap.size + 2, 0, none⟩ (.int .i64 (a2 : Int)))) := HBV.out.setCell (p := ⟨w.heap.size + 2, 0, none⟩) (by show w.heap.size ≤ w.heap.size + 2; omega) _
        have HK3 : Hid (KeepsOthers W (V1.setCell ⟨w.heap.size + 2, 0, none⟩ (.int .i64 (a2 : Int)))) := HK1.out.trans (KeepsOthers.setCell _ _ _)
        have G1' := Lib.hid g1'
        have G3' := Lib.hid g3'
        clear g1' g3'
        generalize V1.setCell ⟨w.heap.size + 2, 0, none⟩ (.int .i64 (a2 : Int)) = W3 at c1' f1' HZ3 HB3 HK3 G1' G3' HOV' G2' G0' ⊢
        obtain ⟨s2, hs2⟩ : ∃ s2, s2 = s - 1 := ⟨_, rfl⟩
        rw [← hs2] at HPS HG2
        have v2 : IntKind.i64.wrap ((s : Int) - 1) = (s2 : Int) := by rw [show (s : Int) - 1 = (s2 : Int) by omega]; exact IntWalk.i64_in _ (by omega)
        dsimp only [Exit.then]
        refine wpIn_seq (wpIn_mono (Q := fun e a' W' => e = .normal ∧ W' = W3.setCell ⟨w.heap.size + 1, 0, none⟩ (.int .i64 (s2 : Int)) ∧ ∃ u14 u15 u16 u17 u18 u19 u20 u21 u22 u23 u24 u25 u26 u27 u28 u29, a' = { tmps := #[.func (.func 79) #[] #[.pointer (some ⟨tb, 0, none⟩)], .int .i64 (n : Int), .int .i64 (s0 : Int), .int .i64 (a0 : Int), .pointer (some ⟨w.heap.size, 0, none⟩), undef, .pointer (some ⟨w.heap.size + 1, 0, none⟩), .pointer (some ⟨w.heap.size + 2, 0, none⟩), .slice none 0 0, .pointer (some ⟨w.heap.size + 3, 0, none⟩), .int .i64 ((k + 1 : Nat) : Int), .int .i64 (n : Int), .func (.func 88) #[] #[.pointer (some ⟨w.heap.size + 4, 0, none⟩)], .int .i64 ((k + 1 : Nat) : Int), u14, u15, u16, u17, u18, u19, u20, u21, u22, u23, u24, u25, u26, u27, u28, u29, undef, undef, undef, undef, undef, undef, undef], defers := [] }) ?r6 ?_)
        case r6 =>
          gi_wp2
        rintro e a' W4 ⟨rfl, rfl, u14, u15, u16, u17, u18, u19, u20, u21, u22, u23, u24, u25, u26, u27, u28, u29, rfl⟩
        clear c1' f1'
        have H1 : Hid (Boxed (W3.setCell ⟨w.heap.size + 1, 0, none⟩ (.int .i64 (s2 : Int))) (w.heap.size + 1) 3 (.int .i64 (s2 : Int))) := G1'.out.set _
        have H0 : Hid (Boxed (W3.setCell ⟨w.heap.size + 1, 0, none⟩ (.int .i64 (s2 : Int))) w.heap.size 64 (.func (.func 79) #[] #[.pointer (some ⟨tb, 0, none⟩)])) := boxed_setO G0'.out (by omega) _
        have H2 : Hid (Boxed (W3.setCell ⟨w.heap.size + 1, 0, none⟩ (.int .i64 (s2 : Int))) (w.heap.size + 2) 3 (.int .i64 (a2 : Int))) := boxed_setO G2'.out (by omega) _
        have h3 : Boxed (W3.setCell ⟨w.heap.size + 1, 0, none⟩ (.int .i64 (s2 : Int))) (w.heap.size + 3) 22 v := boxed_setO G3'.out (by omega) _
        have HO4 : Hid (Ow (W3.setCell ⟨w.heap.size + 1, 0, none⟩ (.int .i64 (s2 : Int))) (w.heap.size + 5) 3 v c) := Ow.setBelow HOV'.out (a := ⟨w.heap.size + 1, 0, none⟩) (by show w.heap.size + 1 < w.heap.size + 5; omega) _
        have HZ4 : Hid (w.heap.size + 5 ≤ (W3.setCell ⟨w.heap.size + 1, 0, none⟩ (.int .i64 (s2 : Int))).heap.size) := Nat.le_trans HZ3.out (KeepsWalks.setCell W3 _ _).size
        have HB4 : Hid (Below w.heap.size w (W3.setCell ⟨w.heap.size + 1, 0, none⟩ (.int .i64 (s2 : Int)))) := HB3.out.setCell (p := ⟨w.heap.size + 1, 0, none⟩) (by show w.heap.size ≤ w.heap.size + 1; omega) _
        have HK4 : Hid (KeepsOthers W (W3.setCell ⟨w.heap.size + 1, 0, none⟩ (.int .i64 (s2 : Int)))) := HK3.out.trans (KeepsOthers.setCell _ _ _)
        have H3 := Lib.hid h3
        have c3 := h3.cell
        clear h3 HZ3 HB3 HK3 G0' G1' G2' G3' HOV' HOV G0 G1 G2 G3 HBV HZV HK1 HBD HBD2
        generalize W3.setCell ⟨w.heap.size + 1, 0, none⟩ (.int .i64 (s2 : Int)) = W4 at c3 HZ4 HB4 HK4 H0 H1 H2 H3 HO4 ⊢
        have hcl := HI.out.len
        dsimp only [Exit.then]
        gi_wp2_with (gi_at_builtin; refine wpListIn_append_own _ rfl _ _ 22 rfl (w.heap.size + 5) 3 i0 (.int .i64 0) 1 8 Try.underlying22 HI0.out.1 HI0.out.2.1 HI0.out.2.2.1 HI0.out.2.2.2 rfl (by decide) v c.length (ints c) rfl (HO4.out.alloc _) ⟨W4.heap.size, 0, none⟩ 1 1 [.int .i64 ((k + 1 : Nat) : Int)] rfl rfl (cell_one_new _ _ _) (by simp [Value.oneCell']) (by unfold maxLen; omega) (by omega) (by have := HZ4.out; simp; omega) ?_; intro v' w1 hown' hgrow _; obtain ⟨g', cap', rfl⟩ := ownsRow_succ hown'; have HOW' := Lib.hid hown'; have HGR := Lib.hid hgrow; have c3' := ((H3.out.alloc _).kept hgrow (fun e => by have := (HO4.out.lt e.symm).1; omega)).cell; have f3' := ((H3.out.alloc _).kept hgrow (fun e => by have := (HO4.out.lt e.symm).1; omega)).frozen; clear hown' hgrow c3)
        have hne : ∀ j, j < 5 → some (w.heap.size + j) ≠ v.ownBlock := fun j hj e => by have := (HO4.out.lt e.symm).1; omega
        have o1 : Ow w1 (w.heap.size + 5) 3 (.slice (some ⟨g', 0, none⟩) (c.length + 1) cap') (c ++ [((k + 1 : Nat) : Int)]) := by
          have := HOW'.out
          unfold Ow
          rw [List.length_append, List.length_singleton, ints, List.map_append]
          exact this
        have hk1 := grown_others (HO4.out.alloc _) HGR.out
        have hsz1 : w.heap.size + 5 ≤ w1.heap.size := Nat.le_trans (Nat.le_trans HZ4.out (by simp)) HGR.out.size
        refine ⟨trivial, ((HK4.out.trans (KeepsOthers.alloc _ _)).trans hk1).trans (KeepsOthers.setCell _ _ _), s2, a2, c ++ [((k + 1 : Nat) : Int)], .slice (some ⟨g', 0, none⟩) (c.length + 1) cap', HG2.out, ?_, ?_, Nat.le_trans hsz1 (KeepsWalks.setCell w1 _ _).size, ?_, ?_, ?_, ?_, ?_, ?_⟩
        · rw [HI.out.eq, HPS.out, List.reverse_append, List.reverse_singleton, List.append_assoc]
        · rw [List.length_append, List.length_singleton]; omega
        · exact ((HB4.out.alloc HB4.out.size _).grown HGR.out (by have := HZ4.out; simp; omega) (fun b e => Nat.le_trans (Nat.le_add_right _ 5) (HO4.out.lt e).1)).setCell (p := ⟨w.heap.size + 3, 0, none⟩) (by show w.heap.size ≤ w.heap.size + 3; omega) _
        · exact boxed_setO ((H0.out.alloc _).kept HGR.out (hne 0 (by omega))) (by omega) _
        · exact boxed_setO ((H1.out.alloc _).kept HGR.out (hne 1 (by omega))) (by omega) _
        · exact boxed_setO ((H2.out.alloc _).kept HGR.out (hne 2 (by omega))) (by omega) _
        · exact ((H3.out.alloc _).kept HGR.out (hne 3 (by omega))).set _
        · exact Ow.setBelow o1 (a := ⟨w.heap.size + 3, 0, none⟩) (by show w.heap.size + 3 < w.heap.size + 5; omega) _
    exact AllReadyH.nil
  case done =>
    clear q0 q1 q2 q3 q4 hb0
    rintro D W hD ⟨s, a, c, v, hi⟩ hd
    have HI := Lib.hid hi
    have c3 := hi.b3.cell
    have hlc := hi.len
    have HRV := Lib.hid (reverse_any c v (w.heap.size + 5) W hi.ow (by omega))
    have HD : Hid (w.heap.size ≤ D) := by rw [Hid]; omega
    have HDD := Lib.hid hd
    clear hi hd hlc
    gi_wp2_with (refine ⟨trivial, ?_⟩; gi_at_call 78; refine (callsIn_wide.2 HRV.out).mono ?_; rintro e W2 ⟨rfl, ho2, hg2⟩; have c3' := (HI.out.b3.kept hg2 (fun e => by have := (HI.out.ow.lt e.symm).1; omega)).cell; have HO2 := Lib.hid ho2; have HG2 := Lib.hid hg2; clear ho2 hg2 c3)
    have hd2 : W2.heap[D]? = some (.deferred (some [])) := (grown_others HI.out.ow HG2.out).same D _ HDD.out rfl
    refine ⟨by simp, .inl ⟨_, _, rfl, run_takeDeferred hd2, ?_⟩⟩
    refine ⟨_, results_tmp rfl _ _ _, ?_⟩
    rw [HRR.out]
    have hq := HI.out.eq
    rw [pL, List.nil_append] at hq
    refine ⟨⟨_, rfl, ?_⟩, ?_⟩
    · rw [hq]
      exact Ow.base (ownsRow_putObj HO2.out _ hd2 rfl) (by omega)
    · exact (HI.out.below.grown HG2.out HI.out.below.size (fun b e => Nat.le_trans (Nat.le_add_right _ 5) (HI.out.ow.lt e).1)).trans (below_putO _ HD.out _)
end Go.Proofs.Ytfeohcknopdamaa
