import Derived.Test.YtmnnehpoaedifaaJ30
import Derived.Test.YtmnnehpoaedifaaJ27
import Derived.WalkSpells
/- The promise of Stacks. -/
namespace Go.Proofs.Ytmnnehpoaedifaa
open Go.RowKit Go.Maps
set_option linter.unusedVariables false

theorem Ow2.sl {w : World} {B e : Nat} {v : Value} {ps : List (Nat × Nat)} {L : Nat} (h : Ow2 w B e v ps) (hL : ps.length = L) : ∃ A c, v = .slice A L c := by
  subst hL
  rcases h.2 with ⟨h1, e0⟩ | ⟨g, cap, cur, rfl, _⟩
  · have : ps.length = 0 := e0
    exact ⟨none, 0, by rw [this]; exact h1⟩
  · exact ⟨_, cap, rfl⟩
/-- The sides after j rounds. -/
def colL (C : Nat → Option Nat) (n j : Nat) : List Int := (List.range n).map fun i => if i < j then (((C i).getD 0 : Nat) : Int) else 0
theorem colL_len (C : Nat → Option Nat) (n j : Nat) : (colL C n j).length = n := by simp [colL]
theorem colL_zero (C : Nat → Option Nat) (n : Nat) : colL C n 0 = List.replicate n 0 := by
  refine List.ext_getElem (by simp [colL]) fun i h1 h2 => ?_
  simp [colL]
theorem colL_step (C : Nat → Option Nat) (n j : Nat) (hj : j < n) : (colL C n j).set j (((C j).getD 0 : Nat) : Int) = colL C n (j + 1) := by
  refine List.ext_getElem (by simp [colL]) fun i h1 h2 => ?_
  rw [List.getElem_set]
  simp only [colL, List.getElem_map, List.getElem_range]
  by_cases e : j = i
  · subst e; simp
  · rw [if_neg e]
    by_cases h : i < j
    · rw [if_pos h, if_pos (by omega)]
    · rw [if_neg h, if_neg (by omega)]
theorem colL_at (C : Nat → Option Nat) (n i : Nat) (hi : i < n) : (colL C n n)[i]?.getD 0 = (((C i).getD 0 : Nat) : Int) := by
  unfold colL
  rw [List.getElem?_map, List.getElem?_range hi]
  simp [hi]
theorem sides_of_col {o : List Int} {n : Nat} {C : Nat → Option Nat} (ho : ordB o 60 = true) (hl : o.length = n) (h : DInv (cfB o) n C []) (hall : ∀ k, k < n → C k ≠ none) : sidesB o (colL C n n) = true := by
  subst hl
  have hc : ∀ i, i < o.length → ∃ c, C i = some c ∧ c ≤ 1 := fun i hi => by
    cases hci : C i with
    | none => exact absurd hci (hall i hi)
    | some c => exact ⟨c, rfl, (h.dom i c hci).2⟩
  refine sides_of_proper ho (colL_len _ _ _) (fun i hi => ?_) (fun a b hab => ?_)
  · rw [colL_at _ _ _ hi]
    obtain ⟨c, h1, h2⟩ := hc i hi
    rw [h1]
    show (c : Int) = 0 ∨ (c : Int) = 1
    omega
  · have hcf : cfB o a b = true := (confB_iff hab.1).2 hab
    obtain ⟨h1, c', _, h4, h5, _⟩ := hab
    have ha : a < o.length := by omega
    have hb : b < o.length := by omega
    rw [colL_at _ _ _ ha, colL_at _ _ _ hb]
    obtain ⟨c, k1, k2⟩ := hc a ha
    have := h.done a c k1 (by simp) b hb ⟨by omega, by rw [Nat.min_eq_left (by omega), Nat.max_eq_right (by omega)]; exact hcf⟩
    rw [k1, this]
    show ¬ ((c : Int) = ((1 - c : Nat) : Int))
    omega

set_option maxHeartbeats 3200000 in
theorem stacks_ok : StacksOk := by
  intro A n c o w hs
  have H1 := Lib.hid (isOrder_any A n c o w hs)
  have HS := Lib.hid hs; clear hs
  cases ho : ordB o 60 with
  | false =>
    rw [ho] at H1
    have HO := Lib.hid ho; clear ho
    go_enter Try.func32, Try.ntmps32
    go_wp2_with (go_at_call 52; refine H1.out.mono ?_; clear H1; rintro e w1 ⟨rfl, hb1⟩)
    go_ret3
    exact ⟨_, _, _, [], [], rfl, Ow.nil _ _ _, Ow.nil _ _ _, by simp, by simp, fun _ => ⟨rfl, rfl, rfl⟩, fun h => (by cases h), fun h => (by cases h), hb1⟩
  | true =>
    rw [ho] at H1
    obtain ⟨hord, h60⟩ := ordB_iff.1 ho
    have hlen := HS.out.len
    have hn : n ≤ 60 := by omega
    clear h60
    have HORD := Lib.hid hord; clear hord
    have HO := Lib.hid ho; clear ho
    obtain ⟨L, hL⟩ : ∃ L, (confAll o n).length = L := ⟨_, rfl⟩
    have HCC : Hid (∀ W, Below w.heap.size w W → Calls Try.prog 66 #[.slice A n c] W fun e w' => ∃ A2 c2, e = .returned (.slice A2 L c2) ∧ Ow2 w' w.heap.size 50 (.slice A2 L c2) (confAll o n) ∧ Below w.heap.size w w') := fun W h =>
      (conflicts2_any A n c o W (HS.out.below h (Nat.le_refl _)) (by omega) HORD.out).mono fun e w' ⟨v, he, hv, hb⟩ => by
        obtain ⟨A2, c2, rfl⟩ := hv.sl hL
        exact ⟨A2, c2, he, World.ownsRow.mono hv h.size, h.trans (hb.mono h.size)⟩
    have HCO : Hid (∀ (A2 : Option Addr) (c2 : Nat) W, Below w.heap.size w W → Ow2 W w.heap.size 50 (.slice A2 L c2) (confAll o n) → Calls Try.prog 65 #[.int .i64 n, .slice A2 L c2] W (ColPost o n W)) := fun A2 c2 W h h2 => colour_any o n hlen hn A2 L c2 _ _ W h2 hL
    clear hL
    obtain ⟨i0, hi, hz0, hz1, hz2⟩ := info_parts Try.infoInt
    have HI : Hid (Try.prog.info? 3 = some i0 ∧ i0.zero = some (.int .i64 0) ∧ i0.size = 1 ∧ i0.bytes = 8) := ⟨hi, hz0, hz1, hz2⟩
    clear hi hz0 hz1 hz2
    have HLEN := Lib.hid hlen; clear hlen
    go_enter Try.func32, Try.ntmps32
    go_wp2_with (first | (go_at_call 52; refine H1.out.mono ?_; clear H1; rintro e w1 ⟨rfl, hb1⟩) | (go_at_call 66; refine (HCC.out _ hb1).mono ?_; clear HCC; rintro e w2 ⟨A2, c2, rfl, hv, hb2⟩; have HV := Lib.hid hv; clear hv))
    have hz2 := hb2.size
    refine (HCO.out A2 c2 _ hb2 HV.out).mono ?_
    rintro e w3 ⟨⟨b, m, C, rfl, him, hdi, hall, hbs⟩ | ⟨l, vi, rfl, hrg, hvo⟩, hb3⟩
    · have HSB : Hid (sidesB o (colL C n n) = true) := sides_of_col HO.out HLEN.out hdi hall
      have HTW : Hid (twoB o = true) := twoB_iff.2 ⟨_, by rw [HLEN.out]; exact hdi.proper hall⟩
      have HCV : Hid (∀ i, i < n → (colF C i).getD (.int .i64 0) = .int .i64 (((C i).getD 0 : Nat) : Int)) := fun i hi => by
        unfold colF
        cases hci : C i with
        | none => exact absurd hci (hall i hi)
        | some c => rfl
      have HIM := Lib.hid him; clear him
      clear hdi hall
      have hz3 := hb3.size
      have hbl := HIM.out.lt
      have hw3 := hb2.trans (hb3.mono hz2)
      have hq := run_neq_slice_nil_any (P := Try.prog) w3 22 3 none 0 0 0 0 Try.underlying22
      go_wp2_with (at_make; go_must (refine make_law _ rfl (.tmp 24) (.tmp 24) 22 rfl (b + 1) 3 i0 Try.underlying22 HI.out _ _ n rfl rfl rfl rfl (by omega) (by omega) ?_); intro w4 hv4 hg4; have HV4 := Lib.hid hv4; clear hv4; have HG4 := Lib.hid hg4; clear hg4)
      clear hq
      have hw4 := hw3.grown HG4.out hw3.size (by simp)
      have hz4 := HG4.out.size
      have HIM4 : Hid (IM w4 3 b m (colF C)) := HIM.out.tn (T := fun _ => False) (Tn.of_grown HG4.out (by simp)) (fun h => h)
      obtain ⟨g, hg⟩ : ∃ g, g = w3.heap.size := ⟨_, rfl⟩
      rw [← hg] at HV4
      rw [← hg]
      have hgw : w.heap.size ≤ g := by rw [hg]; exact Nat.le_trans hz2 hz3
      have hbg : b < g := by rw [hg]; exact hbl
      clear hg
      go_loopw [8, 28] (fun _ i w' => ∃ j : Nat, j ≤ n ∧ i = .int .i64 (j : Int) ∧ Hid (Ow w' (b + 1) 3 (.slice (some ⟨g, 0, none⟩) n n) (colL C n j)) ∧ Hid (IM w' 3 b m (colF C)) ∧ Below w.heap.size w w') (fun _ i _ => n - (intOf i).toNat)
      case atStart => exact ⟨0, by omega, by go_num, (by rw [colL_zero]; exact HV4), HIM4, hw4⟩
      case round =>
        obtain ⟨j, hj, rfl, HOJ, HIJ, hWJ⟩ := hrel
        by_cases hlt : j < n
        · have HLK : Hid ((colF C j).getD (.int .i64 0) = .int .i64 (((C j).getD 0 : Nat) : Int)) := HCV.out j hlt
          have HST : Hid ((colL C n j).set j (((C j).getD 0 : Nat) : Int) = colL C n (j + 1)) := colL_step C n j hlt
          generalize (((C j).getD 0 : Nat) : Int) = x at *
          have hct := HOJ.out.cellAt (colL_len C n j) hlt
          have hft := HOJ.out.free (colL_len C n j) j
          have HP := Lib.hid (HOJ.out.put (colL_len C n j) j x)
          have HIM5 : Hid (IM (wr.setCell ⟨g, j, none⟩ (.int .i64 x)) 3 b m (colF C)) := HIJ.out.tn (T := fun k => k = g) (Tn.set (p := ⟨g, j, none⟩) (Tn.refl wr (fun k => k = g)) (fun _ => rfl) _) (by omega)
          go_wp2_with (at_lookup; go_must (refine lookI_law _ rfl _ _ 70 rfl Try.underlying70 _ _ _ rfl HIJ.out j (by omega) rfl x HLK.out ?_))
          go_roundw
          case rel => exact ⟨j + 1, by omega, by go_num, (by rw [← HST.out]; exact HP.out), HIM5, hWJ.setCell (p := ⟨g, j, none⟩) hgw _⟩
          case measure => simp [intOf]; omega
        · obtain rfl : j = n := by omega
          go_wp2
          go_ret3
          exact ⟨_, _, _, colL C j j, [], rfl, HOJ.out.base (by omega), Ow.nil _ _ _, by rw [colL_len]; exact hn, by simp, fun h => (by cases h), fun _ _ => ⟨HSB.out, rfl, rfl⟩, fun _ h => (by rw [HTW.out] at h; cases h), hWJ⟩
    · have HTB : Hid (tblockB o (nats l) = true) := tblock_of_ring (by rw [HLEN.out]; exact hrg)
      have HTW : Hid (twoB o = false) := by
        cases h : twoB o with
        | false => rfl
        | true =>
          obtain ⟨f, hf⟩ := twoB_iff.1 h
          exact (no_proper_of_tblock HTB.out hf).elim
      have hl3 := hrg.three
      have hl4 := nodup_le n l hrg.nodup hrg.lt
      have HLL : Hid ((nats l).length = l.length) := List.length_map _
      obtain ⟨g, cap, hve, _⟩ := hvo.form (by rw [HLL.out]; omega)
      rw [HLL.out] at hve
      have HVO := Lib.hid hvo; clear hvo
      subst hve
      clear hrg
      have hw3 := hb2.trans (hb3.mono hz2)
      have hq := run_neq_slice_nil_any (P := Try.prog) w3 22 3 (some ⟨g, 0, none⟩) l.length cap 0 0 Try.underlying22
      go_wp2
      go_ret3
      exact ⟨_, _, _, [], nats l, rfl, Ow.nil _ _ _, HVO.out.base hz2, by simp, by rw [HLL.out]; omega, fun h => (by cases h), fun _ h => (by rw [HTW.out] at h; cases h), fun _ _ => ⟨rfl, HTB.out, rfl⟩, hw3⟩
end Go.Proofs.Ytmnnehpoaedifaa
