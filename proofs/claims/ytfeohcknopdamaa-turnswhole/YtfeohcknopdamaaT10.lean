import Derived.Test.YtfeohcknopdamaaT09
/- Layer 10: the reference's SetAt and Many. -/
namespace Go.Proofs.Ytfeohcknopdamaa
open Go.RowKit
set_option linter.unusedVariables false

theorem plF_congr {L : Nat → Nat → Nat} {xs ys : List Int} : ∀ k, (∀ j, j < k → atI xs j = atI ys j) → plF L xs k = plF L ys k
  | 0, _ => rfl
  | k + 1, h => by rw [plF, plF, h k (Nat.lt_succ_self k), plF_congr k (fun j hj => h j (by omega))]
theorem atI_take {zs : List Int} {k j : Nat} (h : j < k) : atI (zs.take k) j = atI zs j := by
  unfold atI
  rw [List.getElem?_take_of_lt h]
theorem plF_take {L : Nat → Nat → Nat} {zs : List Int} (k : Nat) : plF L (zs.take k) k = plF L zs k := plF_congr k fun j hj => atI_take hj
theorem setB_iff {n : Int} {zs : List Int} : setB n zs = true ↔ ∀ j, j < zs.length → prevI zs j + 1 ≤ atI zs j ∧ atI zs j ≤ n := by
  refine ⟨fun h j hj => setB_at h hj, fun h => allB_iff.2 fun j hj => ?_⟩
  rw [oneB, Bool.and_eq_true, decide_eq_true_iff, decide_eq_true_iff]
  exact h j hj
theorem setB_lt {n : Int} {zs : List Int} (h : setB n zs = true) : ∀ d j, j + d + 1 < zs.length → atI zs j < atI zs (j + d + 1)
  | 0, j, hj => by
    have := (setB_at h hj).1
    rw [prevI, if_neg (by omega), Nat.add_zero, Nat.add_sub_cancel] at this
    show atI zs j < atI zs (j + 1)
    omega
  | d + 1, j, hj => by
    have h1 := setB_lt h d j (by omega)
    have h2 := (setB_at h (j := j + (d + 1) + 1) hj).1
    rw [prevI, if_neg (by omega), Nat.add_sub_cancel] at h2
    show atI zs j < atI zs (j + d + 1 + 1)
    have h3 : atI zs (j + d + 1) + 1 ≤ atI zs (j + d + 1 + 1) := h2
    omega
/-- Without its last number, which is n + 1. -/
theorem setB_pop {n : Int} {zs : List Int} (h : setB (n + 1) zs = true) {m : Nat} (hm : zs.length = m + 1) (hl : atI zs m = n + 1) : setB n (zs.take m) = true := by
  refine setB_iff.2 fun j hj => ?_
  rw [List.length_take] at hj
  have h1 := (setB_at h (j := j) (by omega)).1
  have h2 := setB_lt h (m - j - 1) j (by omega)
  rw [show j + (m - j - 1) + 1 = m by omega] at h2
  rw [atI_take (by omega)]
  refine ⟨?_, by omega⟩
  unfold prevI at h1 ⊢
  split
  · rename_i e; rw [if_pos e] at h1; exact h1
  · rename_i e; rw [if_neg e] at h1; rw [atI_take (by omega)]; exact h1
/-- Where n + 1 is not the last, it is not there. -/
theorem setB_keep {n : Int} {zs : List Int} (h : setB (n + 1) zs = true) (hl : ∀ m, zs.length = m + 1 → atI zs m ≠ n + 1) : setB n zs = true := by
  refine setB_iff.2 fun j hj => ?_
  have h1 := setB_at h hj
  refine ⟨h1.1, ?_⟩
  have h3 := setB_at h (j := zs.length - 1) (by omega)
  have h4 := hl (zs.length - 1) (by omega)
  by_cases e : j = zs.length - 1
  · rw [e]; omega
  · have h2 := setB_lt h (zs.length - 1 - j - 1) j (by omega)
    rw [show j + (zs.length - 1 - j - 1) + 1 = zs.length - 1 by omega] at h2
    omega
set_option maxRecDepth 100000 in
set_option maxHeartbeats 1600000 in
theorem setAtR_any : ∀ (n : Nat) (zs : List Int) (A : Option Addr) (m c : Nat) (w : World), n ≤ 40 → Sl w A m c zs → setB (n : Int) zs = true →
    Calls Try.prog 23 #[.int .i64 (n : Int), .slice A m c] w fun e w' => e = .returned (.int .i64 ((plF expL zs m : Nat) : Int)) ∧ Dr w w'
  | 0, zs, A, m, c, w, _, h, hs => by
    have hl := setB_len hs
    have hm := h.len
    obtain rfl : m = 0 := by omega
    rw [plF]
    clear h hs hl
    go_enter Try.func23, Try.ntmps23
    go_wp2
    go_ret
    exact ⟨rfl, Dr.refl _⟩
  | n + 1, zs, A, 0, c, w, hn, h, hs => by
    have hm := h.len
    have HR := Lib.hid (setAtR_any n zs A 0 c w (by omega) h (setB_keep hs (fun m e => by omega)))
    clear h hs
    go_enter Try.func23, Try.ntmps23
    go_wp2_with (go_at_call 23; (with_reducible refine HR.out.mono ?_); rintro e w1 ⟨rfl, hd⟩; have HD := Lib.hid hd; clear hd)
    go_ret
    exact ⟨rfl, HD.out⟩
  | n + 1, zs, A, m + 1, c, w, hn, h, hs => by
    have hm := h.len
    have hbig := h.big
    have hcap := h.cap
    obtain ⟨b, off, rfl, hcell⟩ := h.at_ (k := m) (by omega)
    rw [show zs[m]?.getD 0 = atI zs m from rfl] at hcell
    have v0 : IntKind.i64.wrap ((m : Int) + 1 - 1) = (m : Int) := by rw [show (m : Int) + 1 - 1 = (m : Int) by omega]; exact IntWalk.i64_in _ (by omega)
    have v0' : IntKind.i64.wrap (m : Int) = (m : Int) := IntWalk.i64_in _ (by omega)
    have f0 : (m : Int) < (m : Int) + 1 := by omega
    by_cases hl : atI zs m = (n : Int) + 1
    · have hP := plA_lt hs m (by omega)
      have hstep : plF expL zs (m + 1) = 2 ^ (n + 1) - 1 - plF expL zs m := by
        rw [plF, hl]; rfl
      rw [hl] at hP
      have hP2 : plF expL zs m < 2 ^ (n + 1) := hP
      have HR0 := Lib.hid (fun V (hV : Dr w V) => setAtR_any n (zs.take m) (some ⟨b, off, none⟩) m c V (by omega) ((h.below (hV.below w.heap.size) (Nat.le_refl _)).take (by omega)) (setB_pop hs hm hl))
      have HR : Hid (∀ V, Dr w V → Calls Try.prog 23 #[.int .i64 (n : Int), .slice (some ⟨b, off, none⟩) m c] V fun e w' => e = .returned (.int .i64 ((plF expL zs m : Nat) : Int)) ∧ Dr V w') := fun V hV => by
        have := HR0.out V hV
        rw [plF_take] at this
        exact this
      have hsh := shl_nat (n + 1) hn
      have h2 := two_le (n := n + 1) hn
      rw [hstep, show ((2 ^ (n + 1) - 1 - plF expL zs m : Nat) : Int) = ((2 ^ (n + 1) : Nat) : Int) - 1 - ((plF expL zs m : Nat) : Int) by omega]
      rw [hl] at hcell
      clear hstep hP h hs hl HR0
      have HD1 : Hid (Dr w w.drew) := (Dr.refl w).more 1
      generalize plF expL zs m = p at *
      generalize 2 ^ (n + 1) = q at *
      have v1 : IntKind.i64.wrap ((q : Int) - 1) = (q : Int) - 1 := IntWalk.i64_in _ (by omega)
      have v2 : IntKind.i64.wrap ((q : Int) - 1 - (p : Int)) = (q : Int) - 1 - (p : Int) := IntWalk.i64_in _ (by omega)
      have v3 : wrap64 ((q : Int) - 1) = (q : Int) - 1 := IntWalk.wrap64_in _ ⟨by omega, by omega⟩
      have v4 : wrap64 ((q : Int) - 1 - (p : Int)) = (q : Int) - 1 - (p : Int) := IntWalk.wrap64_in _ ⟨by omega, by omega⟩
      go_enter Try.func23, Try.ntmps23
      go_wp2
      go_region_with (go_at_call 23; (with_reducible refine (HR.out _ HD1.out).mono ?_); rintro e w1 ⟨rfl, hd⟩; have HD := Lib.hid (HD1.out.trans hd); clear hd)
      go_wp2
      go_ret
      exact ⟨rfl, HD.out⟩
    · have HR := Lib.hid (setAtR_any n zs (some ⟨b, off, none⟩) (m + 1) c w (by omega) h (setB_keep hs (fun k e => by rw [show k = m by omega]; exact hl)))
      have e0 : (atI zs m == (n : Int) + 1) = false := by rw [beq_eq_false_iff_ne]; exact hl
      clear h hs
      generalize atI zs m = z at *
      go_enter Try.func23, Try.ntmps23
      go_wp2_with (go_at_call 23; (with_reducible refine HR.out.mono ?_); rintro e w1 ⟨rfl, hd⟩; have HD := Lib.hid hd; clear hd)
      go_ret
      exact ⟨rfl, HD.out⟩
/-- The row of numbers: beyond i those of m + 1, up to i those of m. -/
def rowM (n m i : Nat) : List Int := (List.range (n + 1)).map fun j => (((if i < j then chs (m + 1) j else chs m j) : Nat) : Int)
theorem rowM_len (n m i : Nat) : (rowM n m i).length = n + 1 := by simp [rowM]
theorem rowM_at {n m i j : Nat} (h : j < n + 1) : atI (rowM n m i) j = (((if i < j then chs (m + 1) j else chs m j) : Nat) : Int) := by
  rw [atI_get (by rw [rowM_len]; exact h)]
  unfold rowM
  rw [List.getElem_map, List.getElem_range]
theorem rowM_zero (n : Nat) : (List.replicate (n + 1) (0 : Int)).set 0 1 = rowM n 0 (n + 1) := by
  refine atI_ext (by rw [List.length_set, List.length_replicate, rowM_len]) fun j hj => ?_
  rw [List.length_set, List.length_replicate] at hj
  rw [atI_set (by rw [List.length_replicate]; exact hj), rowM_at hj, if_neg (show ¬ n + 1 < j by omega)]
  split
  · rename_i e; subst e; rfl
  · rename_i e
    obtain ⟨k, rfl⟩ : ∃ k, j = k + 1 := ⟨j - 1, by omega⟩
    rw [atI_get (by rw [List.length_replicate]; exact hj), List.getElem_replicate]
    rfl
theorem rowM_start (n m : Nat) : rowM n m (n + 1) = rowM n m (m + 1) := atI_ext (by rw [rowM_len, rowM_len]) fun j hj => by
  rw [rowM_len] at hj
  rw [rowM_at hj, rowM_at hj, if_neg (by omega)]
  split
  · rw [chs_over _ _ (by omega), chs_over _ _ (by omega)]
  · rfl
theorem rowM_step {n m i : Nat} (hi : i + 1 < n + 1) : (rowM n m (i + 1)).set (i + 1) (atI (rowM n m (i + 1)) (i + 1) + atI (rowM n m (i + 1)) i) = rowM n m i := by
  refine atI_ext (by rw [List.length_set, rowM_len, rowM_len]) fun j hj => ?_
  rw [List.length_set, rowM_len] at hj
  rw [atI_set (by rw [rowM_len]; exact hj), rowM_at (i := i + 1) hj, rowM_at (i := i + 1) hi, rowM_at (i := i + 1) (show i < n + 1 by omega), rowM_at (i := i) hj, if_neg (show ¬ i + 1 < i + 1 by omega), if_neg (show ¬ i + 1 < i by omega)]
  split
  · rename_i e
    rw [if_pos (by omega), ← e, chs]
    omega
  · rename_i e
    by_cases h : i + 1 < j
    · rw [if_pos h, if_pos (by omega)]
    · rw [if_neg h, if_neg (by omega)]
theorem rowM_end (n m : Nat) : rowM n m 0 = rowM n (m + 1) (n + 1) := atI_ext (by rw [rowM_len, rowM_len]) fun j hj => by
  rw [rowM_len] at hj
  rw [rowM_at hj, rowM_at hj, if_neg (show ¬ n + 1 < j by omega)]
  split
  · rfl
  · rw [show j = 0 by omega, chs_zero, chs_zero]
end Go.Proofs.Ytfeohcknopdamaa
/- Layer 10: the reference's Many. -/
namespace Go.Proofs.Ytfeohcknopdamaa
open Go.RowKit
set_option linter.unusedVariables false

theorem cellI {w : World} {B e g n cap : Nat} {zs : List Int} (h : Ow w B e (.slice (some ⟨g, 0, none⟩) n cap) zs) (hn : zs.length = n) {k : Nat} (hk : k < n) : w.cell? ⟨g, k, none⟩ = some (.int .i64 (atI zs k)) := h.cellAt hn hk
set_option maxRecDepth 100000 in
set_option maxHeartbeats 3200000 in
theorem manyR_any (n k : Nat) (w : World) (hn : n ≤ 40) (hk : k ≤ n) :
    Calls Try.prog 27 #[.int .i64 (n : Int), .int .i64 (k : Int)] w fun e w' => e = .returned (.int .i64 ((chs n k : Nat) : Int)) ∧ Below w.heap.size w w' := by
  obtain ⟨i0, hi0, hz0, hz1, hz2⟩ := info_parts Try.infoInt
  have HI0 : Hid (Try.prog.info? 3 = some i0 ∧ i0.zero = some (.int .i64 0) ∧ i0.size = 1 ∧ i0.bytes = 8) := ⟨hi0, hz0, hz1, hz2⟩
  clear hi0 hz0 hz1 hz2
  go_enter Try.func27, Try.ntmps27
  go_wp2_with (at_make; go_must (refine make_law _ rfl (.tmp 9) (.tmp 9) 22 rfl w.heap.size 3 i0 Try.underlying22 HI0.out _ _ (n + 1) rfl rfl (by omega) (by omega) (by omega) (Nat.le_refl _) ?_); intro w2 ho2 hg2; have HO2 := Lib.hid ho2; have HB2 := Lib.hid ((Below.refl w.heap.size w).grown hg2 (Nat.le_refl _) (fun _ e => by cases e)); have hc2 := ho2.cellAt (by rw [List.length_replicate]) (k := 0) (by omega); have hf2 := ho2.free (by rw [List.length_replicate]) 0; clear ho2 hg2)
  have HR1 : Hid (Ow (w2.setCell ⟨w.heap.size, 0, none⟩ (.int .i64 1)) w.heap.size 3 (.slice (some ⟨w.heap.size, 0, none⟩) (n + 1) (n + 1)) (rowM n 0 (n + 1))) := by
    rw [Hid, ← rowM_zero]
    exact HO2.out.put (by rw [List.length_replicate]) 0 1
  have HB1 : Hid (Below w.heap.size w (w2.setCell ⟨w.heap.size, 0, none⟩ (.int .i64 1))) := HB2.out.setCell (p := ⟨w.heap.size, 0, none⟩) (Nat.le_refl _) _
  clear hc2 hf2 HO2 HB2
  generalize w2.setCell ⟨w.heap.size, 0, none⟩ (.int .i64 1) = w3 at HR1 HB1 ⊢
  go_loopw [6] (fun i w' => ∃ m : Nat, m ≤ n ∧ i = .int .i64 ((m : Int) + 1) ∧ Hid (Ow w' w.heap.size 3 (.slice (some ⟨w.heap.size, 0, none⟩) (n + 1) (n + 1)) (rowM n m (n + 1))) ∧ Hid (Below w.heap.size w w')) (fun i _ => n + 1 - (intOf i).toNat)
  case atStart => exact ⟨0, by omega, by go_num, HR1.out, HB1.out⟩
  case round =>
    obtain ⟨m, hm, rfl, HO, HB⟩ := hrel
    clear HR1 HB1
    obtain ⟨wo, rfl⟩ : ∃ wo : World, wo = wr := ⟨_, rfl⟩
    by_cases hlt : m < n
    · have i1 : (m : Int) + 1 ≤ (n : Int) := by omega
      have HO3 : Hid (Ow wo w.heap.size 3 (.slice (some ⟨w.heap.size, 0, none⟩) (n + 1) (n + 1)) (rowM n m (m + 1))) := by rw [Hid, ← rowM_start]; exact HO.out
      go_wp2
      go_loopw [7] (fun i w' => ∃ j : Nat, j ≤ m + 1 ∧ i = .int .i64 (j : Int) ∧ Hid (Ow w' w.heap.size 3 (.slice (some ⟨w.heap.size, 0, none⟩) (n + 1) (n + 1)) (rowM n m j)) ∧ Hid (Below w.heap.size w w')) (fun i _ => (intOf i).toNat)
      case atStart => exact ⟨m + 1, by omega, by go_num, HO3.out, HB.out⟩
      case round =>
        obtain ⟨j, hj, rfl, HO, HB⟩ := hrel
        clear HO3
        obtain ⟨wi, rfl⟩ : ∃ wi : World, wi = wr := ⟨_, rfl⟩
        rcases Nat.eq_zero_or_pos j with rfl | hj0
        · have HO4 : Hid (Ow wi w.heap.size 3 (.slice (some ⟨w.heap.size, 0, none⟩) (n + 1) (n + 1)) (rowM n (m + 1) (n + 1))) := by rw [Hid, ← rowM_end]; exact HO.out
          go_wp2
          exact ⟨⟨m + 1, by omega, by go_num, HO4.out, HB.out⟩, by simp [intOf]; omega⟩
        · obtain ⟨i, rfl⟩ : ∃ i, j = i + 1 := ⟨j - 1, by omega⟩
          have HLN : Hid ((rowM n m (i + 1)).length = n + 1) := rowM_len _ _ _
          have hc1 := cellI HO.out HLN.out (k := i + 1) (by omega)
          have hc0 := cellI HO.out HLN.out (k := i) (by omega)
          have hf1 := HO.out.free HLN.out (i + 1)
          have HST := Lib.hid (rowM_step (n := n) (m := m) (i := i) (by omega))
          have e1 : atI (rowM n m (i + 1)) (i + 1) = ((chs m (i + 1) : Nat) : Int) := by rw [rowM_at (by omega), if_neg (by omega)]
          have e0 : atI (rowM n m (i + 1)) i = ((chs m i : Nat) : Int) := by rw [rowM_at (by omega), if_neg (by omega)]
          rw [e1] at hc1 HST
          rw [e0] at hc0 HST
          have hx := Nat.le_trans (chs_le m (i + 1)) (two_le (by omega))
          have hy := Nat.le_trans (chs_le m i) (two_le (by omega))
          clear e0 e1
          generalize chs m (i + 1) = x at *
          generalize chs m i = y at *
          have f1 : (i : Int) + 1 < (n : Int) + 1 := by omega
          have f2 : (i : Int) < (n : Int) + 1 := by omega
          have f3 : (0 : Int) ≤ (i : Int) + 1 := by omega
          have V1 : Hid (wrap64 ((x : Int) + (y : Int)) = (x : Int) + (y : Int)) := IntWalk.wrap64_in _ ⟨by omega, by omega⟩
          have V2 : Hid (wrap64 ((i : Int) + 1 - 1) = (i : Int)) := by rw [Hid, show (i : Int) + 1 - 1 = (i : Int) by omega]; exact IntWalk.wrap64_in _ ⟨by omega, by omega⟩
          have V3 : Hid (wrap64 (i : Int) = (i : Int)) := IntWalk.wrap64_in _ ⟨by omega, by omega⟩
          have V4 : Hid (IntKind.i64.wrap (i : Int) = (i : Int)) := IntWalk.i64_in _ (by omega)
          have V5 : Hid (IntKind.i64.wrap ((i : Int) + 1 - 1) = (i : Int)) := by rw [Hid, show (i : Int) + 1 - 1 = (i : Int) by omega]; exact IntWalk.i64_in _ (by omega)
          have v1 := V1.out
          have v2 := V2.out
          have v3 := V3.out
          go_wp2
          go_region
          have HO5 : Hid (Ow (wi.setCell ⟨w.heap.size, i + 1, none⟩ (.int .i64 ((x : Int) + (y : Int)))).drew w.heap.size 3 (.slice (some ⟨w.heap.size, 0, none⟩) (n + 1) (n + 1)) (rowM n m i)) := by
            rw [Hid, ← HST.out]
            exact HO.out.put HLN.out (i + 1) _
          have HB5 : Hid (Below w.heap.size w (wi.setCell ⟨w.heap.size, i + 1, none⟩ (.int .i64 ((x : Int) + (y : Int)))).drew) := (HB.out.setCell (p := ⟨w.heap.size, i + 1, none⟩) (Nat.le_refl _) _).drew
          clear hc0 hc1 hf1 HO HB HST v1 v2 v3 f1 f2 f3
          generalize (wi.setCell ⟨w.heap.size, i + 1, none⟩ (.int .i64 ((x : Int) + (y : Int)))).drew = w5 at HO5 HB5 ⊢
          have v4 := V4.out
          have v5 := V5.out
          go_wp2
          clear v4 v5
          exact ⟨⟨i, by omega, by go_num, HO5.out, HB5.out⟩, by simp [intOf]⟩
    · have hmn : m = n := by omega
      subst hmn
      have i1 : ¬ (m : Int) + 1 ≤ (m : Int) := by omega
      have hc := cellI HO.out (rowM_len _ _ _) (k := k) (by omega)
      rw [rowM_at (by omega), if_neg (by omega)] at hc
      have f1 : (k : Int) < (m : Int) + 1 := by omega
      go_wp2
      go_ret
      exact ⟨rfl, HB.out⟩
end Go.Proofs.Ytfeohcknopdamaa
