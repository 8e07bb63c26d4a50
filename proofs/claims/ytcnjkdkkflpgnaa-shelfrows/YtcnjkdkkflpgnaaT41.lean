import Derived.Test.YtcnjkdkkflpgnaaT38
/- Layer 8: what a history costs: the program's way and the reference's agree. -/
namespace Go.Proofs.Ytcnjkdkkflpgnaa
open Go.RowKit Go.Maps
set_option linter.unusedVariables false

theorem witho_app {o t : List Int} {p : Nat} (hp : p < o.length) : witho (o ++ t) p = witho o p ++ t := by
  unfold witho
  rw [List.take_append_of_le_length (by omega), List.drop_append_of_le_length (by omega), List.append_assoc]
theorem moved_padk {o : List Int} {m p q : Nat} (hl : o.length = m) (hp : p < m) (hq : q ≤ p) : movedL (padO o) p q = padO (movedL o p q) := by
  have e : atI (padO o) p = atI o p := atI_padlt (by omega)
  have hlm : (movedL o p q).length = o.length := (moved_perm (by omega)).length_eq
  have hw : (witho o p).length = m - 1 := witho_len hl hp
  unfold padO at e ⊢
  rw [hlm]
  unfold movedL
  rw [e, witho_app (by omega), List.take_append_of_le_length (by omega), List.drop_append_of_le_length (by omega)]
  simp only [List.append_assoc]
theorem moved_self {o : List Int} {p : Nat} (hp : p < o.length) : movedL o p p = o := by
  have e : atI o p = o[p] := by unfold atI; rw [List.getElem?_eq_getElem hp]; rfl
  have hl : (o.take p).length = p := by rw [List.length_take]; omega
  unfold movedL witho
  rw [List.take_append_of_le_length (by omega), List.take_of_length_le (by omega), List.drop_append, hl, Nat.sub_self, List.drop_of_length_le (by omega), e, List.nil_append, List.drop_zero, List.append_assoc]
  show o.take p ++ o[p] :: o.drop (p + 1) = o
  rw [← List.drop_eq_getElem_cons hp, List.take_append_drop]
def exP (zs : List Int) (hs : List (List Int)) (i : Nat) : Nat := (ixI (padO (ordAt hs i)) (atI zs i)).toNat
/-- The orders in which the row may stand before a request. -/
def preO (zs : List Int) (hs : List (List Int)) : Nat → List (List Int)
  | 0 => [o6]
  | i + 1 => choL (padO (ordAt hs i)) (exP zs hs i) (exP zs hs i + 1)
def stpC (zs : List Int) (hs : List (List Int)) (i : Nat) : Int := (fewT (padO (ordAt hs i)) (preO zs hs i) 36 : Int) + ixI (padO (ordAt hs i)) (atI zs i) + 1
def cstF (zs : List Int) (hs : List (List Int)) : Nat → Int
  | 0 => 0
  | k + 1 => cstF zs hs k + stpC zs hs k
/-- The history has an order for each request. -/
def hisB (m : Nat) (hs : List (List Int)) (n : Nat) : Bool := decide (hs.length = n) && allB (fun k => okO (ordAt hs k) m) n
theorem hisB_parts {m n : Nat} {hs : List (List Int)} (h : hisB m hs n = true) : hs.length = n ∧ ∀ k, k < n → okO (ordAt hs k) m = true := by
  unfold hisB at h
  rw [Bool.and_eq_true, decide_eq_true_iff] at h
  refine ⟨h.1, fun k hk => ?_⟩
  have h2 := h.2
  unfold allB at h2
  rw [List.all_eq_true] at h2
  exact h2 k (List.mem_range.2 hk)
theorem hisB_good {m n : Nat} {hs : List (List Int)} (hl : hs.length = n) (h : ∀ k, k < n → okO (ordAt hs k) m = true) : hisB m hs n = true := by
  unfold hisB
  rw [decide_eq_true hl, ← allB_good h]; rfl
theorem hisB_bad {m n k : Nat} {hs : List (List Int)} (hk : k < n) (h : okO (ordAt hs k) m = false) : hisB m hs n = false := by
  cases e : hisB m hs n with
  | false => rfl
  | true => rw [(hisB_parts e).2 k hk] at h; cases h
theorem hisB_len {m n : Nat} {hs : List (List Int)} (h : hs.length ≠ n) : hisB m hs n = false := by
  cases e : hisB m hs n with
  | false => rfl
  | true => exact absurd (hisB_parts e).1 h
theorem fewT_le (o : List Int) : ∀ (L : List (List Int)) (f : Nat), fewT o L f ≤ f
  | [], f => Nat.le_refl _
  | x :: xs, f => Nat.le_trans (fewT_le o xs _) (Nat.min_le_left _ _)
theorem turnN_36 {xs ys : List Int} (h : xs.length ≤ 6) : turnN xs ys ≤ 36 := by
  have := totT_le xs ys xs.length xs.length
  unfold turnN
  have h2 : xs.length * xs.length ≤ 6 * 6 := Nat.mul_le_mul h h
  omega
def bstR (last o : List Int) (p : Nat) : Nat → Nat
  | 0 => turnN last o
  | k + 1 => min (bstR last o p k) (turnN (movedL last p k) o)
def refB (m : Nat) (zs : List Int) (hs : List (List Int)) : Nat → Nat
  | 0 => turnN (startL m) (ordAt hs 0)
  | i + 1 => bstR (ordAt hs i) (ordAt hs (i + 1)) (ixI (ordAt hs i) (atI zs i)).toNat (ixI (ordAt hs i) (atI zs i)).toNat
def refC (m : Nat) (zs : List Int) (hs : List (List Int)) : Nat → Int
  | 0 => 0
  | k + 1 => refC m zs hs k + (refB m zs hs k : Int) + ixI (ordAt hs k) (atI zs k) + 1
theorem ok_place {o : List Int} {m : Nat} {r : Nat} (h : okO o m = true) (hr : r < m) : ∃ p : Nat, ixI o (r : Int) = (p : Int) ∧ p < m := by
  obtain ⟨p, e1, h1, _⟩ := ixI_pos ((okO_perm h).mem_iff.2 (startL_mem.2 ⟨r, rfl, hr⟩))
  exact ⟨p, e1, by rw [(okO_rolls h).1] at h1; exact h1⟩
theorem ok_moved {o : List Int} {m p : Nat} (h : okO o m = true) (hp : p < m) (q : Nat) : okO (movedL o p q) m = true :=
  perm_okO ((moved_perm (by rw [(okO_rolls h).1]; exact hp)).trans (okO_perm h))
theorem few_bst {last h : List Int} {m p : Nat} (hm : m ≤ 6) (h1 : okO last m = true) (h2 : okO h m = true) (hp : p < m) : ∀ k, k ≤ p → min (fewT (padO h) (choL (padO last) p k) 36) (turnN last h) = bstR last h p k
  | 0, _ => Nat.min_eq_right (turnN_36 (by rw [(okO_rolls h1).1]; exact hm))
  | k + 1, hk => by
    rw [choL_succ, fewT_snoc, moved_padk (okO_rolls h1).1 hp (by omega), turn_pad (ok_moved h1 hp k) h2 hm]
    show _ = min (bstR last h p k) _
    rw [← few_bst hm h1 h2 hp k (by omega)]
    omega
theorem few_ref {m n : Nat} {zs : List Int} {hs : List (List Int)} (hm : m ≤ 6) (h : ∀ k, k < n → okO (ordAt hs k) m = true) (hz : ∀ k, k < n → ∃ r : Nat, atI zs k = (r : Int) ∧ r < m) : ∀ i, i < n → fewT (padO (ordAt hs i)) (preO zs hs i) 36 = refB m zs hs i
  | 0, hi => by
    have hs0 : okO (startL m) m = true := perm_okO (List.Perm.refl _)
    show min 36 (turnN o6 (padO (ordAt hs 0))) = turnN (startL m) (ordAt hs 0)
    rw [← startL_pad m hm, turn_pad hs0 (h 0 hi) hm]
    exact Nat.min_eq_right (turnN_36 (by rw [startL_len]; exact hm))
  | i + 1, hi => by
    obtain ⟨r, e, hr⟩ := hz i (by omega)
    obtain ⟨p, e2, hp⟩ := ok_place (h i (by omega)) hr
    have hl := (okO_rolls (h i (by omega))).1
    have hx : exP zs hs i = p := by
      unfold exP
      rw [e, ixI_padlt hl hm hr, e2, Int.toNat_natCast]
    show fewT _ (choL (padO (ordAt hs i)) (exP zs hs i) (exP zs hs i + 1)) 36 = bstR (ordAt hs i) (ordAt hs (i + 1)) (ixI (ordAt hs i) (atI zs i)).toNat (ixI (ordAt hs i) (atI zs i)).toNat
    rw [hx, e, e2, Int.toNat_natCast, choL_succ, fewT_snoc, moved_self (by rw [padO_len (by omega)]; omega), turn_pad (h i (by omega)) (h (i + 1) hi) hm]
    exact few_bst hm (h i (by omega)) (h (i + 1) hi) hp p (Nat.le_refl _)
theorem cst_ref {m n : Nat} {zs : List Int} {hs : List (List Int)} (hm : m ≤ 6) (h : ∀ k, k < n → okO (ordAt hs k) m = true) (hz : ∀ k, k < n → ∃ r : Nat, atI zs k = (r : Int) ∧ r < m) : ∀ i, i ≤ n → cstF zs hs i = refC m zs hs i
  | 0, _ => rfl
  | i + 1, hi => by
    obtain ⟨r, e, hr⟩ := hz i (by omega)
    show cstF zs hs i + ((fewT (padO (ordAt hs i)) (preO zs hs i) 36 : Int) + ixI (padO (ordAt hs i)) (atI zs i) + 1) = refC m zs hs i + (refB m zs hs i : Int) + ixI (ordAt hs i) (atI zs i) + 1
    rw [cst_ref hm h hz i (by omega), few_ref hm h hz i (by omega), e, ixI_padlt (okO_rolls (h i (by omega))).1 hm hr]
    omega
theorem cstF_bd {m n : Nat} {zs : List Int} {hs : List (List Int)} (hm : m ≤ 6) (h : ∀ k, k < n → okO (ordAt hs k) m = true) (hz : ∀ k, k < n → ∃ r : Nat, atI zs k = (r : Int) ∧ r < m) : ∀ i, i ≤ n → 0 ≤ cstF zs hs i ∧ cstF zs hs i ≤ 42 * (i : Int)
  | 0, _ => ⟨Int.le_refl _, Int.le_refl _⟩
  | i + 1, hi => by
    obtain ⟨r, e, hr⟩ := hz i (by omega)
    obtain ⟨p, e2, hp⟩ := ok_place (h i (by omega)) hr
    have ih := cstF_bd hm h hz i (by omega)
    have hf := fewT_le (padO (ordAt hs i)) (preO zs hs i) 36
    show 0 ≤ cstF zs hs i + ((fewT (padO (ordAt hs i)) (preO zs hs i) 36 : Int) + ixI (padO (ordAt hs i)) (atI zs i) + 1) ∧ cstF zs hs i + ((fewT (padO (ordAt hs i)) (preO zs hs i) 36 : Int) + ixI (padO (ordAt hs i)) (atI zs i) + 1) ≤ _
    rw [e, ixI_padlt (okO_rolls (h i (by omega))).1 hm hr, e2]
    omega
theorem preO_six {m n : Nat} {zs : List Int} {hs : List (List Int)} (hm : m ≤ 6) (h : ∀ k, k < n → okO (ordAt hs k) m = true) (hz : ∀ k, k < n → ∃ r : Nat, atI zs k = (r : Int) ∧ r < m) : ∀ i, i ≤ n → (∀ o ∈ preO zs hs i, o.length = 6) ∧ (preO zs hs i).length ≤ 6
  | 0, _ => by
    refine ⟨fun o ho => ?_, (by show (1 : Nat) ≤ 6; omega)⟩
    rw [show preO zs hs 0 = [o6] from rfl, List.mem_singleton] at ho
    rw [ho]; rfl
  | i + 1, hi => by
    obtain ⟨r, e, hr⟩ := hz i (by omega)
    obtain ⟨p, e2, hp⟩ := ok_place (h i (by omega)) hr
    have hl := (okO_rolls (h i (by omega))).1
    have hx : exP zs hs i = p := by
      unfold exP
      rw [e, ixI_padlt hl hm hr, e2, Int.toNat_natCast]
    show (∀ o ∈ choL (padO (ordAt hs i)) (exP zs hs i) (exP zs hs i + 1), o.length = 6) ∧ (choL (padO (ordAt hs i)) (exP zs hs i) (exP zs hs i + 1)).length ≤ 6
    rw [hx, choL_len]
    refine ⟨fun o ho => ?_, by omega⟩
    unfold choL at ho
    obtain ⟨t, _, e3⟩ := List.mem_map.1 ho
    rw [← e3, (moved_perm (by rw [padO_len (by omega)]; omega)).length_eq, padO_len (by omega)]
end Go.Proofs.Ytcnjkdkkflpgnaa
/- Layer 8: Cost of the program. -/
namespace Go.Proofs.Ytcnjkdkkflpgnaa
open Go.RowKit Go.Maps
set_option linter.unusedVariables false

set_option maxRecDepth 100000 in
set_option maxHeartbeats 12800000 in
theorem costP_any (m : Int) (zs : List Int) (hs : List (List Int)) (A B : Option Addr) (n c n2 c2 : Nat) (w : World) (h : Sl w A n c zs) (h2 : Sll w B n2 c2 hs) :
    Calls Try.prog 35 #[.int .i64 m, .slice A n c, .slice B n2 c2] w fun e w' => ((isRowB m zs = false ∧ e = .returned (.tuple #[.int .i64 0, .int .i64 2])) ∨ (isRowB m zs = true ∧ hisB m.toNat hs n = false ∧ e = .returned (.tuple #[.int .i64 0, .int .i64 10])) ∨ (isRowB m zs = true ∧ hisB m.toNat hs n = true ∧ e = .returned (.tuple #[.int .i64 (cstF zs hs n), .int .i64 0]))) ∧ Below w.heap.size w w' := by
  have hbig := h.big
  have hbig2 := h2.big
  have HIS := Lib.hid (isRow_any m zs A n c w h)
  have HL : Hid (zs.length = n) := h.len
  cases hrb : isRowB m zs
  · rw [hrb] at HIS
    clear h h2 hrb
    go_enter Try.func35, Try.ntmps35
    go_wp2_with (go_at_call 56; refine HIS.out.mono ?_; rintro e w1 ⟨rfl, hb1⟩; have HB1 := Lib.hid hb1; clear hb1)
    go_ret2
    exact ⟨.inl ⟨by simp, rfl⟩, HB1.out⟩
  · obtain ⟨mm, rfl, hm1, hm6, hn60, hzz⟩ := isRowB_parts hrb
    rw [Int.toNat_natCast]
    have HSL := Lib.hid (fun V (hV : Below w.heap.size w V) => h.below hV (Nat.le_refl _))
    have HSR := Lib.hid (fun V (hV : Below w.heap.size w V) => h2.below hV (Nat.le_refl _))
    have HN6 : Hid (n ≤ 60) := by rw [Hid, ← HL.out]; exact hn60
    have HZZ : Hid (∀ i, i < n → ∃ r : Nat, atI zs i = (r : Int) ∧ r < mm) := by rw [Hid, ← HL.out]; exact hzz
    have HLR : Hid (hs.length = n2) := h2.len
    have HMM : Hid (1 ≤ mm ∧ mm ≤ 6) := ⟨hm1, hm6⟩
    have HFO := Lib.hid (fun V => firstOrder_any V)
    rw [hrb] at HIS
    clear h h2 hrb hn60 hzz
    by_cases hnn : n2 = n
    · have e0 : ((n2 : Int) != (n : Int)) = false := by simp; omega
      subst hnn
      go_enter Try.func35, Try.ntmps35
      go_upto_region 7 with (first
        | (go_at_call 56; refine HIS.out.mono ?_; rintro e w1 ⟨rfl, hb1⟩; have HB1 := Lib.hid hb1; clear hb1)
        | (go_at_call 57; refine (HFO.out _).mono ?_; rintro e w2 ⟨rfl, hb2⟩; have HB2 := Lib.hid (HB1.out.trans (hb2.mono HB1.out.size)); clear hb2))
      obtain ⟨W3, hW3⟩ : ∃ v, v = w2.alloc (.cells (oC o6) 80) := ⟨_, rfl⟩
      have HB3 : Hid (Below w.heap.size w W3) := by rw [hW3]; exact HB2.out.alloc HB2.out.size _
      have HO3 : Hid (Slo W3 (some ⟨w2.heap.size, 0, none⟩) 1 1 (preO zs hs 0)) := by rw [hW3]; exact slo_one rfl (heap_alloc_new _ _)
      rw [show w2.alloc (.cells (oC o6) 80) = W3 from hW3.symm]
      clear hW3 HB1 HB2 HIS HFO e0
      go_wp2
      go_loopw [8, 9, 27] (fun s v r w' => ∃ (k : Nat) (A' : Option Addr) (q c' : Nat), k ≤ n2 ∧ r = .int .i64 (k : Int) ∧ s = .int .i64 (cstF zs hs k) ∧ v = .slice A' q c' ∧ Hid (Slo w' A' q c' (preO zs hs k)) ∧ Hid (∀ j, j < k → okO (ordAt hs j) mm = true) ∧ Hid (Below w.heap.size w w')) (fun _ _ r _ => n2 - (intOf r).toNat)
      case atStart => exact ⟨0, some ⟨w2.heap.size, 0, none⟩, 1, 1, Nat.zero_le _, by go_num, rfl, rfl, HO3.out, fun j hj => absurd hj (Nat.not_lt_zero _), HB3.out⟩
      case round =>
        clear HB3 HO3
        obtain ⟨k, A', q, c', hk, rfl, rfl, rfl, HO, HK, HB⟩ := hrel
        obtain ⟨wo, rfl⟩ : ∃ wo : World, wo = wr := ⟨_, rfl⟩
        by_cases hlt : k < n2
        · have i1 : (k : Int) < (n2 : Int) := by omega
          obtain ⟨b1, o1, rfl, hc1⟩ := (HSL.out wo HB.out).at_ hlt
          obtain ⟨r, er, hr⟩ := HZZ.out k hlt
          rw [show zs[k]?.getD 0 = atI zs k from rfl, er] at hc1
          obtain ⟨b5, o5, rfl, hb5, A4, n4, c4, hc4, hs4⟩ := (HSR.out wo HB.out).rows k hlt
          have HO1 := Lib.hid (orderOf_is (ordAt hs k) mm A4 n4 c4 wo hs4 HMM.out.2)
          have HER : Hid (atI zs k = (r : Int) ∧ r < mm) := ⟨er, hr⟩
          have hokb : okO (ordAt hs k) mm = false → hisB mm hs n2 = false := fun e => hisB_bad hlt e
          have HOB := Lib.hid hokb
          have HBZ : Hid (w.heap.size ≤ wo.heap.size) := HB.out.size
          obtain ⟨b, hbk⟩ : ∃ b, b = okO (ordAt hs k) mm := ⟨_, rfl⟩
          rw [← hbk] at HO1 HOB
          have HBK := Lib.hid hbk
          clear hs4 er hokb hbk
          go_upto_region 11 with (go_at_call 68; refine HO1.out.mono ?_; rintro e w1 ⟨⟨o, rfl, hl1, hp1⟩, hb1⟩)
          obtain ⟨W1, hW1⟩ : ∃ v, v = w1.alloc (.cells (oC o) 80) := ⟨_, rfl⟩
          rw [show w1.alloc (.cells (oC o) 80) = W1 from hW1.symm]
          have hbo : Below wo.heap.size wo W1 := by rw [hW1]; exact hb1.alloc hb1.size _
          have hr1 : W1.heap[w1.heap.size]? = some (.cells (oC o) 80 (0, 0)) := by rw [hW1]; exact heap_alloc_new _ _
          have HBO := Lib.hid hbo
          have HBW : Hid (Below w.heap.size w W1) := HB.out.trans (hbo.mono HBZ.out)
          have hg : w1.heap.size < W1.heap.size := (Array.getElem?_eq_some_iff.1 hr1).1
          have HL1 := Lib.hid hl1
          have HP1 := Lib.hid hp1
          clear hW1 hb1 hbo hl1 hp1 HO1
          generalize w1.heap.size = g at *
          have HCE : Hid (∀ V, Below W1.heap.size W1 V → V.cell? ⟨g, 0, none⟩ = some (.int .i64 (atI o 0)) ∧ V.cell? ⟨g, 1, none⟩ = some (.int .i64 (atI o 1)) ∧ V.cell? ⟨g, 2, none⟩ = some (.int .i64 (atI o 2)) ∧ V.cell? ⟨g, 3, none⟩ = some (.int .i64 (atI o 3)) ∧ V.cell? ⟨g, 4, none⟩ = some (.int .i64 (atI o 4)) ∧ V.cell? ⟨g, 5, none⟩ = some (.int .i64 (atI o 5))) := fun V hV => by
            have h := (hV.block g hg).trans hr1
            exact ⟨cell_in h rfl, cell_in h rfl, cell_in h rfl, cell_in h rfl, cell_in h rfl, cell_in h rfl⟩
          clear hr1 hg
          rcases b with _ | _
          · have HX := Lib.hid (HOB.out rfl)
            go_wp2
            go_ret2
            exact ⟨.inl ⟨HX.out, rfl⟩, HBW.out⟩
          · have ho : o = padO (ordAt hs k) := HP1.out rfl
            have HOK2 : Hid (∀ j, j < k + 1 → okO (ordAt hs j) mm = true) := fun j hj => by
              by_cases e : j = k
              · rw [e]; exact HBK.out.symm
              · exact HK.out j (by omega)
            obtain ⟨p, ep, hp⟩ := ok_place (HOK2.out k (by omega)) HER.out.2
            have hixo : ixI o (r : Int) = (p : Int) := by rw [ho, ixI_padlt (okO_rolls (HOK2.out k (by omega))).1 HMM.out.2 HER.out.2, ep]
            have hpre : preO zs hs (k + 1) = choL o p (p + 1) := by
              show choL (padO (ordAt hs k)) (exP zs hs k) (exP zs hs k + 1) = _
              unfold exP
              rw [← ho, HER.out.1, hixo, Int.toNat_natCast]
            have hstp : cstF zs hs (k + 1) = cstF zs hs k + ((fewT o (preO zs hs k) 36 : Int) + (p : Int) + 1) := by
              show cstF zs hs k + stpC zs hs k = _
              unfold stpC
              rw [← ho, HER.out.1, hixo]
            have hbd := cstF_bd HMM.out.2 HOK2.out (fun j hj => HZZ.out j (by omega)) k (by omega)
            have hfw := fewT_le o (preO zs hs k) 36
            have hp6 : p < 6 := by have := HMM.out.2; omega
            have HX1 : Hid (∀ V, Below W1.heap.size W1 V → Calls Try.prog 69 #[.agg #[.int .i64 (atI o 0), .int .i64 (atI o 1), .int .i64 (atI o 2), .int .i64 (atI o 3), .int .i64 (atI o 4), .int .i64 (atI o 5)], .slice A' q c'] V fun e w' => e = .returned (.int .i64 (fewT o (preO zs hs k) 36 : Int)) ∧ Below V.heap.size V w') := fun V hV => exchanges_any o (preO zs hs k) A' q c' V HL1.out (HO.out.below (HBO.out.trans (hV.mono HBO.out.size)) (Nat.le_refl _))
            have HX2 : Hid (∀ V, Calls Try.prog 58 #[.agg #[.int .i64 (atI o 0), .int .i64 (atI o 1), .int .i64 (atI o 2), .int .i64 (atI o 3), .int .i64 (atI o 4), .int .i64 (atI o 5)], .int .i64 (r : Int)] V fun e w' => e = .returned (.int .i64 (p : Int)) ∧ Below V.heap.size V w') := fun V => by
              have := place_any o (r : Int) V HL1.out
              rwa [hixo] at this
            have HX3 : Hid (∀ V, Calls Try.prog 70 #[.agg #[.int .i64 (atI o 0), .int .i64 (atI o 1), .int .i64 (atI o 2), .int .i64 (atI o 3), .int .i64 (atI o 4), .int .i64 (atI o 5)], .int .i64 (r : Int)] V fun e w' => (∃ A2 q2 c2, e = .returned (.slice A2 q2 c2) ∧ Slo w' A2 q2 c2 (preO zs hs (k + 1))) ∧ Below V.heap.size V w') := fun V => by
              refine (choices_any o r p V HL1.out hixo hp6).mono ?_
              rintro e w' ⟨⟨v, rfl, hv⟩, hb⟩
              have h6 := (preO_six HMM.out.2 HOK2.out (fun j hj => HZZ.out j (by omega)) (k + 1) (Nat.le_refl _))
              rw [hpre] at h6
              obtain ⟨A2, c2, rfl, hs2⟩ := hv.slo rfl (by have := h6.2; omega) h6.1
              exact ⟨⟨A2, _, c2, rfl, by rw [hpre]; exact hs2⟩, hb⟩
            have HST := Lib.hid hstp
            clear HP1 hixo hpre hstp ho ep HO HK HBK HOB HSL HSR HZZ HL HLR
            generalize fewT o (preO zs hs k) 36 = f at *
            generalize cstF zs hs k = cc at *
            have hn6 := HN6.out
            have v1 : IntKind.i64.wrap ((f : Int) + (p : Int)) = (f : Int) + (p : Int) := IntWalk.i64_in _ (by omega)
            have v2 : IntKind.i64.wrap ((f : Int) + (p : Int) + 1) = (f : Int) + (p : Int) + 1 := IntWalk.i64_in _ (by omega)
            have v3 : IntKind.i64.wrap (cc + ((f : Int) + (p : Int) + 1)) = cc + ((f : Int) + (p : Int) + 1) := IntWalk.i64_in _ (by omega)
            clear hbd hfw hp6 HL1
            generalize atI o 0 = a0 at *
            generalize atI o 1 = a1 at *
            generalize atI o 2 = a2 at *
            generalize atI o 3 = a3 at *
            generalize atI o 4 = a4 at *
            generalize atI o 5 = a5 at *
            have HK0 : Hid (Below W1.heap.size W1 W1.drew) := (Below.refl _ _).drew
            go_wp2
            refine wp_region_held_drew (S := fun V => V.cell? ⟨g, 0, none⟩ = some (.int .i64 a0) ∧ V.cell? ⟨g, 1, none⟩ = some (.int .i64 a1) ∧ V.cell? ⟨g, 2, none⟩ = some (.int .i64 a2) ∧ V.cell? ⟨g, 3, none⟩ = some (.int .i64 a3) ∧ V.cell? ⟨g, 4, none⟩ = some (.int .i64 a4) ∧ V.cell? ⟨g, 5, none⟩ = some (.int .i64 a5)) (by kernel_rfl) (HCE.out _ HK0.out) (fun hHeld => ?_)
            generalize W1.drew = V0 at *
            refine wpAnyH_takeX (i := 0) (v := ?_) (by simp only [↓List.getElem?_toArray, ↓List.getElem?_cons_zero]; rfl) (by kernel_rfl) (by kernel_rfl) (by kernel_rfl) (by assumption) ?_ ?_ ?_
            rotate_left
            · exact fun _ _ _ h => h
            · exact Or.inl ⟨by rfl, by (intro V hV; (try dsimp only at hV); go_simp; try with_reducible rfl)⟩
            simp only [Act.put, List.setIfInBounds_toArray, List.set_cons_zero, List.set_cons_succ]
            refine wpAnyH_takeX (i := 1) (v := ?_) (by simp only [↓List.getElem?_toArray, ↓List.getElem?_cons_succ, ↓List.getElem?_cons_zero]; rfl) (by kernel_rfl) (by kernel_rfl) (by kernel_rfl) (by assumption) ?_ ?_ ?_
            rotate_left
            · exact fun _ _ _ h => h
            · exact Or.inl ⟨by rfl, by (intro V hV; (try dsimp only at hV); go_simp; try with_reducible rfl)⟩
            simp only [Act.put, List.setIfInBounds_toArray, List.set_cons_zero, List.set_cons_succ]
            refine wpAnyH_takeX (i := 2) (v := ?_) (by simp only [↓List.getElem?_toArray, ↓List.getElem?_cons_succ, ↓List.getElem?_cons_zero]; rfl) (by kernel_rfl) (by kernel_rfl) (by kernel_rfl) (by assumption) ?_ ?_ ?_
            rotate_left
            · exact fun _ _ _ h => h
            · exact Or.inl ⟨by rfl, by (intro V hV; (try dsimp only at hV); go_simp; try with_reducible rfl)⟩
            simp only [Act.put, List.setIfInBounds_toArray, List.set_cons_zero, List.set_cons_succ]
            refine wpAnyH_takeX (i := 4) (v := ?_) (by simp only [↓List.getElem?_toArray, ↓List.getElem?_cons_succ, ↓List.getElem?_cons_zero]; rfl) (by kernel_rfl) (by kernel_rfl) (by kernel_rfl) (by assumption) ?_ ?_ ?_
            rotate_left
            · exact fun _ _ _ h => h
            · exact Or.inl ⟨by rfl, by (intro V hV; (try dsimp only at hV); go_simp; try with_reducible rfl)⟩
            simp only [Act.put, List.setIfInBounds_toArray, List.set_cons_zero, List.set_cons_succ]
            refine wpAnyH_takeX (i := 5) (v := ?_) (by simp only [↓List.getElem?_toArray, ↓List.getElem?_cons_succ, ↓List.getElem?_cons_zero]; rfl) (by kernel_rfl) (by kernel_rfl) (by kernel_rfl) (by assumption) ?_ ?_ ?_
            rotate_left
            · exact fun _ _ _ h => h
            · exact Or.inl ⟨by rfl, by (intro V hV; (try dsimp only at hV); go_simp; try with_reducible rfl)⟩
            simp only [Act.put, List.setIfInBounds_toArray, List.set_cons_zero, List.set_cons_succ]
            refine wpAnyH_ready (rs := [3]) (by kernel_rfl) (by simp) ?_
            refine AllReadyH.cons rfl (fun K hK => ?_) ?_
            · go_simp
              go_wp2_with (go_at_call 69; (with_reducible refine (HX1.out _ HK0.out).mono ?_); rintro e v1 ⟨rfl, hb⟩)
              have HK1 : Hid (Below W1.heap.size W1 v1) := HK0.out.trans (hb.mono HK0.out.size)
              clear hb
              refine hK.out _ _ (HCE.out _ HK1.out) (fun hHeld => ?_)
              clear hK K
              try simp only [Act.put, List.setIfInBounds_toArray, List.set_cons_zero, List.set_cons_succ]
              refine wpAnyH_ready (rs := [6]) (by kernel_rfl) (by simp) ?_
              refine AllReadyH.cons rfl (fun K hK => ?_) ?_
              · go_simp
                go_wp2_with (go_at_call 58; (with_reducible refine (HX2.out _).mono ?_); rintro e v2 ⟨rfl, hb⟩)
                have HK2 : Hid (Below W1.heap.size W1 v2) := HK1.out.trans (hb.mono HK1.out.size)
                clear hb
                refine hK.out _ _ (HCE.out _ HK2.out) (fun hHeld => ?_)
                clear hK K
                try simp only [Act.put, List.setIfInBounds_toArray, List.set_cons_zero, List.set_cons_succ]
                refine wpAnyH_takeX (i := 7) (v := ?_) (by simp only [↓List.getElem?_toArray, ↓List.getElem?_cons_succ, ↓List.getElem?_cons_zero]; rfl) (by kernel_rfl) (by kernel_rfl) (by kernel_rfl) (by assumption) ?_ ?_ ?_
                rotate_left
                · exact fun _ _ _ h => h
                · exact Or.inl ⟨by rfl, by (intro V hV; (try dsimp only at hV); go_simp; try with_reducible rfl)⟩
                simp only [Act.put, List.setIfInBounds_toArray, List.set_cons_zero, List.set_cons_succ]
                refine wpAnyH_takeX (i := 8) (v := ?_) (by simp only [↓List.getElem?_toArray, ↓List.getElem?_cons_succ, ↓List.getElem?_cons_zero]; rfl) (by kernel_rfl) (by kernel_rfl) (by kernel_rfl) (by assumption) ?_ ?_ ?_
                rotate_left
                · exact fun _ _ _ h => h
                · exact Or.inl ⟨by rfl, by (intro V hV; (try dsimp only at hV); go_simp; try with_reducible rfl)⟩
                simp only [Act.put, List.setIfInBounds_toArray, List.set_cons_zero, List.set_cons_succ]
                refine wpAnyH_takeX (i := 9) (v := ?_) (by simp only [↓List.getElem?_toArray, ↓List.getElem?_cons_succ, ↓List.getElem?_cons_zero]; rfl) (by kernel_rfl) (by kernel_rfl) (by kernel_rfl) (by assumption) ?_ ?_ ?_
                rotate_left
                · exact fun _ _ _ h => h
                · exact Or.inl ⟨by rfl, by (intro V hV; (try dsimp only at hV); go_simp; try with_reducible rfl)⟩
                simp only [Act.put, List.setIfInBounds_toArray, List.set_cons_zero, List.set_cons_succ]
                refine wpAnyH_takeX (i := 10) (v := ?_) (by simp only [↓List.getElem?_toArray, ↓List.getElem?_cons_succ, ↓List.getElem?_cons_zero]; rfl) (by kernel_rfl) (by kernel_rfl) (by kernel_rfl) (by assumption) ?_ ?_ ?_
                rotate_left
                · exact fun _ _ _ h => h
                · exact Or.inl ⟨by rfl, by (intro V hV; (try dsimp only at hV); go_simp; try with_reducible rfl)⟩
                simp only [Act.put, List.setIfInBounds_toArray, List.set_cons_zero, List.set_cons_succ]
                refine wpAnyH_done (by kernel_rfl) ?_ _
                obtain ⟨e0, e1, e2, e3, e4, e5⟩ := HCE.out _ HK2.out
                have HBV : Hid (Below w.heap.size w v2) := HBW.out.trans (HK2.out.mono HBW.out.size)
                go_wp2_with (go_at_call 70; (with_reducible refine (HX3.out _).mono ?_); rintro e w5 ⟨⟨A2, q2, c3, rfl, hs5⟩, hb⟩; have HS5 := Lib.hid hs5; have HB5 := Lib.hid (HBV.out.trans (hb.mono HBV.out.size)); clear hs5 hb)
                exact ⟨⟨k + 1, A2, q2, c3, by omega, by go_num, by rw [HST.out], rfl, HS5.out, HOK2.out, HB5.out⟩, by simp [intOf]; omega⟩
              · exact AllReadyH.nil
            · exact AllReadyH.nil
        · have hkn : k = n2 := by omega
          subst hkn
          have i1 : ¬ (k : Int) < (k : Int) := by omega
          have HX := Lib.hid (hisB_good HLR.out HK.out)
          go_wp2
          go_ret2
          exact ⟨.inr ⟨HX.out, rfl⟩, HB.out⟩
    · have e0 : ((n2 : Int) != (n : Int)) = true := by simp; omega
      have HX : Hid (hisB mm hs n = false) := hisB_len (by rw [HLR.out]; exact hnn)
      go_enter Try.func35, Try.ntmps35
      go_wp2_with (go_at_call 56; refine HIS.out.mono ?_; rintro e w1 ⟨rfl, hb1⟩; have HB1 := Lib.hid hb1; clear hb1)
      go_ret2
      exact ⟨.inr (.inl ⟨by simp, HX.out, rfl⟩), HB1.out⟩
end Go.Proofs.Ytcnjkdkkflpgnaa
