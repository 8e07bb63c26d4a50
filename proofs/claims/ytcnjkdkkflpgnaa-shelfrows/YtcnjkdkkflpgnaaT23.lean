import Derived.Test.YtcnjkdkkflpgnaaT11
import Derived.Test.YtcnjkdkkflpgnaaT19
/- Layer 8: allows, Faults of the program. -/
namespace Go.Proofs.Ytcnjkdkkflpgnaa
open Go.RowKit Go.Maps
set_option linter.unusedVariables false

def alwB (f : Int → Option Stay) (page k gone : Int) : Bool := if lacksB f page k then (f gone).isSome else (gone == -1)
set_option maxRecDepth 100000 in
set_option maxHeartbeats 6400000 in
theorem allows_any (s b : Nat) (k c page gone : Int) (f : Int → Option Stay) (w : World) (h : SH w s b k f c) (hp : 0 ≤ page ∧ page < 16) (hg : -9223372036854775808 ≤ gone ∧ gone ≤ 9223372036854775807) :
    Calls Try.prog 54 #[.pointer (some ⟨s, 0, none⟩), .int .i64 page, .int .i64 gone] w fun e w' => e = .returned (.bool (alwB f page k gone)) ∧ Below w.heap.size w w' := by
  have HH := Lib.hid h
  have HLC := Lib.hid (lacks_any s b k c page f w h hp)
  unfold alwB
  cases hlk : lacksB f page k
  · rw [hlk] at HLC
    clear h hlk
    go_enter Try.func54, Try.ntmps54
    go_wp2_with (go_at_call 73; (with_reducible refine HLC.out.mono ?_); rintro e w1 ⟨rfl, hb⟩; have HB1 := Lib.hid hb; clear hb)
    go_ret
    exact ⟨by simp, HB1.out⟩
  · rw [hlk] at HLC
    have HLK : Hid (∀ V, Below w.heap.size w V → (Instr.lookup 75 (.map (some b)) (.int .i64 gone) true).run Try.prog V = .ok (.tuple #[stV ((f gone).getD (0, 0)), .bool (f gone).isSome]) V) := fun V hV => (h.belowN hV).map.lookOk _ Try.underlying75 (by omega)
    have HD1 : Hid (∀ V, Below w.heap.size w V → V.cell? ⟨s, 1, none⟩ = some (.map (some b))) := fun V hV => cell_in (h.belowN hV).box rfl
    obtain ⟨st, hst⟩ : ∃ st, st = (f gone).getD (0, 0) := ⟨_, rfl⟩
    obtain ⟨b1, hb1⟩ : ∃ b1, b1 = (f gone).isSome := ⟨_, rfl⟩
    rw [← hst, ← hb1] at HLK
    rw [← hb1]
    clear h hlk hst hb1
    unfold stV at HLK
    go_enter Try.func54, Try.ntmps54
    go_upto_region 3 with (go_at_call 73; (with_reducible refine HLC.out.mono ?_); rintro e w1 ⟨rfl, hb⟩; have HB1 := Lib.hid hb; clear hb)
    have d1 := HD1.out w1 HB1.out
    have l1 := HLK.out w1 HB1.out
    have HB2 : Hid (Below w.heap.size w (w1.alloc (.cells #[.int .i64 (st.1 : Int), .int .i64 (st.2 : Int)] 69))) := HB1.out.alloc HB1.out.size _
    go_wp2
    go_ret
    exact ⟨by simp, HB2.out⟩
/-- The pages and the faults after i requests, by this plan. -/
def pF (zs pl : List Int) : Nat → Int → Option Stay
  | 0 => fun _ => none
  | i + 1 => srvS (pF zs pl i) i (atI zs i) (atI pl i)
def pC (zs pl : List Int) : Nat → Int
  | 0 => 0
  | i + 1 => pC zs pl i + srvC (pF zs pl i) (atI zs i) (atI pl i)
theorem pC_le (zs pl : List Int) : ∀ i : Nat, 0 ≤ pC zs pl i ∧ pC zs pl i ≤ (i : Int)
  | 0 => ⟨Int.le_refl _, Int.le_refl _⟩
  | i + 1 => by
    have h1 := pC_le zs pl i
    have h2 := srvC_le (pF zs pl i) (atI zs i) (atI pl i)
    unfold pC
    omega
def pOk (k : Int) (zs pl : List Int) (j : Nat) : Bool := alwB (pF zs pl j) (atI zs j) k (atI pl j)
def fltP (k : Int) (zs pl : List Int) : Int × Int := if (reqB zs 200 15 && placesB k) = false then (0, 2) else if decide (pl.length = zs.length) = false then (0, 10) else if allB (pOk k zs pl) zs.length = false then (0, 10) else (pC zs pl zs.length, 0)
set_option maxRecDepth 100000 in
set_option maxHeartbeats 6400000 in
theorem faultsP_any (k : Int) (zs pl : List Int) (A B : Option Addr) (n c m d : Nat) (w : World) (h : Sl w A n c zs) (h2 : Sl w B m d pl) (hpl : ∀ i, -9223372036854775808 ≤ atI pl i ∧ atI pl i ≤ 9223372036854775807) :
    Calls Try.prog 25 #[.slice A n c, .int .i64 k, .slice B m d] w fun e w' => e = .returned (.tuple #[.int .i64 (fltP k zs pl).1, .int .i64 (fltP k zs pl).2]) ∧ Below w.heap.size w w' := by
  have HA := Lib.hid (areRequests_any zs A n c w h)
  have HP := Lib.hid (fun V => isPlaces_any k V)
  have HSL := Lib.hid (fun V (hV : Below w.heap.size w V) => h.below hV (Nat.le_refl _))
  have HSP := Lib.hid (fun V (hV : Below w.heap.size w V) => h2.below hV (Nat.le_refl _))
  have HL : Hid (zs.length = n) := h.len
  have HM : Hid (pl.length = m) := h2.len
  have hbig := h.big
  have hbig2 := h2.big
  have HPL := Lib.hid hpl
  clear h h2 hpl
  rw [show (decide (1 ≤ k) && decide (k ≤ 8)) = placesB k from rfl] at HP
  cases h1 : reqB zs 200 15
  · have HF : Hid (fltP k zs pl = (0, 2)) := by unfold fltP; rw [Hid, h1, Bool.false_and, if_pos rfl]
    rw [HF.out]
    rw [h1] at HA
    go_enter Try.func25, Try.ntmps25
    go_wp2_with (go_at_call 43; refine HA.out.mono ?_; rintro e w1 ⟨rfl, hb1⟩; have HB1 := Lib.hid hb1; clear hb1)
    go_ret2
    exact ⟨rfl, HB1.out⟩
  · rw [h1] at HA
    obtain ⟨hn, hz⟩ := reqB_parts h1
    rw [HL.out] at hn hz
    cases h2 : placesB k
    · have HF : Hid (fltP k zs pl = (0, 2)) := by unfold fltP; rw [Hid, h2, Bool.and_false, if_pos rfl]
      rw [HF.out]
      rw [h2] at HP
      go_enter Try.func25, Try.ntmps25
      go_wp2_with (first
        | (go_at_call 43; refine HA.out.mono ?_; rintro e w1 ⟨rfl, hb1⟩; have HB1 := Lib.hid hb1; clear hb1)
        | (go_at_call 44; refine (HP.out _).mono ?_; rintro e w2 ⟨rfl, rfl⟩))
      go_ret2
      exact ⟨rfl, HB1.out⟩
    · have hf1 : fltP k zs pl = if decide (pl.length = zs.length) = false then (0, 10) else if allB (pOk k zs pl) zs.length = false then (0, 10) else (pC zs pl zs.length, 0) := by
        unfold fltP
        rw [h1, h2, if_neg (by decide)]
      rw [h2] at HP
      by_cases hmn : m = n
      · subst hmn
        have hf2 : fltP k zs pl = if allB (pOk k zs pl) m = false then (0, 10) else (pC zs pl m, 0) := by
          rw [hf1, HL.out, HM.out, decide_eq_true rfl, if_neg (by decide)]
        have HF2 := Lib.hid hf2
        have HZ := Lib.hid hz
        have HES := Lib.hid (fun V => emptyShelf_any k V)
        clear hf1 hf2 hz h1 h2
        go_enter Try.func25, Try.ntmps25
        go_wp2_with (first
          | (go_at_call 43; refine HA.out.mono ?_; rintro e w1 ⟨rfl, hb1⟩; have HB1 := Lib.hid hb1; clear hb1)
          | (go_at_call 44; refine (HP.out _).mono ?_; rintro e w2 ⟨rfl, rfl⟩)
          | (go_at_call 53; refine (HES.out _).mono ?_; rintro e w3 ⟨⟨s, b, rfl, hs, hs1, hs2⟩, hb⟩; have HS1 := Lib.hid hs; have HG := Lib.hid (show w.heap.size ≤ s ∧ w.heap.size ≤ b from ⟨Nat.le_trans HB1.out.size hs1, Nat.le_trans HB1.out.size hs2⟩); have HB3 := Lib.hid (HB1.out.trans (hb.mono HB1.out.size)); clear hb hs hs1 hs2))
        clear HA HP HES HB1
        go_loopw [28] (fun r w' => ∃ i : Nat, i ≤ m ∧ r = .int .i64 (i : Int) ∧ Hid (∀ j, j < i → pOk k zs pl j = true) ∧ Hid (SH w' s b k (pF zs pl i) (pC zs pl i)) ∧ Hid (Below w.heap.size w w')) (fun r _ => m - (intOf r).toNat)
        case atStart => exact ⟨0, Nat.zero_le _, by go_num, fun j hj => absurd hj (Nat.not_lt_zero _), HS1.out, HB3.out⟩
        case round =>
          obtain ⟨i, hi, rfl, HK, HS, HB⟩ := hrel
          obtain ⟨wo, rfl⟩ : ∃ wo : World, wo = wr := ⟨_, rfl⟩
          clear HS1 HB3
          by_cases hlt : i < m
          · have i1 : (i : Int) < (m : Int) := by omega
            obtain ⟨b1, o1, rfl, hc1⟩ := (HSL.out wo HB.out).at_ hlt
            rw [show zs[i]?.getD 0 = atI zs i from rfl] at hc1
            obtain ⟨b2, o2, rfl, hc2⟩ := (HSP.out wo HB.out).at_ hlt
            rw [show pl[i]?.getD 0 = atI pl i from rfl] at hc2
            have HC2 : Hid (∀ V, Below w.heap.size w V → V.cell? ⟨b2, o2 + i, none⟩ = some (.int .i64 (atI pl i))) := fun V hV => by
              obtain ⟨b3, o3, e3, hc3⟩ := (HSP.out V hV).at_ hlt
              have e3 := Option.some.inj e3
              injection e3 with e3 e4 _
              rw [← e3, ← e4] at hc3
              exact hc3
            have hp16 := HZ.out i hlt
            have hg64 := HPL.out i
            have hcl := pC_le zs pl i
            have HSF : Hid (pF zs pl (i + 1) = srvS (pF zs pl i) i (atI zs i) (atI pl i)) := rfl
            have HSC : Hid (pC zs pl (i + 1) = pC zs pl i + srvC (pF zs pl i) (atI zs i) (atI pl i)) := rfl
            have HAL := Lib.hid (allows_any s b k (pC zs pl i) (atI zs i) (atI pl i) (pF zs pl i) wo HS.out hp16 hg64)
            have HPK : Hid (pOk k zs pl i = alwB (pF zs pl i) (atI zs i) k (atI pl i)) := rfl
            have HLI : Hid (i < m) := hlt
            have HSV := Lib.hid (fun V (hV : SH V s b k (pF zs pl i) (pC zs pl i)) => serve_any s b i k _ (atI zs i) (atI pl i) _ V hV hp16 (by omega) ⟨hcl.1, by omega⟩ hg64 w.heap.size HG.out)
            have HB2 : Hid (w.heap.size ≤ wo.heap.size) := HB.out.size
            clear HZ HPL hp16 hg64 hcl
            generalize atI zs i = page at *
            generalize atI pl i = gone at *
            cases halw : alwB (pF zs pl i) page k gone
            · rw [halw] at HAL HPK
              clear halw
              go_wp2_with (go_at_call 54; (with_reducible refine HAL.out.mono ?_); rintro e v1 ⟨rfl, hb⟩; have HBA := Lib.hid (HB.out.trans (hb.mono HB2.out)); clear hb)
              go_ret2
              have hbad : allB (pOk k zs pl) m = false := by
                cases hx : allB (pOk k zs pl) m
                · rfl
                · have := allB_iff.1 hx i HLI.out
                  rw [HPK.out] at this; cases this
              have hf := HF2.out
              rw [if_pos hbad] at hf
              rw [hf]
              exact ⟨rfl, HBA.out⟩
            · rw [halw] at HAL HPK
              clear halw
              go_upto_region 11 with (go_at_call 54; (with_reducible refine HAL.out.mono ?_); rintro e v1 ⟨rfl, hb⟩; have HBA := Lib.hid (HB.out.trans (hb.mono HB2.out)); have HSA := Lib.hid (HS.out.belowN hb); clear hb)
              have hc3 := HC2.out v1 HBA.out
              clear hc1 hc2
              go_wp2_with (go_at_call 55; (with_reducible refine (HSV.out _ HSA.out).mono ?_); rintro e v2 ⟨rfl, hs, hb, _⟩; have HS2 := Lib.hid hs; have HB4 := Lib.hid (HBA.out.trans hb); clear hs hb)
              exact ⟨⟨i + 1, by omega, by go_num, fun j hj => (Nat.lt_succ_iff_lt_or_eq.1 hj).elim (fun e => HK.out j e) (fun e => by rw [e]; exact HPK.out), by rw [HSF.out, HSC.out]; exact HS2.out, HB4.out⟩, by simp [intOf]; omega⟩
          · have him : i = m := by omega
            subst him
            have i1 : ¬ (i : Int) < (i : Int) := by omega
            have d2 : wo.cell? ⟨s, 2, none⟩ = some (.int .i64 (pC zs pl i)) := cell_in HS.out.box rfl
            go_wp2
            go_ret2
            have hf := HF2.out
            rw [if_neg (by rw [allB_iff.2 HK.out]; decide)] at hf
            rw [hf]
            exact ⟨rfl, HB.out⟩
      · have HF : Hid (fltP k zs pl = (0, 10)) := by
          rw [Hid, hf1, HL.out, HM.out, decide_eq_false hmn, if_pos rfl]
        rw [HF.out]
        have i1 : ¬ (m : Int) = (n : Int) := by omega
        have i2 : ((m : Int) == (n : Int)) = false := by simp; omega
        clear hf1 hmn hz
        go_enter Try.func25, Try.ntmps25
        go_wp2_with (first
          | (go_at_call 43; refine HA.out.mono ?_; rintro e w1 ⟨rfl, hb1⟩; have HB1 := Lib.hid hb1; clear hb1)
          | (go_at_call 44; refine (HP.out _).mono ?_; rintro e w2 ⟨rfl, rfl⟩))
        go_ret2
        exact ⟨rfl, HB1.out⟩
end Go.Proofs.Ytcnjkdkkflpgnaa
/- Layer 8: Faults of the reference. -/
namespace Go.Proofs.Ytcnjkdkkflpgnaa
open Go.RowKit
set_option linter.unusedVariables false

theorem ixI_is {zs : List Int} {x : Int} (h : ¬ ixI zs x < 0) : ∃ q : Nat, ixI zs x = (q : Int) ∧ q < zs.length ∧ atI zs q = x := by
  unfold ixI at h ⊢
  cases hp : plI zs x with
  | none => rw [hp] at h; exact absurd (by decide) h
  | some q => exact ⟨q, rfl, plI_lt hp, plI_val hp⟩
def stepL (k page gone : Int) (S : List Int) : List Int := if ixI S page < 0 then (if (S.length : Int) = k then witho S (ixI S gone).toNat else S) ++ [page] else S
def stL (k : Int) (zs pl : List Int) : Nat → List Int
  | 0 => []
  | i + 1 => stepL k (atI zs i) (atI pl i) (stL k zs pl i)
def stC (k : Int) (zs pl : List Int) : Nat → Int
  | 0 => 0
  | i + 1 => if ixI (stL k zs pl i) (atI zs i) < 0 then stC k zs pl i + 1 else stC k zs pl i
def stepB (k page gone : Int) (S : List Int) : Bool := if ixI S page < 0 ∧ (S.length : Int) = k then decide (¬ ixI S gone < 0) else decide (gone = -1)
def stB (k : Int) (zs pl : List Int) (j : Nat) : Bool := stepB k (atI zs j) (atI pl j) (stL k zs pl j)
def fltR (k : Int) (zs pl : List Int) : Int × Bool := if decide (pl.length = zs.length) = false then (0, false) else if allB (stB k zs pl) zs.length = false then (0, false) else (stC k zs pl zs.length, true)
theorem stepL_len (k page gone : Int) (S : List Int) : (stepL k page gone S).length ≤ S.length + 1 := by
  unfold stepL
  split
  · rw [List.length_append, List.length_singleton]
    split
    · unfold witho; rw [List.length_append, List.length_take, List.length_drop]; omega
    · omega
  · omega
theorem stL_len (k : Int) (zs pl : List Int) : ∀ i, (stL k zs pl i).length ≤ i
  | 0 => Nat.le_refl _
  | i + 1 => by
    have h1 := stL_len k zs pl i
    have h2 := stepL_len k (atI zs i) (atI pl i) (stL k zs pl i)
    unfold stL
    omega
theorem stC_le (k : Int) (zs pl : List Int) : ∀ i : Nat, 0 ≤ stC k zs pl i ∧ stC k zs pl i ≤ (i : Int)
  | 0 => ⟨Int.le_refl _, Int.le_refl _⟩
  | i + 1 => by
    have h1 := stC_le k zs pl i
    unfold stC
    split <;> omega
set_option maxRecDepth 100000 in
set_option maxHeartbeats 6400000 in
theorem faultsR_any (k : Int) (zs pl : List Int) (A B : Option Addr) (n c m d : Nat) (w : World) (h : Sl w A n c zs) (h2 : Sl w B m d pl) (hn : n ≤ 1000) :
    Calls Try.prog 23 #[.slice A n c, .int .i64 k, .slice B m d] w fun e w' => e = .returned (.tuple #[.int .i64 (fltR k zs pl).1, .bool (fltR k zs pl).2]) ∧ Below w.heap.size w w' := by
  obtain ⟨i0, hi, hz0, hz1, hz2⟩ := info_parts Try.infoInt
  have HI : Hid (Try.prog.info? 3 = some i0 ∧ i0.zero = some (.int .i64 0) ∧ i0.size = 1 ∧ i0.bytes = 8) := ⟨hi, hz0, hz1, hz2⟩
  clear hi hz0 hz1 hz2
  have HSL := Lib.hid (fun V (hV : Below w.heap.size w V) => h.below hV (Nat.le_refl _))
  have HSP := Lib.hid (fun V (hV : Below w.heap.size w V) => h2.below hV (Nat.le_refl _))
  have HL : Hid (zs.length = n) := h.len
  have HM : Hid (pl.length = m) := h2.len
  have hbig := h.big
  have hbig2 := h2.big
  clear h h2
  by_cases hmn : m = n
  · subst hmn
    have HF : Hid (fltR k zs pl = if allB (stB k zs pl) m = false then (0, false) else (stC k zs pl m, true)) := by
      unfold fltR
      rw [Hid, HL.out, HM.out, decide_eq_true rfl, if_neg (by decide)]
    go_enter Try.func23, Try.ntmps23
    go_wp2
    go_loopw [8, 9, 10] (fun v f r w' => ∃ i : Nat, i ≤ m ∧ r = .int .i64 (i : Int) ∧ f = .int .i64 (stC k zs pl i) ∧ Hid (∀ j, j < i → stB k zs pl j = true) ∧ Hid (Ow w' w.heap.size 3 v (stL k zs pl i)) ∧ Hid (Below w.heap.size w w')) (fun _ _ r _ => m - (intOf r).toNat)
    case atStart => exact ⟨0, Nat.zero_le _, by go_num, rfl, fun j hj => absurd hj (Nat.not_lt_zero _), Ow.nil _ _ _, Below.refl _ _⟩
    case round =>
      obtain ⟨i, hi, rfl, rfl, HK, HO, HB⟩ := hrel
      obtain ⟨wo, rfl⟩ : ∃ wo : World, wo = wr := ⟨_, rfl⟩
      by_cases hlt : i < m
      · have i1 : (i : Int) < (m : Int) := by omega
        obtain ⟨b1, o1, rfl, hc1⟩ := (HSL.out wo HB.out).at_ hlt
        rw [show zs[i]?.getD 0 = atI zs i from rfl] at hc1
        obtain ⟨b2, o2, rfl, hc2⟩ := (HSP.out wo HB.out).at_ hlt
        rw [show pl[i]?.getD 0 = atI pl i from rfl] at hc2
        have hsl := stL_len k zs pl i
        have hcl := stC_le k zs pl i
        have HC2 : Hid (∀ V, Below w.heap.size w V → V.cell? ⟨b1, o1 + i, none⟩ = some (.int .i64 (atI zs i)) ∧ V.cell? ⟨b2, o2 + i, none⟩ = some (.int .i64 (atI pl i))) := fun V hV => by
          obtain ⟨b3, o3, e3, hc3⟩ := (HSP.out V hV).at_ hlt
          have e3 := Option.some.inj e3
          injection e3 with e3 e4 _
          rw [← e3, ← e4] at hc3
          obtain ⟨b4, o4, e5, hc4⟩ := (HSL.out V hV).at_ hlt
          have e5 := Option.some.inj e5
          injection e5 with e5 e6 _
          rw [← e5, ← e6] at hc4
          exact ⟨hc4, hc3⟩
        have HSF : Hid (stL k zs pl (i + 1) = stepL k (atI zs i) (atI pl i) (stL k zs pl i)) := rfl
        have HSC : Hid (stC k zs pl (i + 1) = if ixI (stL k zs pl i) (atI zs i) < 0 then stC k zs pl i + 1 else stC k zs pl i) := rfl
        have HPK : Hid (stB k zs pl i = stepB k (atI zs i) (atI pl i) (stL k zs pl i)) := rfl
        have HLI : Hid (i < m) := hlt
        have HBAD : Hid (stB k zs pl i = false → fltR k zs pl = (0, false)) := fun hb => by
          rw [HF.out, if_pos]
          cases hx : allB (stB k zs pl) m
          · rfl
          · have := allB_iff.1 hx i HLI.out
            rw [hb] at this; cases this
        have v1 : IntKind.i64.wrap (stC k zs pl i + 1) = stC k zs pl i + 1 := IntWalk.i64_in _ (by omega)
        have HGO : Hid (stB k zs pl i = true → ∀ j, j < i + 1 → stB k zs pl j = true) := fun hb j hj => (Nat.lt_succ_iff_lt_or_eq.1 hj).elim (fun e => HK.out j e) (fun e => by rw [e]; exact hb)
        obtain ⟨A3, c3, rfl, hs3⟩ := HO.out.sl_len rfl (by omega)
        have HI1 := Lib.hid (fun V (hV : Below wo.heap.size wo V) => index_any (stL k zs pl i) (atI zs i) A3 _ c3 V (hs3.below hV (Nat.le_refl _)))
        have HI2 := Lib.hid (fun V (hV : Below wo.heap.size wo V) => index_any (stL k zs pl i) (atI pl i) A3 _ c3 V (hs3.below hV (Nat.le_refl _)))
        have HS3 := Lib.hid hs3
        have HBZ : Hid (w.heap.size ≤ wo.heap.size) := HB.out.size
        clear HK HSL HSP HF hs3
        unfold stepL at HSF
        unfold stepB at HPK
        generalize atI zs i = page at *
        generalize atI pl i = gone at *
        generalize stC k zs pl i = cc at *
        generalize stL k zs pl i = S at *
        obtain ⟨nS, hnS⟩ : ∃ q, q = S.length := ⟨_, rfl⟩
        have HNS := Lib.hid hnS
        rw [← hnS] at HSF HPK HI1 HI2 HS3 hsl HO ⊢
        clear hnS
        by_cases hf : ixI S page < 0
        · rw [if_pos hf] at HSF HSC
          by_cases hfull : (nS : Int) = k
          · rw [if_pos hfull] at HSF
            rw [if_pos ⟨hf, hfull⟩] at HPK
            by_cases hg : ixI S gone < 0
            · have HPF : Hid (stB k zs pl i = false) := by rw [Hid, HPK.out]; simp [hg]
              clear HSF HSC
              generalize ixI S page = p1 at *
              generalize ixI S gone = p2 at *
              go_wp2_with (first
                | (go_at_call 50; (with_reducible refine (HI1.out _ (Below.refl _ _)).mono ?_); rintro e v1 ⟨rfl, rfl⟩)
                | (go_at_call 50; (with_reducible refine (HI2.out _ (Below.refl _ _)).mono ?_); rintro e v1 ⟨rfl, rfl⟩))
              go_ret2
              rw [HBAD.out HPF.out]
              exact ⟨rfl, HB.out⟩
            · obtain ⟨q, hq, hqn, _⟩ := ixI_is hg
              rw [← HNS.out] at hqn
              have HPF : Hid (stB k zs pl i = true) := by rw [Hid, HPK.out]; simp [hg]
              rw [hq, Int.toNat_natCast] at HSF
              rw [hq] at HI2
              have HWO := Lib.hid (fun V (hV : Below wo.heap.size wo V) => without_any A3 nS c3 q S V (HS3.out.below hV (Nat.le_refl _)) hqn (by omega))
              have HWL : Hid ((witho S q).length ≤ 1000) := by rw [Hid, witho_len HNS.out.symm hqn]; omega
              clear hg hq
              generalize ixI S page = p1 at *
              generalize witho S q = S2 at *
              go_upto_region 18 with (first
                | (go_at_call 50; (with_reducible refine (HI1.out _ (Below.refl _ _)).mono ?_); rintro e v1 ⟨rfl, rfl⟩)
                | (go_at_call 50; (with_reducible refine (HI2.out _ (Below.refl _ _)).mono ?_); rintro e v1 ⟨rfl, rfl⟩)
                | (go_at_call 52; (with_reducible refine (HWO.out _ (Below.refl _ _)).mono ?_); rintro e w2 ⟨⟨v2, rfl, ho2⟩, hb2⟩; have HO2 := Lib.hid (ho2.base HBZ.out); have HB2 := Lib.hid (HB.out.trans (hb2.mono HBZ.out)); clear ho2 hb2))
              have hc3 := (HC2.out w2 HB2.out).1
              have HBZ2 : Hid (w.heap.size ≤ w2.heap.size) := HB2.out.size
              have HL2 : Hid (S2.length ≤ 1099511627776) := by have := HWL.out; rw [Hid]; omega
              clear hc1 hc2
              go_wp2_with (at_builtin; go_must (refine push_law _ rfl (.tmp 58) (.tmp 63) 22 rfl w.heap.size 3 i0 Try.underlying22 HI.out _ S2 page rfl rfl HO2.out HL2.out HBZ2.out ?_); intro v3 w3 hv3 hg3 _; have HV3 := Lib.hid hv3; have HB3 := Lib.hid (HB2.out.grown hg3 HBZ2.out (fun j e => (HO2.out.lt e).1)); clear hv3 hg3)
              exact ⟨⟨i + 1, by omega, by go_num, by rw [HSC.out], HGO.out HPF.out, by rw [HSF.out]; exact HV3.out, HB3.out⟩, by simp [intOf]; omega⟩
          · rw [if_neg hfull] at HSF
            rw [if_neg (fun e => hfull e.2)] at HPK
            by_cases hg : gone = -1
            · have HPF : Hid (stB k zs pl i = true) := by rw [Hid, HPK.out]; exact decide_eq_true hg
              have hg1 : (gone == -1) = true := by simp [hg]
              have HL2 : Hid (S.length ≤ 1099511627776) := by have := HNS.out; rw [Hid]; omega
              clear hg
              generalize ixI S page = p1 at *
              go_wp2_with (first
                | (go_at_call 50; (with_reducible refine (HI1.out _ (Below.refl _ _)).mono ?_); rintro e v1 ⟨rfl, rfl⟩)
                | (at_builtin; go_must (refine push_law _ rfl (.tmp 58) (.tmp 63) 22 rfl w.heap.size 3 i0 Try.underlying22 HI.out _ S page rfl rfl HO.out HL2.out HBZ.out ?_); intro v3 w3 hv3 hg3 _; have HV3 := Lib.hid hv3; have HB3 := Lib.hid (HB.out.grown hg3 HBZ.out (fun j e => (HO.out.lt e).1)); clear hv3 hg3))
              exact ⟨⟨i + 1, by omega, by go_num, by rw [HSC.out], HGO.out HPF.out, by rw [HSF.out]; exact HV3.out, HB3.out⟩, by simp [intOf]; omega⟩
            · have HPF : Hid (stB k zs pl i = false) := by rw [Hid, HPK.out]; exact decide_eq_false hg
              have hg1 : (gone == -1) = false := by simp [hg]
              clear hg HSF HSC
              generalize ixI S page = p1 at *
              go_wp2_with (go_at_call 50; (with_reducible refine (HI1.out _ (Below.refl _ _)).mono ?_); rintro e v1 ⟨rfl, rfl⟩)
              go_ret2
              rw [HBAD.out HPF.out]
              exact ⟨rfl, HB.out⟩
        · rw [if_neg hf] at HSF HSC
          rw [if_neg (fun e => hf e.1)] at HPK
          by_cases hg : gone = -1
          · have HPF : Hid (stB k zs pl i = true) := by rw [Hid, HPK.out]; exact decide_eq_true hg
            have hg1 : (gone == -1) = true := by simp [hg]
            clear hg
            generalize ixI S page = p1 at *
            go_wp2_with (go_at_call 50; (with_reducible refine (HI1.out _ (Below.refl _ _)).mono ?_); rintro e v1 ⟨rfl, rfl⟩)
            exact ⟨⟨i + 1, by omega, by go_num, by rw [HSC.out], HGO.out HPF.out, by rw [HSF.out]; exact HO.out, HB.out⟩, by simp [intOf]; omega⟩
          · have HPF : Hid (stB k zs pl i = false) := by rw [Hid, HPK.out]; exact decide_eq_false hg
            have hg1 : (gone == -1) = false := by simp [hg]
            clear hg HSF HSC
            generalize ixI S page = p1 at *
            go_wp2_with (go_at_call 50; (with_reducible refine (HI1.out _ (Below.refl _ _)).mono ?_); rintro e v1 ⟨rfl, rfl⟩)
            go_ret2
            rw [HBAD.out HPF.out]
            exact ⟨rfl, HB.out⟩
      · have him : i = m := by omega
        subst him
        have i1 : ¬ (i : Int) < (i : Int) := by omega
        go_wp2
        go_ret2
        have hf := HF.out
        rw [if_neg (by rw [allB_iff.2 HK.out]; decide)] at hf
        rw [hf]
        exact ⟨rfl, HB.out⟩
  · have HF : Hid (fltR k zs pl = (0, false)) := by
      unfold fltR
      rw [Hid, HL.out, HM.out, decide_eq_false hmn, if_pos rfl]
    rw [HF.out]
    have i2 : ((m : Int) == (n : Int)) = false := by simp; omega
    clear hmn
    go_enter Try.func23, Try.ntmps23
    go_wp2
    go_ret2
    exact ⟨rfl, Below.refl _ _⟩
end Go.Proofs.Ytcnjkdkkflpgnaa
/- Layer 8: both ways of counting a plan's faults agree. -/
namespace Go.Proofs.Ytcnjkdkkflpgnaa
open Go.RowKit Go.Maps
set_option linter.unusedVariables false

theorem ixI_mem {S : List Int} {x : Int} : ixI S x < 0 ↔ x ∉ S := by
  have h := ixI_neg (zs := S) (x := x)
  constructor
  · intro h1 h2
    rw [decide_eq_true h1, decide_eq_true h2] at h; cases h
  · intro h1
    rw [decide_eq_false h1] at h
    exact of_decide_eq_true h
/-- A list without one element. -/
theorem witho_perm {S : List Int} {q : Nat} (hq : q < S.length) : List.Perm S (atI S q :: witho S q) := by
  have h1 : S = S.take q ++ atI S q :: S.drop (q + 1) := by
    unfold atI
    rw [List.getElem?_eq_getElem hq, Option.getD_some, List.getElem_cons_drop hq, List.take_append_drop]
  have h2 : List.Perm (S.take q ++ atI S q :: S.drop (q + 1)) (atI S q :: (S.take q ++ S.drop (q + 1))) := List.perm_middle
  rw [← h1] at h2
  exact h2
theorem witho_mem {S : List Int} {q : Nat} (hq : q < S.length) (hd : S.Nodup) (y : Int) : y ∈ witho S q ↔ y ∈ S ∧ y ≠ atI S q := by
  have hp := witho_perm hq
  have hn := hp.nodup_iff.1 hd
  rw [List.nodup_cons] at hn
  rw [hp.mem_iff, List.mem_cons]
  constructor
  · intro h
    exact ⟨.inr h, fun e => hn.1 (e ▸ h)⟩
  · rintro ⟨h | h, h2⟩
    · exact absurd h h2
    · exact h
theorem witho_nodup {S : List Int} {q : Nat} (hq : q < S.length) (hd : S.Nodup) : (witho S q).Nodup := by
  have hn := (witho_perm hq).nodup_iff.1 hd
  rw [List.nodup_cons] at hn
  exact hn.2
/-- The map and the list hold the same pages. -/
structure Sim (f : Int → Option Stay) (S : List Int) : Prop where
  mem : ∀ x, (f x).isSome = true ↔ x ∈ S
  nd : S.Nodup
  lo : ∀ x ∈ S, 0 ≤ x ∧ x < 16
theorem Sim.len {f : Int → Option Stay} {S : List Int} (h : Sim f S) : (keysS f).length = S.length := by
  have h1 := fun x => keysS_mem (f := f) (fun x hx => h.lo x ((h.mem x).1 hx)) x
  have hp : List.Perm (keysS f) S := (List.perm_ext_iff_of_nodup (keysS_nodup f) h.nd).2 (fun x => (h1 x).trans (h.mem x))
  exact hp.length_eq
theorem Sim.none : Sim (fun _ => none) [] := ⟨fun x => by simp, by simp, fun x hx => by cases hx⟩
theorem putS_some (f : Int → Option Stay) (x : Int) (s : Stay) (y : Int) : (putS f x s y).isSome = true ↔ (y = x ∨ (f y).isSome = true) := by
  unfold putS
  split
  · rename_i h; simp [h]
  · rename_i h; simp [h]
theorem delS_some (f : Int → Option Stay) (x : Int) (y : Int) : (delS f x y).isSome = true ↔ ((f y).isSome = true ∧ y ≠ x) := by
  unfold delS
  split
  · rename_i h; simp [h]
  · rename_i h; simp [h]
theorem Sim.lacks {f : Int → Option Stay} {S : List Int} (h : Sim f S) (page k : Int) : lacksB f page k = decide (ixI S page < 0 ∧ (S.length : Int) = k) := by
  unfold lacksB
  rw [h.len]
  cases hs : (f page).isSome
  · have h1 : ixI S page < 0 := ixI_mem.2 fun e => by rw [(h.mem page).2 e] at hs; cases hs
    by_cases e : (S.length : Int) = k
    · simp [h1, e]
    · simp [h1, e]
  · have h1 : ¬ ixI S page < 0 := fun e => ixI_mem.1 e ((h.mem page).1 hs)
    simp [h1]
theorem Sim.allow {f : Int → Option Stay} {S : List Int} (h : Sim f S) (page k gone : Int) : alwB f page k gone = stepB k page gone S := by
  unfold alwB stepB
  rw [h.lacks]
  by_cases hc : ixI S page < 0 ∧ (S.length : Int) = k
  · rw [decide_eq_true hc, if_pos rfl, if_pos hc]
    cases hs : (f gone).isSome
    · have : ixI S gone < 0 := ixI_mem.2 fun e => by rw [(h.mem gone).2 e] at hs; cases hs
      simp [this]
    · have : ¬ ixI S gone < 0 := fun e => ixI_mem.1 e ((h.mem gone).1 hs)
      simp [this]
  · rw [decide_eq_false hc, if_neg (by decide), if_neg hc]
    by_cases e : gone = -1
    · simp [e]
    · simp [e]
theorem Sim.step {f : Int → Option Stay} {S : List Int} (h : Sim f S) {page k gone : Int} (hp : 0 ≤ page ∧ page < 16) (i : Nat) (hb : stepB k page gone S = true) :
    Sim (srvS f i page gone) (stepL k page gone S) ∧ srvC f page gone = if ixI S page < 0 then 1 else 0 := by
  have hadd : ∀ g : Int → Option Stay, ∀ T : List Int, Sim g T → ixI T page < 0 → ∀ st, Sim (putS g page st) (T ++ [page]) := fun g T hg ht st => by
    refine ⟨fun x => ?_, ?_, fun x hx => ?_⟩
    · rw [putS_some, hg.mem, List.mem_append, List.mem_singleton, Or.comm]
    · exact List.nodup_append.2 ⟨hg.nd, by simp, fun a ha b hb' => by simp at hb'; subst hb'; exact fun e => ixI_mem.1 ht (e ▸ ha)⟩
    · rw [List.mem_append, List.mem_singleton] at hx
      rcases hx with hx | rfl
      · exact hg.lo x hx
      · exact hp
  unfold stepB at hb
  unfold srvS srvC stepL
  by_cases hf : ixI S page < 0
  · rw [if_pos hf, if_pos hf]
    by_cases hk : (S.length : Int) = k
    · rw [if_pos ⟨hf, hk⟩] at hb
      rw [if_pos hk]
      obtain ⟨q, e1, e2, e3⟩ := ixI_is (of_decide_eq_true hb)
      have hgS : gone ∈ S := Classical.byContradiction fun e => of_decide_eq_true hb (ixI_mem.2 e)
      have hg1 : gone ≠ -1 := fun e => by have := h.lo gone hgS; omega
      have hr : rmS f gone = delS f gone := if_neg hg1
      rw [hr, e1, Int.toNat_natCast]
      have hs : Sim (delS f gone) (witho S q) := by
        refine ⟨fun x => ?_, witho_nodup e2 h.nd, fun x hx => h.lo x ((witho_mem e2 h.nd x).1 hx).1⟩
        rw [delS_some, h.mem, witho_mem e2 h.nd, e3]
      have hpn : ixI (witho S q) page < 0 := ixI_mem.2 fun e => ixI_mem.1 hf ((witho_mem e2 h.nd page).1 e).1
      refine ⟨hadd _ _ hs hpn _, ?_⟩
      rw [if_neg]
      intro e
      exact ixI_mem.1 hpn ((hs.mem page).1 e)
    · rw [if_neg (fun e => hk e.2)] at hb
      rw [if_neg hk]
      have hr : rmS f gone = f := if_pos (of_decide_eq_true hb)
      rw [hr]
      refine ⟨hadd _ _ h hf _, ?_⟩
      rw [if_neg]
      intro e
      exact ixI_mem.1 hf ((h.mem page).1 e)
  · rw [if_neg (fun e => hf e.1)] at hb
    rw [if_neg hf, if_neg hf]
    have hr : rmS f gone = f := if_pos (of_decide_eq_true hb)
    rw [hr]
    have hin : page ∈ S := Classical.byContradiction fun e => hf (ixI_mem.2 e)
    refine ⟨⟨fun x => ?_, h.nd, h.lo⟩, if_pos ((h.mem page).2 hin)⟩
    rw [putS_some, h.mem]
    exact ⟨fun e => e.elim (fun e => e ▸ hin) id, .inr⟩
theorem sim_run {zs pl : List Int} (k : Int) (hz : ∀ i, i < zs.length → 0 ≤ atI zs i ∧ atI zs i < 16) : ∀ i, i ≤ zs.length → (∀ j, j < i → stB k zs pl j = true) → Sim (pF zs pl i) (stL k zs pl i) ∧ pC zs pl i = stC k zs pl i
  | 0, _, _ => ⟨Sim.none, rfl⟩
  | i + 1, hi, h => by
    obtain ⟨h1, h2⟩ := sim_run k hz i (by omega) (fun j hj => h j (by omega))
    obtain ⟨h3, h4⟩ := h1.step (hz i (by omega)) i (h i (by omega))
    refine ⟨h3, ?_⟩
    show pC zs pl i + srvC (pF zs pl i) (atI zs i) (atI pl i) = if ixI (stL k zs pl i) (atI zs i) < 0 then stC k zs pl i + 1 else stC k zs pl i
    rw [h4, h2]
    split <;> omega
theorem ok_run {zs pl : List Int} (k : Int) (hz : ∀ i, i < zs.length → 0 ≤ atI zs i ∧ atI zs i < 16) : ∀ i, i ≤ zs.length → ((∀ j, j < i → stB k zs pl j = true) ↔ ∀ j, j < i → pOk k zs pl j = true)
  | 0, _ => ⟨fun _ j hj => absurd hj (Nat.not_lt_zero _), fun _ j hj => absurd hj (Nat.not_lt_zero _)⟩
  | i + 1, hi => by
    have ih := ok_run (pl := pl) k hz i (by omega)
    have key : (∀ j, j < i → stB k zs pl j = true) → pOk k zs pl i = stB k zs pl i := fun h => (sim_run k hz i (by omega) h).1.allow _ _ _
    constructor
    · intro h j hj
      have h0 := fun j hj => h j (by omega : j < i + 1)
      rcases Nat.lt_succ_iff_lt_or_eq.1 hj with e | e
      · exact ih.1 (fun j hj => h j (by omega)) j e
      · rw [e, key (fun j hj => h j (by omega))]; exact h i (by omega)
    · intro h j hj
      have h0 := ih.2 (fun j hj => h j (by omega))
      rcases Nat.lt_succ_iff_lt_or_eq.1 hj with e | e
      · exact h0 j e
      · rw [e, ← key h0]; exact h i (by omega)
theorem flt_same {k : Int} {zs pl : List Int} (h1 : reqB zs 200 15 = true) (h2 : placesB k = true) : fltP k zs pl = if (fltR k zs pl).2 = true then ((fltR k zs pl).1, 0) else (0, 10) := by
  obtain ⟨_, hz⟩ := reqB_parts h1
  unfold fltP fltR
  rw [h1, h2, if_neg (by decide)]
  cases hl : decide (pl.length = zs.length)
  · rfl
  · have hr := ok_run (pl := pl) k hz zs.length (Nat.le_refl _)
    have hb : allB (pOk k zs pl) zs.length = allB (stB k zs pl) zs.length := by
      rw [Bool.eq_iff_iff, allB_iff, allB_iff]; exact hr.symm
    rw [hb]
    cases ha : allB (stB k zs pl) zs.length
    · rfl
    · rw [(sim_run k hz zs.length (Nat.le_refl _) (allB_iff.1 ha)).2]
      rfl
end Go.Proofs.Ytcnjkdkkflpgnaa
