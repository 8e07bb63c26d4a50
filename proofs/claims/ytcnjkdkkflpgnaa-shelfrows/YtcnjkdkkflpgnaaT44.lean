import Derived.Test.YtcnjkdkkflpgnaaT41
import Derived.Test.YtcnjkdkkflpgnaaT42
import Derived.Test.YtcnjkdkkflpgnaaT43
import Derived.Test.YtcnjkdkkflpgnaaT21
import Derived.Test.YtcnjkdkkflpgnaaT22
/- Layer 8: the walk of ShelfCosts. -/
namespace Go.Proofs.Ytcnjkdkkflpgnaa
open Go.RowKit Go.Maps
set_option linter.unusedVariables false

theorem req_row {x : Int} {zs : List Int} (h1 : 1 ≤ x) (h6 : x ≤ 6) : isRowB x zs = reqB zs 60 (x - 1) := by
  have hf : (fun j => lowB x (atI zs j)) = fun j => decide (0 ≤ zs[j]?.getD 0) && decide (zs[j]?.getD 0 ≤ x - 1) := funext fun j => by
    unfold lowB
    congr 1
    exact decide_eq_decide.2 (by show zs[j]?.getD 0 < x ↔ _; omega)
  unfold isRowB reqB belB
  rw [hf, decide_eq_true h1, decide_eq_true h6, Bool.and_comm]; rfl
theorem not_row {x : Int} {zs : List Int} (h : x < 1 ∨ 6 < x) : isRowB x zs = false := by
  unfold isRowB
  rcases h with h | h
  · rw [decide_eq_false (show ¬ 1 ≤ x by omega)]; rfl
  · rw [decide_eq_false (show ¬ x ≤ 6 by omega), Bool.and_false]; rfl
set_option maxRecDepth 100000 in
set_option maxHeartbeats 12800000 in
theorem costs_walk (x : Int) (A1 A2 : Option Addr) (n1 n2 c1 c2 : Nat) (zs : List Int) (R : List (List Int)) (w : World) (wx : (Lit.int .i64 x).wf = true) (h1 : Sl w A1 n1 c1 zs) (h2 : Sll w A2 n2 c2 R) :
    Calls Try.prog 7 #[.int .i64 x, .slice A1 n1 c1, .slice A2 n2 c2] w fun e w' => e = .returned (.bool true) ∧ Below w.heap.size w w' := by
  have HLI := Lib.hid (list_sl A1 n1 c1 zs w h1)
  have HTA := Lib.hid (fun V (hV : Below w.heap.size w V) => table_any R A2 n2 c2 V (h2.below hV (Nat.le_refl _)))
  have hbig2 := h2.big
  clear h1 h2
  go_enter Try.func7, Try.ntmps7
  go_upto_region 2 with (first
    | (go_at_call 16; refine HLI.out.mono ?_; rintro e w1 ⟨⟨A3, n3, c3, rfl, hn3, hs3⟩, hb1⟩; have HS3 := Lib.hid hs3; have HN3 := Lib.hid hn3; have HB1 := Lib.hid hb1; clear hs3 hn3 hb1)
    | (go_at_call 33; refine (HTA.out _ HB1.out).mono ?_; rintro e w2 ⟨⟨v, rfl, hv⟩, hb2⟩; have HHV := Lib.hid hv; have HE2 := Lib.hid hb2; have HB2 := Lib.hid (HB1.out.trans (hb2.mono HB1.out.size)); clear hv hb2))
  obtain ⟨A9, c9, rfl, hs9⟩ := HHV.out.sll rfl (by rw [tabL_len]; omega) (fun k hk => by
    unfold tabL ordAt
    rw [List.getElem?_map]
    cases (R.take 62)[k]? with
    | none => exact Nat.zero_le _
    | some l => show (l.take 8).length ≤ _; rw [List.length_take]; omega)
  have HS9 := Lib.hid hs9
  have HS3' := Lib.hid (HS3.out.below HE2.out (Nat.le_refl _))
  generalize tabL R 62 = hs at *
  generalize zs.take 201 = l at *
  obtain ⟨n9, hn9⟩ : ∃ q, q = hs.length := ⟨_, rfl⟩
  rw [← hn9] at HS9 ⊢
  have hbig9 := HS9.out.big
  have hn3 := HN3.out
  have HCP := Lib.hid (costP_any x l hs A3 A9 n3 c3 n9 c9 w2 HS3'.out HS9.out)
  clear hs9 hn9 HHV HTA HLI HS3
  cases hrb : isRowB x l
  · rw [hrb] at HCP
    have HCP2 : Hid (Calls Try.prog 35 #[.int .i64 x, .slice A3 n3 c3, .slice A9 n9 c9] w2 fun e w' => e = .returned (.tuple #[.int .i64 0, .int .i64 2]) ∧ Below w2.heap.size w2 w') := HCP.out.mono fun e w' ⟨h, hb⟩ => by
      rcases h with ⟨_, h⟩ | ⟨h, _⟩ | ⟨h, _⟩
      · exact ⟨h, hb⟩
      · cases h
      · cases h
    clear HCP
    have HRQ : Hid (1 ≤ x → x ≤ 6 → reqB l 60 (x - 1) = false) := fun a b => by rw [← req_row a b]; exact hrb
    clear hrb
    by_cases i1 : x < 1
    · go_wp2_with (first
        | (go_at_call 35; refine HCP2.out.mono ?_; rintro e w3 ⟨rfl, hb⟩; have HB3 := Lib.hid (HB2.out.trans (hb.mono HB2.out.size)); clear hb)
        | (go_at_call 21; (with_reducible refine (awake_here _).mono ?_); rintro e w5 ⟨rfl, hb⟩; have HB7 := Lib.hid (HB3.out.trans (hb.mono HB3.out.size)); clear hb))
      go_ret
      exact ⟨rfl, HB7.out⟩
    · by_cases i2 : x > 6
      · go_wp2_with (first
          | (go_at_call 35; refine HCP2.out.mono ?_; rintro e w3 ⟨rfl, hb⟩; have HB3 := Lib.hid (HB2.out.trans (hb.mono HB2.out.size)); clear hb)
          | (go_at_call 21; (with_reducible refine (awake_here _).mono ?_); rintro e w5 ⟨rfl, hb⟩; have HB7 := Lib.hid (HB3.out.trans (hb.mono HB3.out.size)); clear hb))
        go_ret
        exact ⟨rfl, HB7.out⟩
      · have v1 : IntKind.i64.wrap (x - 1) = x - 1 := IntWalk.i64_in _ (by omega)
        have HRE : Hid (∀ V, Below w2.heap.size w2 V → Calls Try.prog 20 #[.slice A3 n3 c3, .int .i64 60, .int .i64 (x - 1)] V fun e w' => e = .returned (.bool false) ∧ V = w') := fun V hV => by
          have := requests_any l 60 (x - 1) A3 n3 c3 V (HS3'.out.below hV (Nat.le_refl _))
          rw [HRQ.out (by omega) (by omega)] at this
          exact this
        go_wp2_with (first
          | (go_at_call 35; refine HCP2.out.mono ?_; rintro e w3 ⟨rfl, hb⟩; have HE3 := Lib.hid hb; have HB3 := Lib.hid (HB2.out.trans (hb.mono HB2.out.size)); clear hb)
          | (go_at_call 20; refine (HRE.out _ HE3.out).mono ?_; rintro e w4 ⟨rfl, rfl⟩)
          | (go_at_call 21; (with_reducible refine (awake_here _).mono ?_); rintro e w5 ⟨rfl, hb⟩; have HB7 := Lib.hid (HB3.out.trans (hb.mono HB3.out.size)); clear hb))
        go_ret
        exact ⟨rfl, HB7.out⟩
  · rw [hrb] at HCP
    obtain ⟨m, rfl, hm1, hm6, hl60, hz⟩ := isRowB_parts hrb
    rw [Int.toNat_natCast] at HCP
    have hlen := HS3'.out.len
    rw [hlen] at hz hl60
    have i1 : ¬ (m : Int) < 1 := by omega
    have i2 : ¬ (m : Int) > 6 := by omega
    have v1 : IntKind.i64.wrap ((m : Int) - 1) = (m : Int) - 1 := IntWalk.i64_in _ (by omega)
    have HRE : Hid (∀ V, Below w2.heap.size w2 V → Calls Try.prog 20 #[.slice A3 n3 c3, .int .i64 60, .int .i64 ((m : Int) - 1)] V fun e w' => e = .returned (.bool true) ∧ V = w') := fun V hV => by
      have := requests_any l 60 ((m : Int) - 1) A3 n3 c3 V (HS3'.out.below hV (Nat.le_refl _))
      rw [← req_row (by omega) (by omega), hrb] at this
      exact this
    have HRC := Lib.hid (fun V (hV : Below w2.heap.size w2 V) => costR_any m l hs A3 A9 n3 c3 n9 c9 V (HS3'.out.below hV (Nat.le_refl _)) (HS9.out.below hV (Nat.le_refl _)) hm1 hm6 (by omega) hz)
    have HCR : Hid (hisB m hs n3 = true → cstF l hs n3 = refC m l hs n3) := fun h => cst_ref hm6 (hisB_parts h).2 hz n3 (Nat.le_refl _)
    cases hhb : hisB m hs n3
    · rw [hhb] at HCP HRC
      have HCP2 : Hid (Calls Try.prog 35 #[.int .i64 (m : Int), .slice A3 n3 c3, .slice A9 n9 c9] w2 fun e w' => e = .returned (.tuple #[.int .i64 0, .int .i64 10]) ∧ Below w2.heap.size w2 w') := HCP.out.mono fun e w' ⟨h, hb⟩ => by
        rcases h with ⟨h, _⟩ | ⟨_, _, h⟩ | ⟨_, h, _⟩
        · cases h
        · exact ⟨h, hb⟩
        · cases h
      have HRC2 : Hid (∀ V, Below w2.heap.size w2 V → Calls Try.prog 32 #[.int .i64 (m : Int), .slice A3 n3 c3, .slice A9 n9 c9] V fun e w' => e = .returned (.tuple #[.int .i64 0, .bool false]) ∧ Below V.heap.size V w') := fun V hV => (HRC.out V hV).mono fun e w' ⟨h, hb⟩ => by
        rcases h with ⟨h, _⟩ | ⟨_, h⟩
        · cases h
        · exact ⟨h, hb⟩
      clear HCP HRC HCR hhb hrb hz hlen
      go_wp2_with (first
        | (go_at_call 35; refine HCP2.out.mono ?_; rintro e w3 ⟨rfl, hb⟩; have HE3 := Lib.hid hb; have HB3 := Lib.hid (HB2.out.trans (hb.mono HB2.out.size)); clear hb)
        | (go_at_call 20; refine (HRE.out _ HE3.out).mono ?_; rintro e w4 ⟨rfl, rfl⟩)
        | (go_at_call 32; refine (HRC2.out _ HE3.out).mono ?_; rintro e w4 ⟨rfl, hb⟩; have HB4 := Lib.hid (HB3.out.trans (hb.mono HB3.out.size)); clear hb)
        | (go_at_call 21; (with_reducible refine (awake_here _).mono ?_); rintro e w5 ⟨rfl, hb⟩; have HB7 := Lib.hid (HB4.out.trans (hb.mono HB4.out.size)); clear hb))
      go_ret
      exact ⟨rfl, HB7.out⟩
    · have hcr := HCR.out hhb
      rw [hhb] at HCP HRC
      rw [hcr] at HCP
      generalize refC m l hs n3 = C at *
      have HCP2 : Hid (Calls Try.prog 35 #[.int .i64 (m : Int), .slice A3 n3 c3, .slice A9 n9 c9] w2 fun e w' => e = .returned (.tuple #[.int .i64 C, .int .i64 0]) ∧ Below w2.heap.size w2 w') := HCP.out.mono fun e w' ⟨h, hb⟩ => by
        rcases h with ⟨h, _⟩ | ⟨_, h, _⟩ | ⟨_, _, h⟩
        · cases h
        · cases h
        · exact ⟨h, hb⟩
      have HRC2 : Hid (∀ V, Below w2.heap.size w2 V → Calls Try.prog 32 #[.int .i64 (m : Int), .slice A3 n3 c3, .slice A9 n9 c9] V fun e w' => e = .returned (.tuple #[.int .i64 C, .bool true]) ∧ Below V.heap.size V w') := fun V hV => (HRC.out V hV).mono fun e w' ⟨h, hb⟩ => by
        rcases h with ⟨_, h⟩ | ⟨h, _⟩
        · exact ⟨h, hb⟩
        · cases h
      have g1 : (C == C) = true := by simp
      clear HCP HRC HCR hhb hrb hz hlen hcr
      go_wp2_with (first
        | (go_at_call 35; refine HCP2.out.mono ?_; rintro e w3 ⟨rfl, hb⟩; have HE3 := Lib.hid hb; have HB3 := Lib.hid (HB2.out.trans (hb.mono HB2.out.size)); clear hb)
        | (go_at_call 20; refine (HRE.out _ HE3.out).mono ?_; rintro e w4 ⟨rfl, rfl⟩)
        | (go_at_call 32; refine (HRC2.out _ HE3.out).mono ?_; rintro e w4 ⟨rfl, hb⟩; have HB4 := Lib.hid (HB3.out.trans (hb.mono HB3.out.size)); clear hb)
        | (go_at_call 21; (with_reducible refine (awake_here _).mono ?_); rintro e w5 ⟨rfl, hb⟩; have HB7 := Lib.hid (HB4.out.trans (hb.mono HB4.out.size)); clear hb))
      go_ret
      exact ⟨rfl, HB7.out⟩
end Go.Proofs.Ytcnjkdkkflpgnaa
