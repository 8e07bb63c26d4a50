import Derived.Test.YtmbdjjkgjnemiaaT16
import Derived.Test.YtmbdjjkgjnemiaaT10
/- Layer 6: refutes, proves, Check. -/
namespace Go.Proofs.Ytmbdjjkgjnemiaa
open Go.RowKit Go.Maps
set_option linter.unusedVariables false

def byteI (z : ByteArray) (k : Nat) : Int := (bs z)[k]?.getD 0
theorem bs_drop {z : ByteArray} {k : Nat} (h : k < z.size) : (bs z).drop k = byteI z k :: (bs z).drop (k + 1) := by
  have h' : k < (bs z).length := by rw [bs_len]; exact h
  rw [List.drop_eq_getElem_cons h']
  unfold byteI
  rw [List.getElem?_eq_getElem h']
  rfl
theorem run_byte (z : ByteArray) {k : Nat} (h : k < z.size) (w : World) : (Instr.index 9 (.string z) (.int .i64 (k : Int))).run Try.prog w = .ok (.int .u8 (byteI z k)) w := by
  rw [run_index_string w 9 z .i64 (k : Int) Try.underlying9, dif_pos ⟨by omega, by omega⟩]
  have h' : k < (bs z).length := by rw [bs_len]; exact h
  have e : byteI z k = ((z[k]'h).toNat : Int) := by
    unfold byteI
    rw [List.getElem?_eq_getElem h']
    simp [bs]
    rfl
  rw [e]
  rfl
theorem refB_end (N : List Nd) (p : Pt) (z : ByteArray) : refB N p ((bs z).drop z.size) = decide (jud N p = 1) := by
  rw [List.drop_of_length_le (by rw [bs_len]; exact Nat.le_refl _)]
  rfl
theorem refB_no {N : List Nd} {p : Pt} {c : Int} {s : List Int} (h : jud N p ≠ 2) : refB N p (c :: s) = false := by
  rw [refB, decide_eq_false h, Bool.false_and]
theorem refB_a {N : List Nd} {p : Pt} {s : List Int} (h : jud N p = 2) : refB N p (97 :: s) = refB N (pA N p) s := by
  rw [refB, decide_eq_true h]
  simp
theorem refB_b {N : List Nd} {p : Pt} {s : List Int} (h : jud N p = 2) : refB N p (98 :: s) = refB N (pB N p) s := by
  rw [refB, decide_eq_true h]
  simp
theorem refB_x {N : List Nd} {p : Pt} {c : Int} {s : List Int} (h1 : c ≠ 97) (h2 : c ≠ 98) : refB N p (c :: s) = false := by
  rw [refB, decide_eq_false h1, decide_eq_false h2]
  simp
set_option maxRecDepth 100000 in
set_option maxHeartbeats 6400000 in
theorem refutes_any (N : List Nd) (A : Option Addr) (n c p q : Nat) (z : ByteArray) (w : World) (hN : Nl w A n c N) (hok : OkN N) (hp : p < n) (hq : q < n) (hn : n ≤ 1000) (hz : z.size ≤ 1099511627776) :
    Calls Try.prog 58 #[.slice A n c, .agg #[.int .i64 (p : Int), .int .i64 (q : Int)], .string z] w fun e w' => e = .returned (.bool (refB N (p, q) (bs z))) ∧ Below w.heap.size w w' := by
  have HL : Hid (N.length = n) := hN.len
  have HN := Lib.hid hN
  have HOK := Lib.hid hok
  have HP0 : Hid (p < n ∧ q < n) := ⟨hp, hq⟩
  clear hN hok hp hq
  go_enter Try.func58, Try.ntmps58
  go_wp2
  have HB0 : Hid (Below w.heap.size w (w.alloc (.cells #[.int .i64 (p : Int), .int .i64 (q : Int)] 23))) := (Below.refl _ w).alloc (Nat.le_refl _) _
  have HH0 : Hid ((w.alloc (.cells #[.int .i64 (p : Int), .int .i64 (q : Int)] 23)).heap[w.heap.size]? = some (.cells #[.int .i64 (p : Int), .int .i64 (q : Int)] 23 (0, 0))) := heap_alloc_new _ _
  generalize w.alloc (.cells #[.int .i64 (p : Int), .int .i64 (q : Int)] 23) = W0 at *
  go_loopw [11] (fun i w' => ∃ k x y : Nat, k ≤ z.size ∧ i = .int .i64 (k : Int) ∧ Hid (x < n ∧ y < n) ∧ Hid (refB N (x, y) ((bs z).drop k) = refB N (p, q) (bs z)) ∧ Hid (Below w.heap.size w w') ∧ Hid (w'.heap[w.heap.size]? = some (.cells #[.int .i64 (x : Int), .int .i64 (y : Int)] 23 (0, 0)))) (fun i _ => z.size - (intOf i).toNat)
  case atStart => exact ⟨0, p, q, by omega, by go_num, HP0.out, rfl, HB0.out, HH0.out⟩
  case round =>
    obtain ⟨k, x, y, hk, rfl, HXY, HR, HB, HH⟩ := hrel
    obtain ⟨wo, rfl⟩ : ∃ wo : World, wo = wr := ⟨_, rfl⟩
    clear HB0 HH0 W0
    have hx := HXY.out.1
    have hy := HXY.out.2
    have HJ : Hid (∀ r, jud N (x, y) = r → Calls Try.prog 55 #[.slice A n c, .agg #[.int .i64 (x : Int), .int .i64 (y : Int)]] wo fun e w' => e = .returned (.int .i64 (r : Nat)) ∧ Below wo.heap.size wo w') := fun r hr => hr ▸ judge_any N A n c x y wo (HN.out.below HB.out (Nat.le_refl _)) HOK.out hx hy
    have e0 := cell_in HH.out (i := 0) rfl
    have e1 := cell_in HH.out (i := 1) rfl
    have HLT : Hid (w.heap.size < wo.heap.size) := (Array.getElem?_eq_some_iff.1 HH.out).1
    by_cases hlt : k < z.size
    · have i1 : (k : Int) < (z.size : Int) := by omega
      have HD := Lib.hid (bs_drop hlt)
      by_cases hj2 : jud N (x, y) = 2
      · have HJ2 := Lib.hid (HJ.out 2 hj2)
        obtain ⟨a1, a2, hA⟩ : ∃ a1 a2, pA N (x, y) = (a1, a2) := ⟨_, _, rfl⟩
        obtain ⟨b1, b2, hB⟩ : ∃ b1 b2, pB N (x, y) = (b1, b2) := ⟨_, _, rfl⟩
        have hin : inP N.length (x, y) := ⟨by rw [HL.out]; exact hx, by rw [HL.out]; exact hy⟩
        have hia := HOK.out.pA hin
        have hib := HOK.out.pB hin
        have HPT : Hid (∀ W, Below wo.heap.size wo W → Calls Try.prog 56 #[.slice A n c, .agg #[.int .i64 (x : Int), .int .i64 (y : Int)]] W fun e w' => e = .returned (.agg #[.int .i64 (a1 : Int), .int .i64 (a2 : Int), .int .i64 (b1 : Int), .int .i64 (b2 : Int)]) ∧ Below W.heap.size W w') := fun W hW => by
          have := parts_any N A n c x y W (HN.out.below (HB.out.trans (hW.mono HB.out.size)) (Nat.le_refl _)) hx hy
          rw [hA, hB] at this
          exact this
        rw [hA, HL.out] at hia
        rw [hB, HL.out] at hib
        have HIA : Hid (a1 < n ∧ a2 < n) := hia
        have HIB : Hid (b1 < n ∧ b2 < n) := hib
        have HRA : Hid (byteI z k = 97 → refB N (a1, a2) ((bs z).drop (k + 1)) = refB N (p, q) (bs z)) := fun h => by
          rw [← HR.out, HD.out, h, refB_a hj2, hA]
        have HRB : Hid (byteI z k = 98 → refB N (b1, b2) ((bs z).drop (k + 1)) = refB N (p, q) (bs z)) := fun h => by
          rw [← HR.out, HD.out, h, refB_b hj2, hB]
        have HRX : Hid (byteI z k ≠ 97 → byteI z k ≠ 98 → false = refB N (p, q) (bs z)) := fun h1 h2 => by
          rw [← HR.out, HD.out, refB_x h1 h2]
        have hix := run_byte z hlt
        generalize byteI z k = ch at *
        clear hj2 hA hB hin hia hib HJ HR HD HXY hx hy
        by_cases hc : ch = 97
        · subst hc
          have HRA2 := Lib.hid (HRA.out rfl)
          have HI : Hid ((Try.prog.info? 23).map (·.size) = some (#[Value.int .i64 (a1 : Int), Value.int .i64 (a2 : Int)] : Array Value).size) := Try.sizePt
          clear HRA HRB HRX
          go_wp2_with (first
            | (go_at_call 55; refine HJ2.out.mono ?_; rintro e w1 ⟨rfl, hb1⟩; have H1 := Lib.hid ((hb1.block _ HLT.out).trans HH.out); have e0' := cell_in H1.out (i := 0) rfl; have e1' := cell_in H1.out (i := 1) rfl; have HB1 := Lib.hid hb1; clear hb1 e0 e1)
            | (go_at_call 56; refine (HPT.out _ HB1.out).mono ?_; rintro e w2 ⟨rfl, hb2⟩; have H2 := Lib.hid ((hb2.block _ (Array.getElem?_eq_some_iff.1 H1.out).1).trans H1.out); have HB2 := Lib.hid (HB.out.trans ((HB1.out.trans (hb2.mono HB1.out.size)).mono HB.out.size)); have HAL : Hid (∀ o, (w2.alloc o).heap[w.heap.size]? = some (.cells #[.int .i64 (x : Int), .int .i64 (y : Int)] 23 (0, 0)) ∧ Below w.heap.size w (w2.alloc o)) := fun o => ⟨(((Below.refl _ w2).alloc (Nat.le_refl _) o).block _ (Array.getElem?_eq_some_iff.1 H2.out).1).trans H2.out, HB2.out.alloc HB2.out.size o⟩; clear hb2 e0' e1')
            | (refine wpList_store_row (by rfl) 23 (.tmp 4) (.tmp 27) (by rfl) w.heap.size _ (by rfl) (by rfl) 23 _ (HAL.out _).1 HI.out (by rfl) (by simp [Value.oneCell']) ?_; obtain ⟨W6, hW6, r1, r2, r3⟩ := row_set #[.int .i64 (a1 : Int), .int .i64 (a2 : Int)] (HAL.out (.cells #[.int .i64 (a1 : Int), .int .i64 (a2 : Int), .int .i64 (b1 : Int), .int .i64 (b2 : Int)] 90)).1; rw [← hW6]; have HH6 := Lib.hid r1; have HB6 := Lib.hid ((HAL.out _).2.trans (r3 _ (Nat.le_refl _))); clear hW6 r1 r2 r3))
          exact ⟨⟨k + 1, a1, a2, by omega, by go_num, HIA.out, HRA2.out, HB6.out, HH6.out⟩, by simp [intOf]; omega⟩
        · by_cases hd : ch = 98
          · subst hd
            have HRB2 := Lib.hid (HRB.out rfl)
            have HI : Hid ((Try.prog.info? 23).map (·.size) = some (#[Value.int .i64 (b1 : Int), Value.int .i64 (b2 : Int)] : Array Value).size) := Try.sizePt
            clear HRA HRB HRX hc
            go_wp2_with (first
              | (go_at_call 55; refine HJ2.out.mono ?_; rintro e w1 ⟨rfl, hb1⟩; have H1 := Lib.hid ((hb1.block _ HLT.out).trans HH.out); have e0' := cell_in H1.out (i := 0) rfl; have e1' := cell_in H1.out (i := 1) rfl; have HB1 := Lib.hid hb1; clear hb1 e0 e1)
              | (go_at_call 56; refine (HPT.out _ HB1.out).mono ?_; rintro e w2 ⟨rfl, hb2⟩; have H2 := Lib.hid ((hb2.block _ (Array.getElem?_eq_some_iff.1 H1.out).1).trans H1.out); have HB2 := Lib.hid (HB.out.trans ((HB1.out.trans (hb2.mono HB1.out.size)).mono HB.out.size)); have HAL : Hid (∀ o, (w2.alloc o).heap[w.heap.size]? = some (.cells #[.int .i64 (x : Int), .int .i64 (y : Int)] 23 (0, 0)) ∧ Below w.heap.size w (w2.alloc o)) := fun o => ⟨(((Below.refl _ w2).alloc (Nat.le_refl _) o).block _ (Array.getElem?_eq_some_iff.1 H2.out).1).trans H2.out, HB2.out.alloc HB2.out.size o⟩; clear hb2 e0' e1')
              | (refine wpList_store_row (by rfl) 23 (.tmp 4) (.tmp 31) (by rfl) w.heap.size _ (by rfl) (by rfl) 23 _ (HAL.out _).1 HI.out (by rfl) (by simp [Value.oneCell']) ?_; obtain ⟨W6, hW6, r1, r2, r3⟩ := row_set #[.int .i64 (b1 : Int), .int .i64 (b2 : Int)] (HAL.out (.cells #[.int .i64 (a1 : Int), .int .i64 (a2 : Int), .int .i64 (b1 : Int), .int .i64 (b2 : Int)] 90)).1; rw [← hW6]; have HH6 := Lib.hid r1; have HB6 := Lib.hid ((HAL.out _).2.trans (r3 _ (Nat.le_refl _))); clear hW6 r1 r2 r3))
            exact ⟨⟨k + 1, b1, b2, by omega, by go_num, HIB.out, HRB2.out, HB6.out, HH6.out⟩, by simp [intOf]; omega⟩
          · have HX := Lib.hid (HRX.out hc hd)
            have g1 : (ch == 97) = false := by simpa using hc
            have g2 : (ch == 98) = false := by simpa using hd
            clear HRA HRB HRX hc hd
            go_wp2_with (first
              | (go_at_call 55; refine HJ2.out.mono ?_; rintro e w1 ⟨rfl, hb1⟩; have H1 := Lib.hid ((hb1.block _ HLT.out).trans HH.out); have e0' := cell_in H1.out (i := 0) rfl; have e1' := cell_in H1.out (i := 1) rfl; have HB1 := Lib.hid hb1; clear hb1 e0 e1)
              | (go_at_call 56; refine (HPT.out _ HB1.out).mono ?_; rintro e w2 ⟨rfl, hb2⟩; have H2 := Lib.hid ((hb2.block _ (Array.getElem?_eq_some_iff.1 H1.out).1).trans H1.out); have HB2 := Lib.hid (HB.out.trans ((HB1.out.trans (hb2.mono HB1.out.size)).mono HB.out.size)); have HAL : Hid (∀ o, (w2.alloc o).heap[w.heap.size]? = some (.cells #[.int .i64 (x : Int), .int .i64 (y : Int)] 23 (0, 0)) ∧ Below w.heap.size w (w2.alloc o)) := fun o => ⟨(((Below.refl _ w2).alloc (Nat.le_refl _) o).block _ (Array.getElem?_eq_some_iff.1 H2.out).1).trans H2.out, HB2.out.alloc HB2.out.size o⟩; clear hb2 e0' e1'))
            go_ret
            exact ⟨bend HX.out, (HAL.out _).2⟩
      · have HX := Lib.hid (show false = refB N (p, q) (bs z) by rw [← HR.out, HD.out, refB_no hj2])
        have hj3 : jud N (x, y) = 0 ∨ jud N (x, y) = 1 := by have := jud_lt N (x, y); omega
        clear HR HD hj2
        rcases hj3 with hj | hj
        all_goals (
          have HJ2 := Lib.hid (HJ.out _ hj)
          clear hj HJ
          go_wp2_with (go_at_call 55; refine HJ2.out.mono ?_; rintro e w1 ⟨rfl, hb1⟩)
          go_ret
          exact ⟨bend HX.out, HB.out.trans (hb1.mono HB.out.size)⟩)
    · have hkz : k = z.size := by omega
      have i1 : ¬ (k : Int) < (z.size : Int) := by omega
      have HX : Hid (refB N (p, q) (bs z) = decide (jud N (x, y) = 1)) := by rw [Hid, ← HR.out, hkz, refB_end]
      clear HR hkz hlt
      rcases jud_lt N (x, y) with hj | hj | hj
      all_goals (
        have HJ2 := Lib.hid (HJ.out _ hj)
        rw [hj] at HX
        clear hj HJ
        go_wp2_with (go_at_call 55; refine HJ2.out.mono ?_; rintro e w1 ⟨rfl, hb1⟩)
        go_ret
        exact ⟨bend HX.out.symm, HB.out.trans (hb1.mono HB.out.size)⟩)
end Go.Proofs.Ytmbdjjkgjnemiaa
/- Layer 6: proves. -/
namespace Go.Proofs.Ytmbdjjkgjnemiaa
open Go.RowKit Go.Maps
set_option linter.unusedVariables false

/-- Whether a finding is right. -/
def prB (N : List Nd) (p : Pt) (b : Bool) (ps : List (Int × Int)) (t : ByteArray) : Bool := if b = true then decide (t.toList = []) && cloB N ps p else decide (ps.length = 0) && refB N p (bs t)
set_option maxRecDepth 100000 in
set_option maxHeartbeats 6400000 in
theorem proves_any (N : List Nd) (A : Option Addr) (n c p q : Nat) (b : Bool) (X : Option Addr) (m d : Nat) (ps : List (Int × Int)) (t : ByteArray) (w : World) (hN : Nl w A n c N) (hok : OkN N) (hp : p < n) (hq : q < n) (hn : n ≤ 1000) (hP : Plr w X m d ps) (ht : t.size ≤ 1099511627776) :
    Calls Try.prog 42 #[.slice A n c, .agg #[.int .i64 (p : Int), .int .i64 (q : Int)], .agg #[.bool b, .slice X m d, .string t]] w fun e w' => e = .returned (.bool (prB N (p, q) b ps t)) ∧ Below w.heap.size w w' := by
  obtain ⟨W, hW⟩ : ∃ W, W = (w.alloc (.cells #[.int .i64 (p : Int), .int .i64 (q : Int)] 23)).alloc (.cells #[.bool b, .slice X m d, .string t] 27) := ⟨_, rfl⟩
  have hb : Below w.heap.size w W := by rw [hW]; exact ((Below.refl _ w).alloc (Nat.le_refl _) _).alloc (by simp) _
  have HCL : Hid (∀ r, cloB N ps (p, q) = r → Calls Try.prog 57 #[.slice A n c, .agg #[.int .i64 (p : Int), .int .i64 (q : Int)], .slice X m d] W fun e w' => e = .returned (.bool r) ∧ Below W.heap.size W w') := fun r h => h ▸ closes_any N A n c p q X m d ps W (hN.below hb (Nat.le_refl _)) hok hp hq hn (hP.below hb (Nat.le_refl _))
  have HRF : Hid (∀ r, refB N (p, q) (bs t) = r → Calls Try.prog 58 #[.slice A n c, .agg #[.int .i64 (p : Int), .int .i64 (q : Int)], .string t] W fun e w' => e = .returned (.bool r) ∧ Below W.heap.size W w') := fun r h => h ▸ refutes_any N A n c p q t W (hN.below hb (Nat.le_refl _)) hok hp hq hn ht
  have HB := Lib.hid hb
  have HW := Lib.hid hW
  have hl := hP.len
  have hbig := hP.big
  clear hb hW hN hok hP
  rcases b with _ | _
  · by_cases h0 : m = 0
    · subst h0
      have HX : Hid (refB N (p, q) (bs t) = prB N (p, q) false ps t) := by rw [Hid]; unfold prB; rw [if_neg (by decide), decide_eq_true hl]; rfl
      have HR := Lib.hid (HRF.out _ rfl)
      clear HCL HRF
      rw [HX.out] at HR
      go_enter Try.func42, Try.ntmps42
      go_wp2_with (go_at_call 58; rw [← HW.out]; refine HR.out.mono ?_; rintro e w1 ⟨rfl, hb1⟩)
      go_ret
      exact ⟨rfl, HB.out.trans (hb1.mono HB.out.size)⟩
    · have HX : Hid (false = prB N (p, q) false ps t) := by rw [Hid]; unfold prB; rw [if_neg (by decide), decide_eq_false (by rw [hl]; exact h0)]; rfl
      have g0 : ((m : Int) == 0) = false := by simpa using h0
      clear HCL HRF h0
      go_enter Try.func42, Try.ntmps42
      go_wp2
      rw [← HW.out]
      go_ret
      exact ⟨bend HX.out, HB.out⟩
  · by_cases h0 : t.toList = []
    · have HX : Hid (cloB N ps (p, q) = prB N (p, q) true ps t) := by rw [Hid]; unfold prB; rw [if_pos rfl, decide_eq_true h0]; rfl
      have HR := Lib.hid (HCL.out _ rfl)
      have g0 : t.toList.isEmpty = true := by rw [h0]; rfl
      clear HCL HRF
      rw [HX.out] at HR
      go_enter Try.func42, Try.ntmps42
      go_wp2_with (go_at_call 57; rw [← HW.out]; refine HR.out.mono ?_; rintro e w1 ⟨rfl, hb1⟩)
      go_ret
      exact ⟨rfl, HB.out.trans (hb1.mono HB.out.size)⟩
    · have HX : Hid (false = prB N (p, q) true ps t) := by rw [Hid]; unfold prB; rw [if_pos rfl, decide_eq_false h0]; rfl
      have g0 : t.toList.isEmpty = false := by simpa using h0
      clear HCL HRF
      go_enter Try.func42, Try.ntmps42
      go_wp2
      rw [← HW.out]
      go_ret
      exact ⟨bend HX.out, HB.out⟩
end Go.Proofs.Ytmbdjjkgjnemiaa
/- Layer 6: Check, the law's finding. -/
namespace Go.Proofs.Ytmbdjjkgjnemiaa
open Go.RowKit Go.Maps
set_option linter.unusedVariables false

set_option maxRecDepth 100000 in
set_option maxHeartbeats 6400000 in
/-- Check of types. -/
theorem check_any (zs : List Ty) (A : Option Addr) (n c p q : Nat) (b : Bool) (X : Option Addr) (m d : Nat) (ps : List (Int × Int)) (t : ByteArray) (w : World) (hN : Tl w A n c zs) (hv : valB zs = true) (hp : p < n) (hq : q < n) (hP : Plr w X m d ps) (ht : t.size ≤ 1099511627776) (r : Bool) (hr : prB (toN zs) (p, q) b ps t = r) :
    Calls Try.prog 18 #[.slice A n c, .int .i64 (p : Int), .int .i64 (q : Int), .agg #[.bool b, .slice X m d, .string t]] w fun e w' => e = .returned (.int .i64 (if r = true then 0 else 10)) ∧ Below w.heap.size w w' := by
  have h24 := (valB_len hv).2
  have hl := hN.len
  have HV : Hid (∀ W g, Below w.heap.size w W → Sl W (some ⟨g, 0, none⟩) 2 2 [(p : Int), (q : Int)] → Calls Try.prog 40 #[.slice A n c, .slice (some ⟨g, 0, none⟩) 2 2] W fun e w' => e = .returned (.bool true) ∧ Below W.heap.size W w') := fun W g hb hs => valid2 (b := true) (by rw [hv, inB_of (by omega), inB_of (by omega)]; rfl) (hN.below hb (Nat.le_refl _)) hs
  have HPR : Hid (∀ W, Below w.heap.size w W → Calls Try.prog 42 #[.slice A n c, .agg #[.int .i64 (p : Int), .int .i64 (q : Int)], .agg #[.bool b, .slice X m d, .string t]] W fun e w' => e = .returned (.bool r) ∧ Below W.heap.size W w') := fun W hW => hr ▸ proves_any (toN zs) A n c p q b X m d ps t W ((hN.nl hv).below hW (Nat.le_refl _)) (valB_ok hv) hp hq (by omega) (hP.below hW (Nat.le_refl _)) ht
  have hA1 : ∀ o, Below w.heap.size w (w.alloc o) := fun o => (Below.refl _ _).alloc (Nat.le_refl _) _
  have HA2 : Hid (∀ o o', Below w.heap.size w ((w.alloc o).alloc o')) := fun o o' => (hA1 o).alloc (by simp) _
  have HF0 : Hid (∀ o o', ((w.alloc o).alloc o').heap[w.heap.size]? = some o ∧ w.heap.size < ((w.alloc o).alloc o').heap.size) := fun o o' => by
    constructor
    · show ((w.heap.push _).push _)[w.heap.size]? = _
      rw [Array.getElem?_push, if_neg (by simp), Array.getElem?_push, if_pos rfl]
    · simp; omega
  clear hA1 hN hv hr hP
  rcases r with _ | _
  all_goals (
    go_enter Try.func18, Try.ntmps18
    go_wp2_with (first
      | (go_at_call 40; refine (HV.out _ _ (HA2.out _ _) (Sl.two_at _ _ _ _ _ (by simp))).mono ?_; rintro e w1 ⟨rfl, hb1⟩; have HB1 := Lib.hid ((HA2.out _ _).trans (hb1.mono (HA2.out _ _).size)); have hf := (hb1.block _ (HF0.out _ _).2).trans (HF0.out _ _).1; have e0 := cell_in hf (i := 0) rfl; have e1 := cell_in hf (i := 1) rfl; have e2 := cell_in hf (i := 2) rfl; clear hb1 hf)
      | (go_at_call 42; refine (HPR.out _ HB1.out).mono ?_; rintro e w2 ⟨rfl, hb2⟩; have HB2 := Lib.hid (HB1.out.trans (hb2.mono HB1.out.size)); clear hb2))
    go_ret
    exact ⟨rfl, HB2.out⟩)
end Go.Proofs.Ytmbdjjkgjnemiaa
