import Derived.Test.YtcnjkdkkflpgnaaT02
import Derived.Test.YtcnjkdkkflpgnaaT03
/- Layer 8: exchanges, Turned. -/
namespace Go.Proofs.Ytcnjkdkkflpgnaa
open Go.RowKit
set_option linter.unusedVariables false

/-- An order of a list of orders. -/
def ordAt (L : List (List Int)) (k : Nat) : List Int := L[k]?.getD []
/-- The slice A n c holds these orders. -/
structure Slo (w : World) (A : Option Addr) (n c : Nat) (L : List (List Int)) : Prop where
  len : L.length = n
  cap : n ≤ c
  big : n ≤ 1000000
  six : ∀ o ∈ L, o.length = 6
  rows : ∀ k, k < n → ∃ b off, A = some ⟨b, off, none⟩ ∧ b < w.heap.size ∧ ∀ j, j < 6 → w.cell? ⟨b, off + k * 6 + j, none⟩ = some (.int .i64 (atI (ordAt L k) j))
theorem Slo.below {w w' : World} {A : Option Addr} {n c B : Nat} {L : List (List Int)} (h : Slo w A n c L) (hb : Below B w w') (hB : w.heap.size ≤ B) : Slo w' A n c L :=
  ⟨h.len, h.cap, h.big, h.six, fun k hk => by
    obtain ⟨b, off, e, hlt, hc⟩ := h.rows k hk
    exact ⟨b, off, e, Nat.lt_of_lt_of_le hlt hb.size, fun j hj => (hb.cell (p := ⟨b, off + k * 6 + j, none⟩) (by show b < B; omega)).trans (hc j hj)⟩⟩
/-- The fewest exchanges. -/
def fewT (o : List Int) : List (List Int) → Nat → Nat
  | [], f => f
  | x :: xs, f => fewT o xs (min f (turnN x o))
theorem fewT_snoc (o : List Int) : ∀ (xs : List (List Int)) (x : List Int) (f : Nat), fewT o (xs ++ [x]) f = min (fewT o xs f) (turnN x o)
  | [], x, f => rfl
  | y :: ys, x, f => fewT_snoc o ys x _
theorem ordAt_six {L : List (List Int)} (h : ∀ o ∈ L, o.length = 6) {k : Nat} (hk : k < L.length) : (ordAt L k).length = 6 := by
  unfold ordAt
  rw [List.getElem?_eq_getElem hk]
  exact h _ (List.getElem_mem hk)
theorem take_ord {L : List (List Int)} {k : Nat} (hk : k < L.length) : L.take (k + 1) = L.take k ++ [ordAt L k] := by
  unfold ordAt
  rw [List.take_add_one, List.getElem?_eq_getElem hk]; rfl
set_option maxRecDepth 100000 in
set_option maxHeartbeats 6400000 in
theorem exchanges_any (o : List Int) (L : List (List Int)) (A : Option Addr) (n c : Nat) (w : World) (ho : o.length = 6) (h : Slo w A n c L) :
    Calls Try.prog 69 #[oV o, .slice A n c] w fun e w' => e = .returned (.int .i64 (fewT o L 36 : Int)) ∧ Below w.heap.size w w' := by
  have hbig := h.big
  obtain ⟨W, hW⟩ : ∃ W, W = w.alloc (.cells (oC o) 80) := ⟨_, rfl⟩
  have hb : Below w.heap.size w W := by rw [hW]; exact (Below.refl _ w).alloc (Nat.le_refl _) _
  have hr : W.heap[w.heap.size]? = some (.cells (oC o) 80 (0, 0)) := by rw [hW]; exact heap_alloc_new _ _
  have hz : W.heap.size = w.heap.size + 1 := by rw [hW]; simp
  have HOC : Hid (∀ V, Below W.heap.size W V → ∀ i x, (oC o)[i]? = some x → V.cell? ⟨w.heap.size, i, none⟩ = some x) := fun V hV i x hx => cell_in ((hV.block _ (by omega)).trans hr) hx
  have HSL := Lib.hid (fun V (hV : Below W.heap.size W V) => h.below (hb.trans (hV.mono hb.size)) (Nat.le_refl _))
  have HL : Hid (L.length = n) := h.len
  have HSX := Lib.hid h.six
  have HTN : Hid (∀ x : List Int, x.length = 6 → ∀ V, Calls Try.prog 83 #[.agg #[.int .i64 (atI x 0), .int .i64 (atI x 1), .int .i64 (atI x 2), .int .i64 (atI x 3), .int .i64 (atI x 4), .int .i64 (atI x 5)], .agg #[.int .i64 (atI o 0), .int .i64 (atI o 1), .int .i64 (atI o 2), .int .i64 (atI o 3), .int .i64 (atI o 4), .int .i64 (atI o 5)]] V fun e w' => e = .returned (.int .i64 (turnN x o : Int)) ∧ Below V.heap.size V w') := fun x hx V => turnedP_any x o V hx ho
  have HB := Lib.hid hb
  have HW := Lib.hid hW
  have HZ := Lib.hid hz
  clear hW hb hr hz h ho
  show Calls _ _ #[.agg #[.int .i64 (atI o 0), .int .i64 (atI o 1), .int .i64 (atI o 2), .int .i64 (atI o 3), .int .i64 (atI o 4), .int .i64 (atI o 5)], _] w _
  obtain ⟨a0, ha0⟩ : ∃ a, a = atI o 0 := ⟨_, rfl⟩
  obtain ⟨a1, ha1⟩ : ∃ a, a = atI o 1 := ⟨_, rfl⟩
  obtain ⟨a2, ha2⟩ : ∃ a, a = atI o 2 := ⟨_, rfl⟩
  obtain ⟨a3, ha3⟩ : ∃ a, a = atI o 3 := ⟨_, rfl⟩
  obtain ⟨a4, ha4⟩ : ∃ a, a = atI o 4 := ⟨_, rfl⟩
  obtain ⟨a5, ha5⟩ : ∃ a, a = atI o 5 := ⟨_, rfl⟩
  have HOD : Hid (∀ V, Below W.heap.size W V → V.cell? ⟨w.heap.size, 0, none⟩ = some (.int .i64 a0) ∧ V.cell? ⟨w.heap.size, 1, none⟩ = some (.int .i64 a1) ∧ V.cell? ⟨w.heap.size, 2, none⟩ = some (.int .i64 a2) ∧ V.cell? ⟨w.heap.size, 3, none⟩ = some (.int .i64 a3) ∧ V.cell? ⟨w.heap.size, 4, none⟩ = some (.int .i64 a4) ∧ V.cell? ⟨w.heap.size, 5, none⟩ = some (.int .i64 a5)) := fun V hV => by
    rw [ha0, ha1, ha2, ha3, ha4, ha5]
    exact ⟨HOC.out V hV 0 _ rfl, HOC.out V hV 1 _ rfl, HOC.out V hV 2 _ rfl, HOC.out V hV 3 _ rfl, HOC.out V hV 4 _ rfl, HOC.out V hV 5 _ rfl⟩
  have HW2 : Hid (W = w.alloc (.cells #[.int .i64 a0, .int .i64 a1, .int .i64 a2, .int .i64 a3, .int .i64 a4, .int .i64 a5] 80)) := by rw [ha0, ha1, ha2, ha3, ha4, ha5]; exact HW.out
  rw [← ha0, ← ha1, ← ha2, ← ha3, ← ha4, ← ha5] at HTN ⊢
  clear ha0 ha1 ha2 ha3 ha4 ha5 HOC HW
  go_enter Try.func69, Try.ntmps69
  go_wp2
  rw [← HW2.out]
  go_loopw [5, 10] (fun f i w' => ∃ k : Nat, k ≤ n ∧ i = .int .i64 (k : Int) ∧ f = .int .i64 ((fewT o (L.take k) 36 : Nat) : Int) ∧ Hid (Below W.heap.size W w')) (fun _ i _ => n - (intOf i).toNat)
  case atStart => exact ⟨0, by omega, by go_num, rfl, Below.refl _ _⟩
  case round =>
    obtain ⟨k, hk, rfl, rfl, HD⟩ := hrel
    obtain ⟨wo, rfl⟩ : ∃ wo : World, wo = wr := ⟨_, rfl⟩
    by_cases hlt : k < n
    · have i1 : (k : Int) < (n : Int) := by omega
      obtain ⟨b, off, rfl, hbl, hc⟩ := (HSL.out wo HD.out).rows k hlt
      have HNX : Hid (fewT o (L.take (k + 1)) 36 = min (fewT o (L.take k) 36) (turnN (ordAt L k) o)) := by rw [Hid, take_ord (by rw [HL.out]; exact hlt), fewT_snoc]
      have HTX := Lib.hid (HTN.out (ordAt L k) (ordAt_six HSX.out (by rw [HL.out]; exact hlt)))
      have c0 := hc 0 (by omega)
      have c1 := hc 1 (by omega)
      have c2 := hc 2 (by omega)
      have c3 := hc 3 (by omega)
      have c4 := hc 4 (by omega)
      have c5 := hc 5 (by omega)
      rw [Nat.add_zero] at c0
      generalize hf : fewT o (L.take k) 36 = f at *
      generalize ht : turnN (ordAt L k) o = t at *
      have HF := Lib.hid hf
      generalize atI (ordAt L k) 0 = x0 at *
      generalize atI (ordAt L k) 1 = x1 at *
      generalize atI (ordAt L k) 2 = x2 at *
      generalize atI (ordAt L k) 3 = x3 at *
      generalize atI (ordAt L k) 4 = x4 at *
      generalize atI (ordAt L k) 5 = x5 at *
      have hmin : ∀ V : World, (Builtin.min_ #[3, 3] 3 #[.int .i64 (f : Int), .int .i64 (t : Int)]).run Try.prog V = .ok (.int .i64 ((min f t : Nat) : Int)) V := fun V => by
        rw [run_min_int2]
        congr 2
        by_cases h : (t : Int) < (f : Int)
        · rw [if_pos h, Nat.min_eq_right (by omega)]
        · rw [if_neg h, Nat.min_eq_left (by omega)]
      obtain ⟨V1, hV1⟩ : ∃ v, v = wo.alloc (.cells #[.int .i64 x0, .int .i64 x1, .int .i64 x2, .int .i64 x3, .int .i64 x4, .int .i64 x5] 80) := ⟨_, rfl⟩
      have hbV : Below W.heap.size W V1 := by rw [hV1]; exact HD.out.alloc HD.out.size _
      have hrV : V1.heap[wo.heap.size]? = some (.cells #[.int .i64 x0, .int .i64 x1, .int .i64 x2, .int .i64 x3, .int .i64 x4, .int .i64 x5] 80 (0, 0)) := by rw [hV1]; exact heap_alloc_new _ _
      obtain ⟨d0, d1, d2, d3, d4, d5⟩ := HOD.out V1 hbV
      have HBV := Lib.hid hbV
      have HVV := Lib.hid hV1
      rw [hV1] at d0 d1 d2 d3 d4 d5
      clear hbV hrV hf ht hc hV1
      go_wp2_with (go_at_call 83; rw [← HVV.out]; refine (HTX.out _).mono ?_; rintro e v2 ⟨rfl, hb2⟩; have HB2 := Lib.hid (HBV.out.trans (hb2.mono HBV.out.size)); clear hb2)
      exact ⟨⟨k + 1, by omega, by go_num, by rw [HNX.out], HB2.out⟩, by simp [intOf]; omega⟩
    · have hkn : k = n := by omega
      have HT : Hid (fewT o L 36 = fewT o (L.take k) 36) := by rw [Hid, hkn, List.take_of_length_le (by rw [HL.out]; exact Nat.le_refl _)]
      have i1 : ¬ (k : Int) < (n : Int) := by omega
      clear hkn
      go_wp2
      go_ret
      rw [HT.out]
      exact ⟨rfl, HB.out.trans (HD.out.mono HB.out.size)⟩
end Go.Proofs.Ytcnjkdkkflpgnaa
/- Layer 8: Turned. -/
namespace Go.Proofs.Ytcnjkdkkflpgnaa
open Go.RowKit
set_option linter.unusedVariables false

theorem colT_small (a b : List Int) : colsT a b 6 ≤ 36 := colsT_le a b 6
/-- Whether Turned takes the lists. -/
def trnB (xs ys : List Int) : Bool := decide (1 ≤ xs.length) && decide (xs.length ≤ 6) && okO xs xs.length && okO ys xs.length
theorem slo_one {W : World} {g : Nat} {o : List Int} (ho : o.length = 6) (h : W.heap[g]? = some (.cells (oC o) 80 (0, 0))) : Slo W (some ⟨g, 0, none⟩) 1 1 [o] := by
  refine ⟨rfl, Nat.le_refl _, by omega, fun x hx => by rw [List.mem_singleton.1 hx]; exact ho, fun k hk => ⟨g, 0, rfl, (Array.getElem?_eq_some_iff.1 h).1, fun j hj => ?_⟩⟩
  have hk0 : k = 0 := by omega
  subst hk0
  rw [show 0 + 0 * 6 + j = j from by omega]
  exact cell_in h (oC_at o hj)
set_option maxRecDepth 100000 in
set_option maxHeartbeats 6400000 in
theorem turnedT_any (xs ys : List Int) (A B : Option Addr) (n c m d : Nat) (w : World) (hx : Sl w A n c xs) (hy : Sl w B m d ys) :
    Calls Try.prog 36 #[.slice A n c, .slice B m d] w fun e w' => ((trnB xs ys = true ∧ e = .returned (.tuple #[.int .i64 (turnN (padO xs) (padO ys) : Int), .int .i64 0])) ∨ (trnB xs ys = false ∧ e = .returned (.tuple #[.int .i64 0, .int .i64 2]))) ∧ Below w.heap.size w w' := by
  have HLX : Hid (xs.length = n) := hx.len
  have hbig := hx.big
  have HRL : Hid (Calls Try.prog 71 #[.int .i64 (n : Int)] w fun e w' => e = .returned (.bool (decide (1 ≤ (n : Int)) && decide ((n : Int) ≤ 6))) ∧ w = w') := isRolls_any (n : Int) w
  by_cases hn : 1 ≤ n ∧ n ≤ 6
  · have HO1 := Lib.hid (orderOf_is xs n A n c w hx hn.2)
    have HO2 := Lib.hid (fun W (h : Below w.heap.size w W) => orderOf_is ys n B m d W (hy.below h (Nat.le_refl _)) hn.2)
    have HTB : Hid (trnB xs ys = (okO xs n && okO ys n)) := by
      unfold trnB
      rw [Hid, HLX.out, decide_eq_true hn.1, decide_eq_true hn.2]; rfl
    rw [decide_eq_true (show 1 ≤ (n : Int) by omega), decide_eq_true (show (n : Int) ≤ 6 by omega)] at HRL
    clear hx hy hn
    generalize okO xs n = b1 at *
    generalize okO ys n = b2 at *
    go_enter Try.func36, Try.ntmps36
    go_upto_region 4 with (go_at_call 71; refine HRL.out.mono ?_; rintro e w1 ⟨rfl, rfl⟩)
    go_upto_region 5 with (go_at_call 68; refine HO1.out.mono ?_; rintro e w1 ⟨⟨o1, rfl, hl1, hp1⟩, hb1⟩)
    obtain ⟨W1, hW1⟩ : ∃ v, v = w1.alloc (.cells (oC o1) 80) := ⟨_, rfl⟩
    rw [show w1.alloc (.cells (oC o1) 80) = W1 from hW1.symm]
    have hbW : Below w.heap.size w W1 := by rw [hW1]; exact hb1.alloc hb1.size _
    have hr1 : W1.heap[w1.heap.size]? = some (.cells (oC o1) 80 (0, 0)) := by rw [hW1]; exact heap_alloc_new _ _
    have hs1 : W1.heap.size = w1.heap.size + 1 := by rw [hW1]; simp
    have HBW := Lib.hid hbW
    have HR1 := Lib.hid hr1
    have HL1 := Lib.hid hl1
    have HP1 := Lib.hid hp1
    have HS1 := Lib.hid hs1
    clear hW1 hbW hr1 hl1 hp1 hs1 hb1
    generalize w1.heap.size = g1 at *
    go_upto_region 6 with (go_at_call 68; refine (HO2.out _ HBW.out).mono ?_; rintro e w2 ⟨⟨o2, rfl, hl2, hp2⟩, hb2⟩)
    obtain ⟨W2, hW2⟩ : ∃ v, v = w2.alloc (.cells (oC o2) 80) := ⟨_, rfl⟩
    rw [show w2.alloc (.cells (oC o2) 80) = W2 from hW2.symm]
    have hb22 : Below w2.heap.size w2 W2 := by rw [hW2]; exact (Below.refl _ _).alloc (Nat.le_refl _) _
    have hr2 : W2.heap[w2.heap.size]? = some (.cells (oC o2) 80 (0, 0)) := by rw [hW2]; exact heap_alloc_new _ _
    have hg1 : g1 < W1.heap.size := by have := HS1.out; omega
    have hr12 := (hb22.block g1 (Nat.lt_of_lt_of_le hg1 hb2.size)).trans ((hb2.block g1 hg1).trans HR1.out)
    have HB2 : Hid (Below w.heap.size w W2) := HBW.out.trans ((hb2.trans (hb22.mono hb2.size)).mono HBW.out.size)
    clear hW2 HR1 HS1 hg1 hb22 hb2
    generalize w2.heap.size = g2 at *
    rcases b1 with _ | _
    · have HX : Hid (trnB xs ys = false) := by rw [Hid, HTB.out]; rfl
      clear HTB hr12 hr2
      go_wp2
      go_ret2
      exact ⟨.inr ⟨HX.out, rfl⟩, HB2.out⟩
    · rcases b2 with _ | _
      · have HX : Hid (trnB xs ys = false) := by rw [Hid, HTB.out]; rfl
        clear HTB hr12 hr2
        go_wp2
        go_ret2
        exact ⟨.inr ⟨HX.out, rfl⟩, HB2.out⟩
      · have HX : Hid (trnB xs ys = true) := by rw [Hid, HTB.out]; rfl
        have e1 := HP1.out rfl
        have e2 := hp2 rfl
        have HE : Hid (fewT o2 [o1] 36 = turnN (padO xs) (padO ys)) := by
          rw [Hid, e1, e2]
          show min 36 (turnN (padO xs) (padO ys)) = _
          have : turnN (padO xs) (padO ys) ≤ 36 := by
            rw [turn_six _ _ (by rw [← e1]; exact HL1.out)]
            exact colT_small _ _
          omega
        have hl1 := HL1.out
        clear HTB HP1 e1 e2 hp2
        have a0 := cell_in hr12 (i := 0) rfl
        have a1 := cell_in hr12 (i := 1) rfl
        have a2 := cell_in hr12 (i := 2) rfl
        have a3 := cell_in hr12 (i := 3) rfl
        have a4 := cell_in hr12 (i := 4) rfl
        have a5 := cell_in hr12 (i := 5) rfl
        have c0 := cell_in hr2 (i := 0) rfl
        have c1 := cell_in hr2 (i := 1) rfl
        have c2 := cell_in hr2 (i := 2) rfl
        have c3 := cell_in hr2 (i := 3) rfl
        have c4 := cell_in hr2 (i := 4) rfl
        have c5 := cell_in hr2 (i := 5) rfl
        have HEX : Hid (Calls Try.prog 69 #[.agg #[.int .i64 (atI o2 0), .int .i64 (atI o2 1), .int .i64 (atI o2 2), .int .i64 (atI o2 3), .int .i64 (atI o2 4), .int .i64 (atI o2 5)], .slice (some ⟨W2.heap.size, 0, none⟩) 1 1] (W2.alloc (.cells #[.int .i64 (atI o1 0), .int .i64 (atI o1 1), .int .i64 (atI o1 2), .int .i64 (atI o1 3), .int .i64 (atI o1 4), .int .i64 (atI o1 5)] 80)) fun e w' => e = .returned (.int .i64 (turnN (padO xs) (padO ys) : Int)) ∧ Below w.heap.size w w') := by
          have hba : Below w.heap.size w (W2.alloc (.cells (oC o1) 80)) := HB2.out.alloc HB2.out.size _
          refine (exchanges_any o2 [o1] (some ⟨W2.heap.size, 0, none⟩) 1 1 (W2.alloc (.cells (oC o1) 80)) hl2 (slo_one hl1 (heap_alloc_new _ _))).mono ?_
          rintro e w' ⟨rfl, hb⟩
          rw [HE.out]
          exact ⟨rfl, hba.trans (hb.mono hba.size)⟩
        clear hr12 hr2 HE hl1 hl2 HL1
        go_wp2_with (go_at_call 69; refine HEX.out.mono ?_; rintro e w3 ⟨rfl, hb3⟩)
        go_ret2
        exact ⟨.inl ⟨HX.out, rfl⟩, hb3⟩
  · have HX : Hid (trnB xs ys = false) := by
      unfold trnB
      rw [Hid, HLX.out]
      by_cases h1 : 1 ≤ n
      · rw [decide_eq_false (show ¬ n ≤ 6 by omega), Bool.and_false]; rfl
      · rw [decide_eq_false h1]; rfl
    have hrl : (decide (1 ≤ (n : Int)) && decide ((n : Int) ≤ 6)) = false := by
      by_cases h1 : 1 ≤ n
      · rw [decide_eq_false (show ¬ (n : Int) ≤ 6 by omega), Bool.and_false]
      · rw [decide_eq_false (show ¬ 1 ≤ (n : Int) by omega)]; rfl
    rw [hrl] at HRL
    clear hx hy hn hrl
    go_enter Try.func36, Try.ntmps36
    go_wp2_with (go_at_call 71; refine HRL.out.mono ?_; rintro e w1 ⟨rfl, rfl⟩)
    go_ret2
    exact ⟨.inr ⟨HX.out, rfl⟩, Below.refl _ _⟩
end Go.Proofs.Ytcnjkdkkflpgnaa
/- Layer 8, mathematics: the program's orders with the rolls that a shorter row does not have; both ways of finding an order agree. -/
namespace Go.Proofs.Ytcnjkdkkflpgnaa
open Go.RowKit
set_option linter.unusedVariables false

theorem ordB_okO (zs : List Int) (m : Nat) : ordB zs (m : Int) = okO zs m := by
  rw [Bool.eq_iff_iff]
  unfold ordB okO belB
  rw [Bool.and_eq_true, Bool.and_eq_true, Bool.and_eq_true, allB_iff, allB_iff, allB_iff, decide_eq_true_iff, decide_eq_true_iff]
  unfold ordP lowB
  constructor
  · rintro ⟨h, e⟩
    have hk := fun k hk => by
      have := h k hk
      rw [Bool.and_eq_true] at this
      exact this
    exact ⟨⟨by omega, fun k l => (hk k l).1⟩, fun k l => (hk k l).2⟩
  · rintro ⟨⟨e, h1⟩, h2⟩
    exact ⟨fun k l => by rw [Bool.and_eq_true]; exact ⟨h1 k l, h2 k l⟩, by omega⟩
theorem plI_app : ∀ {zs ws : List Int} {x : Int}, plI (zs ++ ws) x = match plI zs x with
    | some k => some k
    | none => (plI ws x).map (· + zs.length)
  | [], ws, x => by
    show plI ws x = (plI ws x).map (· + 0)
    cases plI ws x <;> rfl
  | z :: zs, ws, x => by
    have ih := plI_app (zs := zs) (ws := ws) (x := x)
    show (if z = x then some 0 else (plI (zs ++ ws) x).map (· + 1)) = match (if z = x then some 0 else (plI zs x).map (· + 1)) with
      | some k => some k
      | none => (plI ws x).map (· + (z :: zs).length)
    by_cases e : z = x
    · rw [if_pos e, if_pos e]
    · rw [if_neg e, if_neg e, ih]
      cases plI zs x with
      | some k => rfl
      | none =>
        cases plI ws x with
        | none => rfl
        | some k => show some (k + zs.length + 1) = some (k + (zs.length + 1)); rw [Nat.add_assoc]
theorem plI_lt : ∀ {zs : List Int} {x : Int} {k : Nat}, plI zs x = some k → k < zs.length
  | [], x, k, h => by cases h
  | z :: zs, x, k, h => by
    have h : (if z = x then some 0 else (plI zs x).map (· + 1)) = some k := h
    by_cases e : z = x
    · rw [if_pos e] at h; cases h; simp
    · rw [if_neg e] at h
      cases hp : plI zs x with
      | none => rw [hp] at h; cases h
      | some j =>
        rw [hp] at h
        have := plI_lt hp
        cases h
        simp; omega
/-- Where the rolls that the row does not have stand. -/
theorem plI_o6 : ∀ m, m ≤ 6 → ∀ r, r < 6 → plI (o6.drop m) ((r : Nat) : Int) = if r < m then none else some (r - m) := by decide
theorem ixI_padlt {zs : List Int} {m r : Nat} (hl : zs.length = m) (hm : m ≤ 6) (hr : r < m) : ixI (padO zs) (r : Int) = ixI zs (r : Int) := by
  unfold ixI padO
  rw [plI_app, hl, plI_o6 m hm r (by omega), if_pos hr]
  cases plI zs (r : Int) <;> rfl
theorem ixI_lt {zs : List Int} {m : Nat} {x : Int} (hl : zs.length = m) : ixI zs x < m ∨ ixI zs x = -1 := by
  unfold ixI
  cases h : plI zs x with
  | none => exact .inr rfl
  | some k => have := plI_lt h; exact .inl (by show (k : Int) < m; omega)
theorem ixI_padge {zs : List Int} {m r : Nat} (hl : zs.length = m) (hm : m ≤ 6) (hz : ∀ k, k < m → atI zs k < m) (hr : m ≤ r) (h6 : r < 6) : ixI (padO zs) (r : Int) = (r : Int) := by
  have hn : plI zs (r : Int) = none := plI_none (fun j hj e => by have := hz j (by omega); rw [show atI zs j = zs[j]?.getD 0 from rfl, e] at this; omega)
  unfold ixI padO
  rw [plI_app, hn, hl, plI_o6 m hm r h6, if_neg (by omega)]
  show ((r - m + m : Nat) : Int) = r
  omega
theorem atI_padlt {zs : List Int} {k : Nat} (hk : k < zs.length) : atI (padO zs) k = atI zs k := by
  unfold atI padO
  rw [List.getElem?_append_left hk]
theorem o6_at : ∀ k, k < 6 → atI o6 k = (k : Int) := by decide
theorem atI_padge {zs : List Int} {k : Nat} (hk : zs.length ≤ k) (h6 : k < 6) : atI (padO zs) k = (k : Int) := by
  rw [← o6_at k h6]
  unfold atI padO
  rw [List.getElem?_append_right hk, List.getElem?_drop, show zs.length + (k - zs.length) = k from by omega]
/-- What okO says of an order. -/
theorem okO_rolls {zs : List Int} {m : Nat} (h : okO zs m = true) : zs.length = m ∧ ∀ k, k < m → ∃ r : Nat, atI zs k = (r : Int) ∧ r < m := by
  unfold okO at h
  rw [Bool.and_eq_true, Bool.and_eq_true, decide_eq_true_iff] at h
  obtain ⟨⟨hl, hb⟩, _⟩ := h
  refine ⟨hl, fun k hk => ?_⟩
  have := allB_iff.1 (show allB (fun j => lowB (m : Int) (atI zs j)) zs.length = true from hb) k (by omega)
  unfold lowB at this
  rw [Bool.and_eq_true, decide_eq_true_iff, decide_eq_true_iff] at this
  exact ⟨(atI zs k).toNat, by omega, by omega⟩
theorem rowT_pad {xs ys : List Int} {m i : Nat} (hx : okO xs m = true) (hy : okO ys m = true) (hm : m ≤ 6) (hi : i < m) : ∀ k, k ≤ 6 → rowT (padO xs) (padO ys) i k = rowT xs ys i (min k m)
  | 0, _ => by rw [Nat.zero_min]; rfl
  | k + 1, hk => by
    obtain ⟨lx, hx'⟩ := okO_rolls hx
    obtain ⟨ly, hy'⟩ := okO_rolls hy
    obtain ⟨ri, e1, l1⟩ := hx' i hi
    have ih := rowT_pad hx hy hm hi k (by omega)
    by_cases hkm : k < m
    · rw [Nat.min_eq_left (show k + 1 ≤ m by omega)]
      rw [Nat.min_eq_left (show k ≤ m by omega)] at ih
      obtain ⟨rk, e2, l2⟩ := hx' k hkm
      show rowT (padO xs) (padO ys) i k + _ = rowT xs ys i k + _
      rw [ih]
      congr 1
      have : invB (padO xs) (padO ys) i k = invB xs ys i k := by
        unfold invB
        rw [atI_padlt (by omega), atI_padlt (by omega), e1, e2, ixI_padlt ly hm l1, ixI_padlt ly hm l2]
      rw [this]
    · rw [Nat.min_eq_right (show m ≤ k + 1 by omega)]
      rw [Nat.min_eq_right (show m ≤ k by omega)] at ih
      show rowT (padO xs) (padO ys) i k + _ = _
      rw [ih]
      have : invB (padO xs) (padO ys) i k = false := by
        unfold invB
        rw [atI_padge (by omega) (by omega), atI_padlt (by omega), e1, ixI_padlt ly hm l1, ixI_padge ly hm (fun j hj => by obtain ⟨r, e, l⟩ := hy' j hj; rw [e]; omega) (by omega) (by omega)]
        rcases ixI_lt (x := (ri : Int)) ly with h | h
        · exact decide_eq_false (by omega)
        · exact decide_eq_false (by omega)
      rw [this, if_neg (by simp)]; rfl
theorem rowT_padge {xs ys : List Int} {m i : Nat} (hx : okO xs m = true) (hy : okO ys m = true) (hm : m ≤ 6) (hi : m ≤ i) (h6 : i < 6) : ∀ k, k ≤ 6 → rowT (padO xs) (padO ys) i k = 0
  | 0, _ => rfl
  | k + 1, hk => by
    obtain ⟨lx, hx'⟩ := okO_rolls hx
    obtain ⟨ly, hy'⟩ := okO_rolls hy
    have hz : ∀ j, j < m → atI ys j < m := fun j hj => by obtain ⟨r, e, l⟩ := hy' j hj; rw [e]; omega
    show rowT (padO xs) (padO ys) i k + _ = 0
    rw [rowT_padge hx hy hm hi h6 k (by omega)]
    by_cases hik : i < k
    · have : invB (padO xs) (padO ys) i k = false := by
        unfold invB
        rw [atI_padge (by omega) (by omega), atI_padge (by omega) h6, ixI_padge ly hm hz (by omega) (by omega), ixI_padge ly hm hz hi h6]
        exact decide_eq_false (by omega)
      rw [this, if_neg (by simp)]
    · rw [if_neg (fun h => hik h.1)]
theorem totT_pad {xs ys : List Int} {m : Nat} (hx : okO xs m = true) (hy : okO ys m = true) (hm : m ≤ 6) : ∀ i, i ≤ 6 → totT (padO xs) (padO ys) 6 i = totT xs ys m (min i m)
  | 0, _ => by rw [Nat.zero_min]; rfl
  | i + 1, h => by
    have ih := totT_pad hx hy hm i (by omega)
    show totT (padO xs) (padO ys) 6 i + rowT (padO xs) (padO ys) i 6 = _
    rw [ih]
    by_cases hi : i < m
    · rw [Nat.min_eq_left (show i ≤ m by omega), Nat.min_eq_left (show i + 1 ≤ m by omega), rowT_pad hx hy hm hi 6 (Nat.le_refl _), Nat.min_eq_right hm]; rfl
    · rw [Nat.min_eq_right (show m ≤ i by omega), Nat.min_eq_right (show m ≤ i + 1 by omega), rowT_padge hx hy hm (by omega) (by omega) 6 (Nat.le_refl _)]; rfl
/-- The rolls that the row does not have turn no pair. -/
theorem turn_pad {xs ys : List Int} {m : Nat} (hx : okO xs m = true) (hy : okO ys m = true) (hm : m ≤ 6) : turnN (padO xs) (padO ys) = turnN xs ys := by
  obtain ⟨lx, _⟩ := okO_rolls hx
  unfold turnN
  rw [padO_len (by omega), totT_pad hx hy hm 6 (Nat.le_refl _), lx, Nat.min_eq_right hm]
end Go.Proofs.Ytcnjkdkkflpgnaa
