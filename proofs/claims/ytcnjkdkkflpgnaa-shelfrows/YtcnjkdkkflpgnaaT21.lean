import Derived.Test.YtcnjkdkkflpgnaaT20
/- Layer 8: the values at the fixed inputs of awake; awake answers true. -/
namespace Go.Proofs.Ytcnjkdkkflpgnaa
open Go.RowKit Go.Maps
set_option linter.unusedVariables false

def awA : List Int := [0, 1, 2, 0, 1, 3, 0, 1, 2, 3]
def awB : List Int := [0, 1, 2, 3, 0, 1, 4, 0, 1, 2, 3, 4]
def awC : List Int := [2, 2, 2]
theorem aw_req : reqB awA 200 15 = true ∧ reqB awB 200 15 = true ∧ placesB 2 = true ∧ placesB 3 = true ∧ isRowB 3 awC = true := by decide +kernel
theorem aw_front : frC awC o6 3 = 5 := by decide +kernel
theorem aw_rec : rC rkLast 2 awA 10 = 10 := by decide +kernel
theorem aw_best : rC (rkBest awA) 2 awA 10 = 7 := by decide +kernel
theorem aw_first : rC rkSince 3 awB 12 = 9 := by decide +kernel
theorem aw_id : idN 3 awC = 5 := by decide +kernel
theorem sl_lit (w : World) (e : Nat) (cs : Array Value) (zs : List Int) (hc : cs = (ints zs).toArray) (n : Nat) (hn : zs.length = n) (hl : n ≤ 1000) : Sl (w.alloc (.cells cs e)) (some ⟨w.heap.size, 0, none⟩) n n zs := by
  refine ⟨hn, Nat.le_refl _, by omega, fun e => (by cases e), fun k hk => ⟨w.heap.size, 0, rfl, ?_⟩, fun b off e h0 => ?_⟩
  · refine (cell_in (heap_alloc_new w _) ?_)
    rw [hc, List.getElem?_toArray, Nat.zero_add, List.getElem?_map, List.getElem?_eq_getElem hk]
    rfl
  · have e := Option.some.inj e
    injection e with e _ _
    subst e
    simp
def awOk (n : Int) (e : Ending) : Prop := ∃ v, e = .returned (.tuple #[.int .i64 n, v, .int .i64 0])
theorem aw1 (V : World) (A : Option Addr) (h : Sl V A 10 10 awA) : Calls Try.prog 17 #[.slice A 10 10, .int .i64 2] V fun e w' => awOk 10 e ∧ Below V.heap.size V w' := by
  refine (recent_any 2 awA A 10 10 V h).mono ?_
  rintro e w' ⟨⟨_, _, v, rfl, _⟩ | ⟨h1 | h1, _⟩, hb⟩
  · rw [aw_rec]; exact ⟨⟨v, rfl⟩, hb⟩
  · rw [aw_req.1] at h1; cases h1
  · rw [aw_req.2.2.1] at h1; cases h1
theorem aw2 (V : World) (A : Option Addr) (h : Sl V A 10 10 awA) : Calls Try.prog 19 #[.slice A 10 10, .int .i64 2] V fun e w' => awOk 7 e ∧ Below V.heap.size V w' := by
  refine (best_any 2 awA A 10 10 V h).mono ?_
  rintro e w' ⟨⟨_, _, v, rfl, _⟩ | ⟨h1 | h1, _⟩, hb⟩
  · rw [aw_best]; exact ⟨⟨v, rfl⟩, hb⟩
  · rw [aw_req.1] at h1; cases h1
  · rw [aw_req.2.2.1] at h1; cases h1
theorem aw3 (V : World) (A : Option Addr) (h : Sl V A 12 12 awB) : Calls Try.prog 18 #[.slice A 12 12, .int .i64 3] V fun e w' => awOk 9 e ∧ Below V.heap.size V w' := by
  refine (first_any 3 awB A 12 12 V h).mono ?_
  rintro e w' ⟨⟨_, _, v, rfl, _⟩ | ⟨h1 | h1, _⟩, hb⟩
  · rw [aw_first]; exact ⟨⟨v, rfl⟩, hb⟩
  · rw [aw_req.2.1] at h1; cases h1
  · rw [aw_req.2.2.2.1] at h1; cases h1
theorem aw4 (V : World) (A : Option Addr) (h : Sl V A 3 3 awC) : Calls Try.prog 29 #[.int .i64 3, .slice A 3 3] V fun e w' => awOk 5 e ∧ Below V.heap.size V w' := by
  refine (frontP_any 3 awC A 3 3 V h).mono ?_
  rintro e w' ⟨⟨_, v, rfl, _⟩ | ⟨h1, _⟩, hb⟩
  · rw [aw_front]; exact ⟨⟨v, rfl⟩, hb⟩
  · rw [aw_req.2.2.2.2] at h1; cases h1
theorem aw5 (V : World) (A : Option Addr) (h : Sl V A 3 3 awC) : Calls Try.prog 30 #[.int .i64 3, .slice A 3 3] V fun e w' => awOk 5 e ∧ Below V.heap.size V w' := by
  refine (ideal_any 3 awC A 3 3 V h).mono ?_
  rintro e w' ⟨⟨_, v, rfl, _⟩ | ⟨h1, _⟩, hb⟩
  · rw [show (3 : Int).toNat = 3 from rfl, aw_id]; exact ⟨⟨v, rfl⟩, hb⟩
  · rw [aw_req.2.2.2.2] at h1; cases h1
set_option maxRecDepth 100000 in
set_option maxHeartbeats 6400000 in
theorem awake_here (w : World) : Calls Try.prog 21 #[] w fun e w' => e = .returned (.bool true) ∧ Below w.heap.size w w' := by
  obtain ⟨w1, hw1⟩ : ∃ W, W = w.alloc (.cells #[.int .i64 0, .int .i64 1, .int .i64 2, .int .i64 0, .int .i64 1, .int .i64 3, .int .i64 0, .int .i64 1, .int .i64 2, .int .i64 3] 3) := ⟨_, rfl⟩
  have HT : Hid (∀ W, Below w1.heap.size w1 W → Sl W (some ⟨w.heap.size, 0, none⟩) 10 10 awA) := fun W hW => (by rw [hw1]; exact sl_lit w _ _ awA rfl 10 rfl (by omega) : Sl w1 (some ⟨w.heap.size, 0, none⟩) 10 10 awA).below hW (Nat.le_refl _)
  have HB0 : Hid (Below w.heap.size w w1) := by rw [hw1]; exact (Below.refl _ w).alloc (Nat.le_refl _) _
  have HW1 := Lib.hid hw1
  clear hw1
  go_enter Try.func21, Try.ntmps21
  go_upto_region 2 with (fail)
  rw [← HW1.out]
  go_wp2_with (first
    | (go_at_call 17; go_must (refine (aw1 _ _ (HT.out _ (Below.refl _ _))).mono ?_); rintro e w2 ⟨⟨v2, rfl⟩, hb⟩; have HE := Lib.hid hb; have HB2 := Lib.hid (HB0.out.trans (hb.mono HB0.out.size)); clear hb)
    | (go_at_call 19; go_must (refine (aw2 _ _ (HT.out _ HE.out)).mono ?_); rintro e w3 ⟨⟨v3, rfl⟩, hb⟩; have HB3 := Lib.hid (HB2.out.trans (hb.mono HB2.out.size)); clear hb)
    | (go_at_call 18; go_must (refine (aw3 _ _ (sl_lit _ _ _ awB rfl 12 rfl (by omega))).mono ?_); rintro e w4 ⟨⟨v4, rfl⟩, hb⟩; have HB4 := Lib.hid ((HB3.out.alloc HB3.out.size _).trans (hb.mono (by have := HB3.out.size; simp; omega))); clear hb)
    | (go_at_call 29; go_must (refine (aw4 _ _ (sl_lit _ _ _ awC rfl 3 rfl (by omega))).mono ?_); rintro e w5 ⟨⟨v5, rfl⟩, hb⟩; have HB5 := Lib.hid ((HB4.out.alloc HB4.out.size _).trans (hb.mono (by have := HB4.out.size; simp; omega))); clear hb)
    | (go_at_call 30; go_must (refine (aw5 _ _ (sl_lit _ _ _ awC rfl 3 rfl (by omega))).mono ?_); rintro e w6 ⟨⟨v6, rfl⟩, hb⟩; have HB6 := Lib.hid ((HB5.out.alloc HB5.out.size _).trans (hb.mono (by have := HB5.out.size; simp; omega))); clear hb))
  go_ret
  exact ⟨rfl, HB6.out⟩
end Go.Proofs.Ytcnjkdkkflpgnaa
