import Derived.Test.YtkemcmeagnggeaaT09
/- Layer 3: the program's firstOfOne. -/
namespace Go.Proofs.Ytkemcmeagnggeaa
open Go.RowKit Go.Shelf Go.Maps
set_option linter.unusedVariables false
attribute [local go_sem] Oper.semAt_some

theorem reached_any (bT k : Nat) (w : World) : Calls Try.prog 69 #[.pointer (some ⟨bT, 0, none⟩), .int .i64 (k : Int)] w fun e w' =>
    e = .returned (.func (.func 79) #[] #[.pointer (some ⟨w.heap.size + 1, 0, none⟩), .pointer (some ⟨w.heap.size, 0, none⟩)]) ∧ w' = (w.alloc (.cells #[.pointer (some ⟨bT, 0, none⟩)] 105)).alloc (.cells #[.int .i64 (k : Int)] 3) := by
  go_enter Try.func69, Try.ntmps69
  go_wp2
  go_ret
  exact ⟨rfl, rfl⟩
/-- A state of a word that is a subsequence of exactly one. -/
def badP (s : Nat × Nat) : Prop := ¬ (s.1 = 61 ↔ s.2 = 61)
/-- What firstOfOne gives. -/
def FPost (k : Nat) (g : Nat → Int) (e : Ending) : Prop :=
  (∃ x : ByteArray, e = .returned (.tuple #[.string x, .bool true]) ∧ isW k (bs x) ∧ badP (runS (step2 g) (0, 0) (bs x)) ∧ ∀ y, isW k y → badP (runS (step2 g) (0, 0) y) → leL (bs x) y) ∨
  (e = .returned (.tuple #[.string ByteArray.empty, .bool false]) ∧ ∀ y, isW k y → ¬ badP (runS (step2 g) (0, 0) y))
def FI (w : World) (pre : List Vis) (W : World) : Prop :=
  (∀ x ∈ pre, ¬ badP x.2) ∧ W.heap[w.heap.size]? = some (.cells #[.string ⟨#[]⟩] 9 (0, 0)) ∧ W.heap[w.heap.size + 1]? = some (.cells #[.bool false] 4 (0, 0)) ∧ Below w.heap.size w W
def FIx (w : World) (pre : List Vis) (W : World) : Prop :=
  (∃ D v, pre = D ++ [v] ∧ (∀ x ∈ D, ¬ badP x.2) ∧ badP v.2 ∧ W.heap[w.heap.size]? = some (.cells #[.string v.1] 9 (0, 0))) ∧ W.heap[w.heap.size + 1]? = some (.cells #[.bool true] 4 (0, 0)) ∧ Below w.heap.size w W
theorem FI.sure (w : World) {B : Nat} (hB : w.heap.size + 2 ≤ B) : Sure B (FI w) := fun s W W' ⟨h1, h2, h3, h4⟩ hb =>
  ⟨h1, (hb.block _ (by omega)).trans h2, (hb.block _ (by omega)).trans h3, h4.trans (hb.mono (by omega))⟩
theorem FIx.sure (w : World) {B : Nat} (hB : w.heap.size + 2 ≤ B) : Sure B (FIx w) := fun s W W' ⟨⟨D, v, h0, h1, h2, h3⟩, h4, h5⟩ hb =>
  ⟨⟨D, v, h0, h1, h2, (hb.block _ (by omega)).trans h3⟩, (hb.block _ (by omega)).trans h4, h5.trans (hb.mono (by omega))⟩

set_option maxRecDepth 100000 in
set_option maxHeartbeats 1600000 in
theorem first_any (k bT t : Nat) (g : Nat → Int) (dead : Nat × Nat → Prop) (w : World) (hk1 : 1 ≤ k) (hk4 : k ≤ 4) (hg : Steps2 g) (hdd : ∀ s c, s.1 < 62 → s.2 < 62 → c < k → step2 g s c = (61, 61) → dead (61, 61))
    (hdc : ∀ s c, dead s → c < k → dead (step2 g s c)) (hdb : ∀ s, dead s → ¬ badP s) (hr : Rw w bT t 496 g) :
    Calls Try.prog 59 #[.pointer (some ⟨bT, 0, none⟩), .int .i64 (k : Int)] w fun e w' => FPost k g e ∧ Below w.heap.size w w' := by
  obtain ⟨R, hR⟩ : ∃ R : Ending → World → Prop, R = fun e w' => FPost k g e ∧ Below w.heap.size w w' := ⟨_, rfl⟩
  rw [← hR]
  have HRR := Lib.hid hR
  have HR := Lib.hid hr
  have HG := Lib.hid hg
  have HDD := Lib.hid hdd
  have HDC := Lib.hid hdc
  have HDB := Lib.hid hdb
  clear hR hr hg hdd hdc hdb
  refine (callsIn_wide (n := 9)).1 ?_
  refine callsIn_of_wp_marks Try.func59 rfl trivial ?_ rfl
  simp only [Try.ntmps59, List.size_toArray, List.length_cons, List.length_nil, Nat.reduceAdd, Nat.reduceSub, Array.replicate_succ, Array.replicate_zero, List.push_toArray, List.append_toArray, List.nil_append, List.cons_append]
  gi_wp2_with (refine ⟨trivial, ?_⟩; gi_at_call 69; refine (callsIn_wide.2 (reached_any bT k _)).mono ?_; rintro e w' ⟨rfl, rfl⟩)
  have hz0 : ((((w.alloc (.cells #[.string ⟨#[]⟩] 9)).alloc (.cells #[.bool false] 4)).alloc (.cells #[.pointer (some ⟨bT, 0, none⟩)] 105)).alloc (.cells #[.int .i64 (k : Int)] 3)).heap.size = w.heap.size + 4 := by simp
  have hb0 : Below w.heap.size w ((((w.alloc (.cells #[.string ⟨#[]⟩] 9)).alloc (.cells #[.bool false] 4)).alloc (.cells #[.pointer (some ⟨bT, 0, none⟩)] 105)).alloc (.cells #[.int .i64 (k : Int)] 3)) := ((((Below.refl _ w).alloc (Nat.le_refl _) _).alloc (by simp) _).alloc (by simp; omega) _).alloc (by simp; omega) _
  have hs0 : ((((w.alloc (.cells #[.string ⟨#[]⟩] 9)).alloc (.cells #[.bool false] 4)).alloc (.cells #[.pointer (some ⟨bT, 0, none⟩)] 105)).alloc (.cells #[.int .i64 (k : Int)] 3)).heap = (((w.heap.push (.cells #[.string ⟨#[]⟩] 9)).push (.cells #[.bool false] 4)).push (.cells #[.pointer (some ⟨bT, 0, none⟩)] 105)).push (.cells #[.int .i64 (k : Int)] 3) := rfl
  generalize (((w.alloc (.cells #[.string ⟨#[]⟩] 9)).alloc (.cells #[.bool false] 4)).alloc (.cells #[.pointer (some ⟨bT, 0, none⟩)] 105)).alloc (.cells #[.int .i64 (k : Int)] 3) = w0 at hz0 hb0 hs0 ⊢
  have r0 : w0.heap[w.heap.size]? = some (.cells #[.string ⟨#[]⟩] 9 (0, 0)) := by
    rw [hs0, Array.getElem?_push, if_neg (by simp; omega), Array.getElem?_push, if_neg (by simp; omega), Array.getElem?_push, if_neg (by simp), Array.getElem?_push, if_pos rfl]
  have r1 : w0.heap[w.heap.size + 1]? = some (.cells #[.bool false] 4 (0, 0)) := by
    rw [hs0, Array.getElem?_push, if_neg (by simp), Array.getElem?_push, if_neg (by simp), Array.getElem?_push, if_pos (by simp)]
  have r2 : w0.heap[w.heap.size + 2]? = some (.cells #[.pointer (some ⟨bT, 0, none⟩)] 105 (0, 0)) := by
    rw [hs0, Array.getElem?_push, if_neg (by simp), Array.getElem?_push, if_pos (by simp)]
  have r3 : w0.heap[w.heap.size + 3]? = some (.cells #[.int .i64 (k : Int)] 3 (0, 0)) := by
    rw [hs0, Array.getElem?_push, if_pos (by simp)]
  clear hs0
  have hrw := HR.out.below hb0 HR.out.lt
  have hit := iter_ok 8 k (w.heap.size + 3) (w.heap.size + 2) bT t g dead w0 hk1 hk4 HG.out HDD.out (by rw [cell_of_row _ _ _ _ _ _ r3]; rfl) (by rw [cell_of_row _ _ _ _ _ _ r2]; rfl) hrw (by omega) (by omega)
  have HZ0 := Lib.hid hz0
  have HB0 := Lib.hid hb0
  have HBT := Lib.hid HR.out.lt
  refine range_law (n := 8) (gf := 79) (lb := #[.pointer (some ⟨w.heap.size + 3, 0, none⟩), .pointer (some ⟨w.heap.size + 2, 0, none⟩)]) (by rfl) (enters_of Try.func79 (by kernel_rfl) rfl) hit (fun _ => rfl) (fun b hb => by have := HBT.out; rcases hb with h | h | h <;> omega) (FI w) (FIx w) (FI.sure w (by omega)) (FIx.sure w (by omega)) ⟨fun x hx => by simp at hx, r0, r1, hb0⟩ ?round ?done ?stop
  case round =>
    intro l pre x W hl0 hlW hi
    clear hit r0 r1 r2 r3 hb0 hrw
    generalize hK : (fun (a₁ : Act) (W₁ : World) => Below W.heap.size W W₁ ∧ ∀ o, _) = K
    have HK := Lib.hid hK; clear hK
    gi_wp2
    rw [← HK.out]
    refine ⟨(Below.refl _ W).alloc (Nat.le_refl _) _, fun o => ?_⟩
    have hlt : w.heap.size + 4 ≤ l := by omega
    obtain ⟨hp, q0, q1, hb⟩ := hi
    have hB5 : Below w0.heap.size W ((W.alloc (.cells #[.int .i64 (x.2.1 : Int), .int .i64 (x.2.2 : Int)] 80)).putObj l o) := ((Below.refl _ W).alloc (by omega) _).trans (below_put _ hl0 o)
    have hv5 : ((W.alloc (.cells #[.int .i64 (x.2.1 : Int), .int .i64 (x.2.2 : Int)] 80)).putObj l o).heap[W.heap.size]? = some (.cells #[.int .i64 (x.2.1 : Int), .int .i64 (x.2.2 : Int)] 80 (0, 0)) := (World.putObj_heap_other (by omega)).trans (heap_alloc_last _ _)
    generalize (W.alloc (.cells #[.int .i64 (x.2.1 : Int), .int .i64 (x.2.2 : Int)] 80)).putObj l o = W5 at hB5 hv5 ⊢
    have p0 : W5.cell? ⟨W.heap.size, 0, none⟩ = some (.int .i64 (x.2.1 : Int)) := by rw [cell_of_row _ _ _ _ _ _ hv5]; rfl
    have p1 : W5.cell? ⟨W.heap.size, 1, none⟩ = some (.int .i64 (x.2.2 : Int)) := by rw [cell_of_row _ _ _ _ _ _ hv5]; rfl
    have q05 := (hB5.block w.heap.size (by omega)).trans q0
    have q15 := (hB5.block (w.heap.size + 1) (by omega)).trans q1
    have s0 : W5.cell? ⟨w.heap.size, 0, none⟩ = some (.string ⟨#[]⟩) := by rw [cell_of_row _ _ _ _ _ _ q05]; rfl
    have s1 : W5.cell? ⟨w.heap.size + 1, 0, none⟩ = some (.bool false) := by rw [cell_of_row _ _ _ _ _ _ q15]; rfl
    have f0 := frozen_of_row W5 w.heap.size 0 _ _ q05
    have f1 := frozen_of_row W5 (w.heap.size + 1) 0 _ _ q15
    have HQ0 := Lib.hid q05
    have HQ1 := Lib.hid q15
    have HP := Lib.hid hp
    have HBW := Lib.hid (hb.trans (hB5.mono (by omega)))
    obtain ⟨ea, hea⟩ : ∃ ea, ((x.2.1 : Int) == 61) = ea := ⟨_, rfl⟩
    obtain ⟨eb, heb⟩ : ∃ eb, ((x.2.2 : Int) == 61) = eb := ⟨_, rfl⟩
    have HBAD : Hid (badP x.2 ↔ (ea != eb) = true) := by
      unfold badP
      rw [← hea, ← heb, Hid]
      by_cases e1 : x.2.1 = 61 <;> by_cases e2 : x.2.2 = 61
      · simp [e1, e2]
      · have h2 : ((x.2.2 : Int) == 61) = false := by simp; omega
        rw [h2]; simp [e1, e2]
      · have h2 : ((x.2.1 : Int) == 61) = false := by simp; omega
        rw [h2]; simp [e1, e2]
      · have h2 : ((x.2.1 : Int) == 61) = false := by simp; omega
        have h3 : ((x.2.2 : Int) == 61) = false := by simp; omega
        rw [h2, h3]; simp [e1, e2]
    clear hB5 hv5 q0 q1 q05 q15 hp hb HK
    cases ea with
    | true =>
      cases eb with
      | true =>
        gi_wp2
        refine ⟨rfl, fun y hy => ?_, HQ0.out, HQ1.out, HBW.out⟩
        rw [List.mem_append, List.mem_singleton] at hy
        rcases hy with hy | rfl
        · exact HP.out y hy
        · intro hb
          have := HBAD.out.1 hb
          cases this
      | false =>
        gi_wp2
        refine ⟨by simp [World.setCell], fun b hb => ?_, ⟨pre, x, rfl, HP.out, HBAD.out.2 rfl, ?_⟩, ?_, ?_⟩
        · exact (Below.heap_setCell _ _ _ _ (by show b ≠ w.heap.size + 1; omega)).trans (Below.heap_setCell _ _ _ _ (by show b ≠ w.heap.size; omega))
        · exact (Below.heap_setCell _ _ _ _ (by show w.heap.size ≠ w.heap.size + 1; omega)).trans (heap_setCell_same _ _ 0 _ _ _ HQ0.out)
        · exact heap_setCell_same _ _ 0 _ _ _ ((Below.heap_setCell _ _ _ _ (by show w.heap.size + 1 ≠ w.heap.size; omega)).trans HQ1.out)
        · exact (HBW.out.setCell (p := ⟨w.heap.size, 0, none⟩) (Nat.le_refl _) _).setCell (p := ⟨w.heap.size + 1, 0, none⟩) (Nat.le_succ _) _
    | false =>
      cases eb with
      | true =>
        gi_wp2
        refine ⟨by simp [World.setCell], fun b hb => ?_, ⟨pre, x, rfl, HP.out, HBAD.out.2 rfl, ?_⟩, ?_, ?_⟩
        · exact (Below.heap_setCell _ _ _ _ (by show b ≠ w.heap.size + 1; omega)).trans (Below.heap_setCell _ _ _ _ (by show b ≠ w.heap.size; omega))
        · exact (Below.heap_setCell _ _ _ _ (by show w.heap.size ≠ w.heap.size + 1; omega)).trans (heap_setCell_same _ _ 0 _ _ _ HQ0.out)
        · exact heap_setCell_same _ _ 0 _ _ _ ((Below.heap_setCell _ _ _ _ (by show w.heap.size + 1 ≠ w.heap.size; omega)).trans HQ1.out)
        · exact (HBW.out.setCell (p := ⟨w.heap.size, 0, none⟩) (Nat.le_refl _) _).setCell (p := ⟨w.heap.size + 1, 0, none⟩) (Nat.le_succ _) _
      | false =>
        gi_wp2
        refine ⟨rfl, fun y hy => ?_, HQ0.out, HQ1.out, HBW.out⟩
        rw [List.mem_append, List.mem_singleton] at hy
        rcases hy with hy | rfl
        · exact HP.out y hy
        · intro hb
          have := HBAD.out.1 hb
          cases this
  case done =>
    rintro D xs W hD hS ⟨hp, q0, q1, hb⟩ hDef
    clear hit r0 r1 r2 r3 hb0 hrw
    have s0 : W.cell? ⟨w.heap.size, 0, none⟩ = some (.string ⟨#[]⟩) := by rw [cell_of_row _ _ _ _ _ _ q0]; rfl
    have s1 : W.cell? ⟨w.heap.size + 1, 0, none⟩ = some (.bool false) := by rw [cell_of_row _ _ _ _ _ _ q1]; rfl
    have f0 := frozen_of_row W w.heap.size 0 _ _ q0
    have f1 := frozen_of_row W (w.heap.size + 1) 0 _ _ q1
    have HS := Lib.hid hS
    have HP := Lib.hid hp
    have HQ0 := Lib.hid q0
    have HQ1 := Lib.hid q1
    have HDF := Lib.hid hDef
    clear hS hp q0 q1 hDef
    gi_wp2
    have r0 : ((W.setCell ⟨w.heap.size, 0, none⟩ (.string ⟨#[]⟩)).setCell ⟨w.heap.size + 1, 0, none⟩ (.bool false)).heap[w.heap.size]? = some (.cells #[.string ⟨#[]⟩] 9 (0, 0)) := (Below.heap_setCell _ _ _ _ (by show w.heap.size ≠ w.heap.size + 1; omega)).trans (heap_setCell_same _ _ 0 _ _ _ HQ0.out)
    have r1 : ((W.setCell ⟨w.heap.size, 0, none⟩ (.string ⟨#[]⟩)).setCell ⟨w.heap.size + 1, 0, none⟩ (.bool false)).heap[w.heap.size + 1]? = some (.cells #[.bool false] 4 (0, 0)) := heap_setCell_same _ _ 0 _ _ _ ((Below.heap_setCell _ _ _ _ (by show w.heap.size + 1 ≠ w.heap.size; omega)).trans HQ1.out)
    have rD : ((W.setCell ⟨w.heap.size, 0, none⟩ (.string ⟨#[]⟩)).setCell ⟨w.heap.size + 1, 0, none⟩ (.bool false)).heap[D]? = some (.deferred (some [])) := (Below.heap_setCell _ _ _ _ (by show D ≠ w.heap.size + 1; omega)).trans ((Below.heap_setCell _ _ _ _ (by show D ≠ w.heap.size; omega)).trans HDF.out)
    have hb2 : Below w.heap.size w ((W.setCell ⟨w.heap.size, 0, none⟩ (.string ⟨#[]⟩)).setCell ⟨w.heap.size + 1, 0, none⟩ (.bool false)) := (hb.setCell (p := ⟨w.heap.size, 0, none⟩) (Nat.le_refl _) _).setCell (p := ⟨w.heap.size + 1, 0, none⟩) (Nat.le_succ _) _
    generalize (W.setCell ⟨w.heap.size, 0, none⟩ (.string ⟨#[]⟩)).setCell ⟨w.heap.size + 1, 0, none⟩ (.bool false) = W9 at r0 r1 rD hb2 ⊢
    refine ⟨by simp, .inl ⟨_, _, rfl, run_takeDeferred rD, ?_⟩⟩
    have c0 : (W9.putObj D (.deferred none)).cell? ⟨w.heap.size, 0, none⟩ = some (.string ⟨#[]⟩) := by
      rw [cell_of_row _ _ _ _ _ _ ((World.putObj_heap_other (by omega)).trans r0)]; rfl
    have c1 : (W9.putObj D (.deferred none)).cell? ⟨w.heap.size + 1, 0, none⟩ = some (.bool false) := by
      rw [cell_of_row _ _ _ _ _ _ ((World.putObj_heap_other (by omega)).trans r1)]; rfl
    refine ⟨.tuple #[.string ⟨#[]⟩, .bool false], ?_, ?_⟩
    · simp [results, Try.f59, go_sem, c0, c1]
    · rw [HRR.out]
      exact ⟨.inr ⟨rfl, fun y hy => BF.none HS.out HDC.out badP HDB.out (fun d hd => by
        obtain ⟨z, hz, rfl⟩ := List.mem_map.1 hd
        exact HP.out z hz) hy⟩, hb2.trans (below_put _ (by omega) _)⟩
  case stop =>
    rintro D pre W hD hS ⟨⟨D1, v, e1, hp, hbad, q0⟩, q1, hb⟩ hDef
    clear hit r0 r1 r2 r3 hb0 hrw
    have HDF := Lib.hid hDef
    have HS := Lib.hid hS
    have HE := Lib.hid e1
    have HP := Lib.hid hp
    have HBAD := Lib.hid hbad
    have HQ0 := Lib.hid q0
    have HQ1 := Lib.hid q1
    clear hDef hS e1 hp hbad q0 q1
    gi_wp2
    refine ⟨by simp, .inl ⟨_, _, rfl, run_takeDeferred HDF.out, ?_⟩⟩
    have c0 : (W.putObj D (.deferred none)).cell? ⟨w.heap.size, 0, none⟩ = some (.string v.1) := by
      rw [cell_of_row _ _ _ _ _ _ ((World.putObj_heap_other (by omega)).trans HQ0.out)]; rfl
    have c1 : (W.putObj D (.deferred none)).cell? ⟨w.heap.size + 1, 0, none⟩ = some (.bool true) := by
      rw [cell_of_row _ _ _ _ _ _ ((World.putObj_heap_other (by omega)).trans HQ1.out)]; rfl
    refine ⟨.tuple #[.string v.1, .bool true], ?_, ?_⟩
    · simp [results, Try.f59, go_sem, c0, c1]
    · rw [HRR.out]
      obtain ⟨D2, v2, Q2, e2, hbf⟩ := HS.out
      rw [HE.out] at e2
      obtain ⟨h1, h2⟩ := List.append_inj' e2 rfl
      injection h2 with h2 _
      subst h1
      subst h2
      have hh := hbf.head
      refine ⟨.inl ⟨v.1, rfl, hh.2, ?_, fun y hy hby => ?_⟩, hb.trans (below_put _ (by omega) _)⟩
      · rw [show runS (step2 g) (0, 0) (bs v.1) = v.2 from hh.1]; exact HBAD.out
      · exact hbf.least HDC.out badP HDB.out (fun d hd => by
          obtain ⟨z, hz, rfl⟩ := List.mem_map.1 hd
          exact HP.out z hz) hy hby
end Go.Proofs.Ytkemcmeagnggeaa
