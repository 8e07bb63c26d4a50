import Derived.Test.YtfeohcknopdamaaT16
import Derived.Test.YtfeohcknopdamaaT14
import Derived.Test.YtfeohcknopdamaaT12
/- Layer 10: awake answers true. -/
namespace Go.Proofs.Ytfeohcknopdamaa
open Go.RowKit
set_option linter.unusedVariables false

theorem aw_set : pL expL 2 2 2 = [1, 2] := by decide +kernel
theorem aw_choice : pL chs 3 2 1 = [2, 3] := by decide +kernel
theorem aw_order : oN 3 3 = [3, 2, 1] := by decide +kernel
theorem aw_group : wy 5 0 = 52 := by decide +kernel
theorem aw_dial : setF [2, 3] 3 = [1, 2] := by decide +kernel
theorem aw_ok : (in40 2 && posB 2 ((2 ^ (2 : Int).toNat : Nat) : Int)) = true ∧ ((in40 3 && upB 2 3) && posB 1 ((chs (3 : Int).toNat (2 : Int).toNat : Nat) : Int)) = true ∧ (in18 3 && posB 3 ((fac (3 : Int).toNat : Nat) : Int)) = true ∧ in20 5 = true ∧ (sizesB [2, 3] && posB 3 ((prodL [2, 3] : Nat) : Int)) = true := by decide +kernel
theorem sl_lit (w : World) (e : Nat) (cs : Array Value) (zs : List Int) (hc : cs = (ints zs).toArray) (n : Nat) (hn : zs.length = n) (hl : n ≤ 1000) : Sl (w.alloc (.cells cs e)) (some ⟨w.heap.size, 0, none⟩) n n zs := by
  refine ⟨hn, Nat.le_refl _, by omega, fun e => (by cases e), fun k hk => ⟨w.heap.size, 0, rfl, ?_⟩, fun b off e h0 => ?_⟩
  · rw [cell_of_row _ _ _ _ _ _ (World.alloc_heap_new w _), hc, List.getElem?_toArray, Nat.zero_add, List.getElem?_map, List.getElem?_eq_getElem hk]
    rfl
  · have e := Option.some.inj e
    injection e with e _ _
    subst e
    simp
/-- A result that is a list. -/
def LOk (V : World) (n : Nat) (zs : List Int) (e : Ending) (w' : World) : Prop := (∃ A c, e = .returned (.tuple #[.slice A n c, .int .i64 0]) ∧ Sl w' A n c zs) ∧ Below V.heap.size V w'
theorem LOk.of {V w' : World} {n : Nat} {zs : List Int} {e : Ending} (hn : zs.length = n) (hl : n ≤ 1000) (h : (∃ v, e = .returned (.tuple #[v, .int .i64 0]) ∧ Ow w' V.heap.size 3 v zs) ∧ Below V.heap.size V w') : LOk V n zs e w' := by
  obtain ⟨⟨v, rfl, hv⟩, hb⟩ := h
  obtain ⟨A, c, rfl, hs⟩ := hv.sl_len hn (by omega)
  exact ⟨⟨A, c, rfl, hs⟩, hb⟩
theorem aw1 (V : World) : Calls Try.prog 17 #[.int .i64 2, .int .i64 2] V fun e w' => LOk V 2 [1, 2] e w' := by
  refine (setP_any 2 2 V).mono ?_
  intro e w' h
  rw [if_pos aw_ok.1] at h
  exact LOk.of rfl (by omega) (by rw [← aw_set]; exact h)
theorem aw2 (V : World) : Calls Try.prog 24 #[.int .i64 3, .int .i64 2, .int .i64 1] V fun e w' => LOk V 2 [2, 3] e w' := by
  refine (choiceP_any 3 2 1 V).mono ?_
  intro e w' h
  rw [if_pos aw_ok.2.1] at h
  exact LOk.of rfl (by omega) (by rw [← aw_choice]; exact h)
theorem aw3 (V : World) : Calls Try.prog 30 #[.int .i64 3, .int .i64 3] V fun e w' => LOk V 3 [3, 2, 1] e w' := by
  refine (orderP_any 3 3 V).mono ?_
  intro e w' h
  rw [if_pos aw_ok.2.2.1] at h
  exact LOk.of rfl (by omega) (by rw [← aw_order]; exact h)
theorem aw4 (V : World) : Calls Try.prog 40 #[.int .i64 5] V fun e w' => e = .returned (.tuple #[.int .i64 52, .int .i64 0]) ∧ Below V.heap.size V w' := by
  refine (groupingsP_any 5 V).mono ?_
  rintro e w' ⟨rfl, hb⟩
  rw [if_pos aw_ok.2.2.2.1, show (5 : Int).toNat = 5 from rfl, aw_group]
  exact ⟨rfl, hb⟩
theorem aw5 (V : World) (A : Option Addr) (h : Sl V A 2 2 [2, 3]) : Calls Try.prog 45 #[.slice A 2 2, .int .i64 3] V fun e w' => LOk V 2 [1, 2] e w' := by
  refine (settingP_any [2, 3] 3 A 2 2 V h).mono ?_
  intro e w' h
  rw [if_pos aw_ok.2.2.2.2] at h
  exact LOk.of rfl (by omega) (by rw [← aw_dial]; exact h)
/-- Lists that stay readable. -/
def Sls (V : World) (l : List (Option Addr × Nat × Nat × List Int)) : Prop := ∀ q ∈ l, Sl V q.1 q.2.1 q.2.2.1 q.2.2.2
theorem Sls.below {V V' : World} {l : List (Option Addr × Nat × Nat × List Int)} (h : Sls V l) (hb : Below V.heap.size V V') : Sls V' l := fun q hq => (h q hq).below hb (Nat.le_refl _)
theorem Sls.push {V : World} {l : List (Option Addr × Nat × Nat × List Int)} (h : Sls V l) {A : Option Addr} {n c : Nat} {zs : List Int} (hs : Sl V A n c zs) : Sls V ((A, n, c, zs) :: l) := fun q hq => by
  rcases List.mem_cons.1 hq with rfl | hq
  · exact hs
  · exact h q hq
theorem below_one (V : World) (o : Obj) : Below V.heap.size V (V.alloc o) := (Below.refl _ V).alloc (Nat.le_refl _) o
theorem ints_lit (V : World) (A : Option Addr) (n c : Nat) (zs : List Int) (cs : Array Value) (hc : cs = (ints zs).toArray) (hn : zs.length = n) (hl : n ≤ 1000) (h : Sl V A n c zs) :
    Calls Try.prog 20 #[.slice A n c, .slice (some ⟨V.heap.size, 0, none⟩) n n] (V.alloc (.cells cs 3)) fun e w' => e = .returned (.bool true) ∧ Below V.heap.size V w' := by
  refine (ints_same A _ zs n c n _ hn (by omega) (h.below (below_one V _) (Nat.le_refl _)).rd (sl_lit V 3 cs zs hc n hn hl).rd).mono ?_
  rintro e w' ⟨rfl, hd⟩
  exact ⟨rfl, (below_one V _).trans (hd.below _)⟩
set_option maxRecDepth 100000 in
set_option maxHeartbeats 6400000 in
theorem awake_here (w : World) : Calls Try.prog 19 #[] w fun e w' => e = .returned (.bool true) ∧ Below w.heap.size w w' := by
  go_enter Try.func19, Try.ntmps19
  go_wp2_with (first
    | (go_at_call 17; go_must (refine (aw1 _).mono ?_); rintro e w1 ⟨⟨A1, c1, rfl, hs⟩, hb⟩; have HL1 : Hid (Sls w1 [(A1, 2, c1, [1, 2])]) := Sls.push (fun _ h => by cases h) hs; have HB1 := Lib.hid hb; clear hs hb)
    | (go_at_call 24; go_must (refine (aw2 _).mono ?_); rintro e w2 ⟨⟨A2, c2, rfl, hs⟩, hb⟩; have HL2 := Lib.hid ((HL1.out.below hb).push hs); have HB2 := Lib.hid (HB1.out.trans (hb.mono HB1.out.size)); clear hs hb)
    | (go_at_call 30; go_must (refine (aw3 _).mono ?_); rintro e w3 ⟨⟨A3, c3, rfl, hs⟩, hb⟩; have HL3 := Lib.hid ((HL2.out.below hb).push hs); have HB3 := Lib.hid (HB2.out.trans (hb.mono HB2.out.size)); clear hs hb)
    | (go_at_call 40; go_must (refine (aw4 _).mono ?_); rintro e w4 ⟨rfl, hb⟩; have HL4 := Lib.hid (HL3.out.below hb); have HB4 := Lib.hid (HB3.out.trans (hb.mono HB3.out.size)); clear hb)
    | (go_at_call 45; go_must (refine (aw5 _ _ (sl_lit _ _ _ [2, 3] rfl 2 rfl (by omega))).mono ?_); rintro e w5 ⟨⟨A5, c5, rfl, hs⟩, hb⟩; have HL5 := Lib.hid (((HL4.out.below (below_one _ _)).below hb).push hs); have HB5 := Lib.hid ((HB4.out.alloc HB4.out.size _).trans (hb.mono (by have := HB4.out.size; simp; omega))); have HX1 := Lib.hid (fun V h => ints_lit V A1 2 c1 [1, 2] #[.int .i64 1, .int .i64 2] rfl rfl (by omega) h); have HX2 := Lib.hid (fun V h => ints_lit V A2 2 c2 [2, 3] #[.int .i64 2, .int .i64 3] rfl rfl (by omega) h); have HX3 := Lib.hid (fun V h => ints_lit V A3 3 c3 [3, 2, 1] #[.int .i64 3, .int .i64 2, .int .i64 1] rfl rfl (by omega) h); have HX5 := Lib.hid (fun V h => ints_lit V A5 2 c5 [1, 2] #[.int .i64 1, .int .i64 2] rfl rfl (by omega) h); clear hs hb)
    | (go_at_call 20; have hq : Sl w5 A1 2 c1 [1, 2] := HL5.out (A1, 2, c1, [1, 2]) (by simp); (with_reducible refine (HX1.out w5 hq).mono ?_); clear hq; rintro e w6 ⟨rfl, hb⟩; have HL6 := Lib.hid (HL5.out.below hb); have HB6 := Lib.hid (HB5.out.trans (hb.mono HB5.out.size)); clear hb)
    | (go_at_call 20; have hq : Sl w6 A2 2 c2 [2, 3] := HL6.out (A2, 2, c2, [2, 3]) (by simp); (with_reducible refine (HX2.out w6 hq).mono ?_); clear hq; rintro e w7 ⟨rfl, hb⟩; have HL7 := Lib.hid (HL6.out.below hb); have HB7 := Lib.hid (HB6.out.trans (hb.mono HB6.out.size)); clear hb)
    | (go_at_call 20; have hq : Sl w7 A3 3 c3 [3, 2, 1] := HL7.out (A3, 3, c3, [3, 2, 1]) (by simp); (with_reducible refine (HX3.out w7 hq).mono ?_); clear hq; rintro e w8 ⟨rfl, hb⟩; have HL8 := Lib.hid (HL7.out.below hb); have HB8 := Lib.hid (HB7.out.trans (hb.mono HB7.out.size)); clear hb)
    | (go_at_call 20; have hq : Sl w8 A5 2 c5 [1, 2] := HL8.out (A5, 2, c5, [1, 2]) (by simp); (with_reducible refine (HX5.out w8 hq).mono ?_); clear hq; rintro e w9 ⟨rfl, hb⟩; have HB9 := Lib.hid (HB8.out.trans (hb.mono HB8.out.size)); clear hb))
  go_ret
  exact ⟨rfl, HB9.out⟩
end Go.Proofs.Ytfeohcknopdamaa
