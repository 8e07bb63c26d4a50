import Derived.Test.YtkemcmeagnggeaaT34
import Derived.Test.YtkemcmeagnggeaaT25
import Derived.Test.YtkemcmeagnggeaaT19
import Derived.OpenShut
/- Layer 3: the walk of ThreadOwn. -/
namespace Go.Proofs.Ytkemcmeagnggeaa
open Go.RowKit
set_option linter.unusedVariables false

def ownL (ss : List ByteArray) : List ByteArray := (ss.take 4).map fun s => tmB s 6 4
theorem ownL_at {ss : List ByteArray} {j : Nat} (h : j < (ownL ss).length) : ∃ s, (ownL ss)[j]?.getD ByteArray.empty = tmB s 6 4 := by
  have h' : j < (ss.take 4).length := by unfold ownL at h; rwa [List.length_map] at h
  refine ⟨(ss.take 4)[j], ?_⟩
  unfold ownL
  rw [List.getElem?_map, List.getElem?_eq_getElem h']; rfl
theorem ownL_len (ss : List ByteArray) : (ownL ss).length ≤ 4 := by
  unfold ownL
  rw [List.length_map, List.length_take]; omega
theorem ownL_word {ss : List ByteArray} {j : Nat} (h : j < (ownL ss).length) : wordB (bs ((ownL ss)[j]?.getD ByteArray.empty)) = true := by
  obtain ⟨s, e⟩ := ownL_at h
  rw [e]; exact tmB_word s 6 4 (by omega) (by omega) (by omega)
theorem ownL_size (ss : List ByteArray) (j : Nat) : ((ownL ss)[j]?.getD ByteArray.empty).size ≤ 6 := by
  by_cases h : j < (ownL ss).length
  · obtain ⟨s, e⟩ := ownL_at h
    rw [e]; exact tmB_size s 6 4
  · rw [List.getElem?_eq_none (by omega)]; decide
theorem ownL_fam (ss : List ByteArray) : famB (ownL ss) = true := by
  rw [← famB_good fun j hj => by
    unfold famTo
    rw [ownL_word hj, decide_eq_true (Nat.le_trans (ownL_size ss j) (by decide))]; rfl]
  exact decide_eq_true (ownL_len ss)
theorem cutS_small {s : ByteArray} (h : s.size ≤ 61) : cutS s = s := by
  unfold cutS
  rw [Nat.min_eq_left h]
  exact ByteArray.extract_zero_size
theorem ownL_copy (ss : List ByteArray) : famOf (ownL ss) = ownL ss := by
  unfold famOf
  rw [List.take_of_length_le (Nat.le_trans (ownL_len ss) (by decide))]
  refine (List.map_congr_left fun s hs => ?_).trans (List.map_id _)
  obtain ⟨j, hj, rfl⟩ := List.getElem_of_mem hs
  have := ownL_size ss j
  rw [List.getElem?_eq_getElem hj, Option.getD_some] at this
  exact cutS_small (by omega)
theorem Ows.sls {w : World} {B e n : Nat} {v : Value} {zs : List ByteArray} (h : Ows w B e v zs) (hn : zs.length = n) : ∃ A c, v = .slice A n c ∧ Sls w A n c zs := by
  rcases h.two hn with ⟨rfl, rfl, rfl⟩ | ⟨g, cap, rfl, hc, hg, hcs⟩
  · exact ⟨none, 0, rfl, rfl, Nat.le_refl _, fun k hk => absurd hk (Nat.not_lt_zero _), fun b off e => by cases e⟩
  · refine ⟨_, cap, rfl, hn, hc, fun k hk => ⟨g, 0, rfl, ?_⟩, fun b off e _ => ?_⟩
    · rw [Nat.zero_add, hcs k (by omega), List.getElem?_eq_getElem hk, Option.getD_some]
    · cases e; exact hg
theorem Ows.setBelow {w : World} {B e : Nat} {v : Value} {zs : List ByteArray} (h : Ows w B e v zs) {a : Addr} (ha : a.block < B) (u : Value) : Ows (w.setCell a u) B e v zs := ownsRow_setCell_below h ha u
theorem take_snocB {ss : List ByteArray} {k : Nat} (h : k < ss.length) : (ss.take (k + 1)).map (fun s => tmB s 6 4) = (ss.take k).map (fun s => tmB s 6 4) ++ [tmB (ss[k]?.getD ByteArray.empty) 6 4] := by
  rw [List.take_add_one, List.map_append, List.getElem?_eq_getElem h]; rfl
/-- The four functions of ThreadOwn, at the law's own words. -/
theorem own_family (A : Option Addr) (m c : Nat) (L : List ByteArray) (W : World) (hs : Sls W A m c L) (hm : m ≤ 4) (hz : ∀ j : Nat, (L[j]?.getD ByteArray.empty).size ≤ 6) (hc : famOf L = L) :
    Calls Try.prog 39 #[.slice A m c] W fun e w' => ∃ A' c', e = .returned (.slice A' m c') ∧ Sls w' A' m c' L ∧ Below W.heap.size W w' := by
  refine (family_any A m c L W hs (by omega) (fun i => by have := hz i; omega)).mono ?_
  rintro e w' ⟨v, rfl, hv, hb⟩
  rw [hc] at hv
  obtain ⟨A', c', rfl, h'⟩ := hv.sls hs.len
  exact ⟨A', c', rfl, h', hb⟩
theorem own_arches (x : ByteArray) (m : Nat) (W : World) (hw : isW 3 (bs x)) (hx : x.size ≤ 30) (hd : wordB (bs x) = true) (hm : (archF (bs x) 3).length = m) :
    Calls Try.prog 31 #[.string x, .int .i64 3] W fun e w' => ∃ A c, e = .returned (.tuple #[.slice A m c, .int .i64 0]) ∧ Ow w' W.heap.size 3 (.slice A m c) (archF (bs x) 3) ∧ Sl w' A m c (archF (bs x) 3) ∧ Below W.heap.size W w' := by
  have hok : archOk x ((3 : Nat) : Int) = true := by
    unfold archOk
    rw [hd, lettersK_iff.2 ⟨3, rfl, by omega, by omega⟩, lettersB_iff.2 (fun i hi => by
      have := hw _ (List.getElem_mem hi)
      rw [List.getElem?_eq_getElem hi, Option.getD_some]
      omega)]
    rfl
  refine (archesP_any x 3 W hok).mono ?_
  rintro e w' ⟨v, rfl, hv, hb⟩
  rw [archC_eq (by rw [bs_len]; omega) (by omega) hw] at hv
  have : m ≤ 60 := by have := archF_len (bs x) 3; rw [bs_len] at this; omega
  obtain ⟨A, c, rfl, hsl⟩ := hv.sl_len hm (by omega)
  exact ⟨A, c, rfl, hv, hsl, hb⟩
theorem own_within (x : ByteArray) (W : World) (hx : x.size ≤ 30) (hd : wordB (bs x) = true) :
    Calls Try.prog 18 #[.string x, .string x] W fun e w' => ∃ A m c zs, e = .returned (.tuple #[.slice A m c, .int .i64 0]) ∧ Ow w' W.heap.size 3 (.slice A m c) zs ∧ zs.length = m ∧ m ≤ 1099511627776 ∧ Below W.heap.size W w' := by
  refine (withinP_any x x W hd hd).mono ?_
  rintro e w' ⟨v, rfl, hv, hb⟩
  rw [within_self x hd]
  have hlen : ((withinF (bs x) (bs x)).getD []).length ≤ 1099511627776 := by
    unfold withinF
    cases h : withinTo (bs x) (bs x) (bs x).length with
    | none => simp
    | some p =>
      have := (withinTo_len h).1
      rw [Option.map_some, Option.getD_some, this, bs_len]; omega
  obtain ⟨A, c, rfl, _⟩ := hv.sl hlen
  exact ⟨A, _, c, _, rfl, hv, rfl, hlen, hb⟩
theorem own_minimal (A : Option Addr) (m c q : Nat) (L : List ByteArray) (W : World) (hs : Sls W A m c L) (hm : m ≤ 4) (hw : ∀ j, j < m → wordB (bs (L[j]?.getD ByteArray.empty)) = true) (hf : famB L = true) (hq : (minOf L).length = q) :
    Calls Try.prog 40 #[.slice A m c] W fun e w' => ∃ A' c', e = .returned (.tuple #[.slice A' q c', .int .i64 0]) ∧ Ows w' W.heap.size 9 (.slice A' q c') (minOf L) ∧ Sls w' A' q c' (minOf L) ∧ Below W.heap.size W w' := by
  refine (minimalP_any A m c L W hs hm hw hf).mono ?_
  rintro e w' ⟨v, ms, rfl, hp, hso, hv, hb⟩
  rw [← hs.len] at hp
  obtain rfl := min_is (fun j hj => hw j (by rw [← hs.len]; exact hj)) hp hso
  obtain ⟨A', c', rfl, hsl⟩ := hv.sls hq
  exact ⟨A', c', rfl, hv, hsl, hb⟩
theorem own_minimalR (A : Option Addr) (m c q : Nat) (L : List ByteArray) (W : World) (hs : Sls W A m c L) (hm : m ≤ 4) (hz : ∀ j : Nat, (L[j]?.getD ByteArray.empty).size ≤ 6) (hq : (minOf L).length = q) :
    Calls Try.prog 44 #[.slice A m c] W fun e w' => ∃ A' c', e = .returned (.slice A' q c') ∧ Sls w' A' q c' (minOf L) ∧ Below W.heap.size W w' := by
  refine (minimal_any A m c L W hs (by omega) (fun i => by have := hz i; omega)).mono ?_
  rintro e w' ⟨v, rfl, hv, hb⟩
  obtain ⟨A', c', rfl, h'⟩ := hv.sls hq
  exact ⟨A', c', rfl, h', hb⟩
theorem own_archesR (x : ByteArray) (m : Nat) (W : World) (hx : x.size ≤ 30) (hd : wordB (bs x) = true) (hm : (archF (bs x) 3).length = m) :
    Calls Try.prog 34 #[.string x, .int .i64 3] W fun e w' => ∃ A c, e = .returned (.slice A m c) ∧ Sl w' A m c (archF (bs x) 3) ∧ Below W.heap.size W w' := by
  refine (arches_any x 3 W hd (by omega) (by omega)).mono ?_
  rintro e w' ⟨v, rfl, hv, hb⟩
  have : m ≤ 60 := by have := archF_len (bs x) 3; rw [bs_len] at this; omega
  obtain ⟨A, c, rfl, hsl⟩ := hv.sl_len hm (by omega)
  exact ⟨A, c, rfl, hsl, hb⟩
theorem own_texts (A B : Option Addr) (m c d : Nat) (L : List ByteArray) (W : World) (hs : Sls W A m c L) (ht : Sls W B m d L) (hm : m ≤ 4) :
    Calls Try.prog 43 #[.slice A m c, .slice B m d] W fun e w' => e = .returned (.bool true) ∧ Below W.heap.size W w' := by
  refine (texts_any A B m c m d L L W hs.len ht.len (by omega) (by omega) hs.rd ht.rd).mono ?_
  rintro e w' ⟨rfl, k, rfl⟩
  exact ⟨by unfold eqlS; rw [decide_eq_true rfl], below_dn (Below.refl _ _) k⟩
theorem own_ints (A B : Option Addr) (m c d : Nat) (L : List Int) (W : World) (hs : Sl W A m c L) (ht : Sl W B m d L) (hm : m ≤ 1099511627776) :
    Calls Try.prog 24 #[.slice A m c, .slice B m d] W fun e w' => e = .returned (.bool true) ∧ Below W.heap.size W w' := by
  refine (ints_same A B L m c d W hs.len hm hs.rd ht.rd).mono ?_
  rintro e w' ⟨rfl, k, rfl⟩
  exact ⟨rfl, below_dn (Below.refl _ _) k⟩
/-- What stands while m is turned, while b is, while a is. -/
def OwnC (w7 w9 : World) (A10 : Option Addr) (q c10 : Nat) (w' : World) : Prop := (∃ ms, ms.length = q ∧ Ows w' w9.heap.size 9 (.slice A10 q c10) ms) ∧ Below w7.heap.size w7 w'
def OwnB (w7 w8 w9 : World) (A9 A10 : Option Addr) (m9 c9 q c10 : Nat) (w' : World) : Prop := (∃ zs, zs.length = m9 ∧ Ow w' w8.heap.size 3 (.slice A9 m9 c9) zs) ∧ OwnC w7 w9 A10 q c10 w'
def OwnA (w7 w8 w9 : World) (A8 A9 A10 : Option Addr) (p8 c8 m9 c9 q c10 : Nat) (w' : World) : Prop := (∃ zs, zs.length = p8 ∧ Ow w' w7.heap.size 3 (.slice A8 p8 c8) zs) ∧ OwnB w7 w8 w9 A9 A10 m9 c9 q c10 w'
theorem bcall {a b c : World} (h : Below a.heap.size a b) (k : Below b.heap.size b c) : Below a.heap.size a c := h.trans (k.mono h.size)
theorem OwnC.put {w7 w9 w' : World} {A10 : Option Addr} {q c10 i : Nat} (h : OwnC w7 w9 A10 q c10 w') (h79 : w7.heap.size ≤ w9.heap.size) (hi : i < q) (s : ByteArray) :
    ∃ g z, A10 = some ⟨g, 0, none⟩ ∧ w'.cell? ⟨g, i, none⟩ = some (.string z) ∧ w'.frozen? ⟨g, i, none⟩ = false ∧ OwnC w7 w9 A10 q c10 (w'.setCell ⟨g, i, none⟩ (.string s)) := by
  obtain ⟨⟨ms, hm, ho⟩, hb⟩ := h
  obtain ⟨g, cap, e, _, hB, _, _⟩ := ho.form hm (by omega)
  injection e with e1 e2 e3
  subst e1 e3
  exact ⟨g, _, rfl, ho.cellAt hm hi, ho.free hm i, ⟨_, by rw [List.length_set]; exact hm, ho.put hm i s⟩, hb.setCell (p := ⟨g, i, none⟩) (by show _ ≤ g; omega) _⟩
theorem OwnC.setBelow {w7 w9 w' : World} {A10 : Option Addr} {q c10 : Nat} (h : OwnC w7 w9 A10 q c10 w') {a : Addr} (ha : a.block < w9.heap.size) (h7 : w7.heap.size ≤ a.block) (u : Value) : OwnC w7 w9 A10 q c10 (w'.setCell a u) := by
  obtain ⟨⟨ms, hm, ho⟩, hb⟩ := h
  exact ⟨⟨ms, hm, ho.setBelow ha u⟩, hb.setCell h7 u⟩
theorem OwnB.put {w7 w8 w9 w' : World} {A9 A10 : Option Addr} {m9 c9 q c10 i : Nat} (h : OwnB w7 w8 w9 A9 A10 m9 c9 q c10 w') (h78 : w7.heap.size ≤ w8.heap.size) (hA : ∀ g, A9 = some ⟨g, 0, none⟩ → g < w9.heap.size) (hi : i < m9) (x : Int) :
    ∃ g z, A9 = some ⟨g, 0, none⟩ ∧ w'.cell? ⟨g, i, none⟩ = some (.int .i64 z) ∧ w'.frozen? ⟨g, i, none⟩ = false ∧ OwnB w7 w8 w9 A9 A10 m9 c9 q c10 (w'.setCell ⟨g, i, none⟩ (.int .i64 x)) := by
  obtain ⟨⟨zs, hm, ho⟩, hc⟩ := h
  obtain ⟨g, cap, e, _, hB, _, _⟩ := ho.form (by omega)
  injection e with e1 e2 e3
  subst e1 e3
  exact ⟨g, _, rfl, ho.cellAt hm hi, ho.free hm i, ⟨_, by rw [List.length_set]; exact hm, ho.put hm i x⟩, hc.setBelow (a := ⟨g, i, none⟩) (hA g rfl) (by show _ ≤ g; omega) _⟩
theorem OwnB.setBelow {w7 w8 w9 w' : World} {A9 A10 : Option Addr} {m9 c9 q c10 : Nat} (h : OwnB w7 w8 w9 A9 A10 m9 c9 q c10 w') (h89 : w8.heap.size ≤ w9.heap.size) {a : Addr} (ha : a.block < w8.heap.size) (h7 : w7.heap.size ≤ a.block) (u : Value) : OwnB w7 w8 w9 A9 A10 m9 c9 q c10 (w'.setCell a u) := by
  obtain ⟨⟨zs, hm, ho⟩, hc⟩ := h
  exact ⟨⟨zs, hm, ho.setBelow ha u⟩, hc.setBelow (by omega) h7 u⟩
theorem OwnA.put {w7 w8 w9 w' : World} {A8 A9 A10 : Option Addr} {p8 c8 m9 c9 q c10 i : Nat} (h : OwnA w7 w8 w9 A8 A9 A10 p8 c8 m9 c9 q c10 w') (h89 : w8.heap.size ≤ w9.heap.size) (hA : ∀ g, A8 = some ⟨g, 0, none⟩ → g < w8.heap.size) (hi : i < p8) (x : Int) :
    ∃ g z, A8 = some ⟨g, 0, none⟩ ∧ w'.cell? ⟨g, i, none⟩ = some (.int .i64 z) ∧ w'.frozen? ⟨g, i, none⟩ = false ∧ OwnA w7 w8 w9 A8 A9 A10 p8 c8 m9 c9 q c10 (w'.setCell ⟨g, i, none⟩ (.int .i64 x)) := by
  obtain ⟨⟨zs, hm, ho⟩, hc⟩ := h
  obtain ⟨g, cap, e, _, hB, _, _⟩ := ho.form (by omega)
  injection e with e1 e2 e3
  subst e1 e3
  exact ⟨g, _, rfl, ho.cellAt hm hi, ho.free hm i, ⟨_, by rw [List.length_set]; exact hm, ho.put hm i x⟩, hc.setBelow h89 (a := ⟨g, i, none⟩) (hA g rfl) hB _⟩
set_option maxRecDepth 100000 in
set_option maxHeartbeats 3200000 in
theorem own_walk (a0 : ByteArray) (A : Option Addr) (n c : Nat) (ss : List ByteArray) (w : World) (w0 : a0.size ≤ maxLen) (hs : Sls w A n c ss) (hn : n ≤ maxLen) (hz : ∀ i : Nat, (ss[i]?.getD ByteArray.empty).size ≤ maxLen) :
    Calls Try.prog 16 #[.string a0, .slice A n c] w fun e w' => e = .returned (.bool true) ∧ Below w.heap.size w w' := by
  unfold maxLen at w0 hn hz
  obtain ⟨i0, hi, hz0, hz1, hz2⟩ := info_parts Try.infoStr
  have HI : Hid (Try.prog.info? 9 = some i0 ∧ i0.zero = some (.string ByteArray.empty) ∧ i0.size = 1 ∧ i0.bytes = 16) := ⟨hi, hz0, hz1, hz2⟩
  clear hi hz0 hz1 hz2
  have HTM : Hid (∀ W, Calls Try.prog 46 #[.string a0, .int .i64 30, .int .i64 3] W fun e w' => e = .returned (.string (tmB a0 30 3)) ∧ Below W.heap.size W w') := fun W => tame_max a0 30 3 W (by omega) (by omega) (by omega) (by omega)
  have HTW : Hid (∀ k W, Calls Try.prog 46 #[.string (ss[k]?.getD ByteArray.empty), .int .i64 6, .int .i64 4] W fun e w' => e = .returned (.string (tmB (ss[k]?.getD ByteArray.empty) 6 4)) ∧ Below W.heap.size W w') := fun k W => tame_max _ 6 4 W (hz k) (by omega) (by omega) (by omega)
  have hxW : isW 3 (bs (tmB a0 30 3)) := tmB_isW a0 30 3 (by omega) (by omega)
  have hx30 := tmB_size a0 30 3
  have hxw : wordB (bs (tmB a0 30 3)) = true := tmB_word a0 30 3 (by omega) (by omega) (by omega)
  generalize tmB a0 30 3 = x at HTM hxW hx30 hxw
  have HL : Hid (ss.length = n) := hs.len
  have HS := Lib.hid hs
  have HXW := Lib.hid hxW
  have HWD := Lib.hid hxw
  clear hs hz hxW hxw
  go_enter Try.func16, Try.ntmps16
  go_wp2_with (go_at_call 46; (with_reducible refine (HTM.out _).mono ?_); rintro e w1 ⟨rfl, hb1⟩; have HB1 := Lib.hid hb1; clear hb1)
  have HS1 := Lib.hid (HS.out.below HB1.out (Nat.le_refl _))
  clear HTM
  go_loopw [5, 6] (fun l i w' => ∃ k : Nat, k ≤ n ∧ k ≤ 4 ∧ i = .int .i64 (k : Int) ∧ Hid (Ows w' w1.heap.size 9 l ((ss.take k).map fun s => tmB s 6 4)) ∧ Below w1.heap.size w1 w') (fun _ i _ => n - (intOf i).toNat)
  case atStart => exact ⟨0, by omega, by omega, by go_num, Ows.nil _ _ _, Below.refl _ _⟩
  case round =>
    obtain ⟨k, hk, hk4, rfl, HO, hD⟩ := hrel
    obtain ⟨wo, rfl⟩ : ∃ wo : World, wo = wr := ⟨_, rfl⟩
    have hbase := hD.size
    by_cases hlt : k < n ∧ k < 4
    · obtain ⟨hkn, hk4'⟩ := hlt
      obtain ⟨b, off, rfl, hc⟩ := (HS1.out.below hD (Nat.le_refl _)).rd k (by rw [HL.out]; exact hkn)
      have HT := Lib.hid (HTW.out k)
      have HSN := Lib.hid (take_snocB (ss := ss) (k := k) (by rw [HL.out]; exact hkn))
      have HLB : Hid (((ss.take k).map fun s => tmB s 6 4).length ≤ 1099511627776) := by rw [Hid, List.length_map, List.length_take]; omega
      generalize ss[k]?.getD ByteArray.empty = s at hc HT HSN
      generalize tmB s 6 4 = y at HT HSN
      obtain ⟨L, hL⟩ : ∃ L, L = (ss.take k).map fun s => tmB s 6 4 := ⟨_, rfl⟩
      rw [← hL] at HO HSN HLB
      clear hL
      go_wp2_with (first | (go_at_call 46; (with_reducible refine (HT.out _).mono ?_); rintro e w2 ⟨rfl, hb2⟩; have HO2 : Hid (Ows w2 w1.heap.size 9 _ L) := HO.out.below hb2 (Nat.le_refl _); have HD2 : Hid (Below w1.heap.size w1 w2) := hD.trans (hb2.mono hbase); clear hb2) | (at_builtin; go_must (refine pushs_law _ rfl (.tmp 33) (.tmp 39) 51 rfl w1.heap.size 9 i0 Try.underlying51 HI.out _ L y rfl rfl HO2.out HLB.out HD2.out.size ?_); intro v4 w4 hv4 hg4 hat4; have HO4 := Lib.hid hv4; have HD4 := Lib.hid (HD2.out.grown hg4 HD2.out.size (fun b hb => (HO2.out.lt hb).1)); clear hv4 hg4 hat4))
      exact ⟨⟨k + 1, by omega, by omega, by go_num, (by rw [Hid, HSN.out]; exact HO4.out), HD4.out⟩, by simp [intOf] <;> omega⟩
    · have HKL : Hid ((ss.take k).map (fun s => tmB s 6 4) = ownL ss) := by
        unfold ownL
        by_cases h4 : k = 4
        · rw [h4]; rfl
        · rw [Hid, List.take_of_length_le (by rw [HL.out]; omega), List.take_of_length_le (by rw [HL.out]; omega)]
      rw [HKL.out] at HO
      have HLW : Hid (∀ j, j < (ownL ss).length → wordB (bs ((ownL ss)[j]?.getD ByteArray.empty)) = true) := fun j hj => ownL_word hj
      have HLF := Lib.hid (ownL_fam ss)
      have HLZ := Lib.hid (ownL_size ss)
      have HLC := Lib.hid (ownL_copy ss)
      have hl4 := ownL_len ss
      generalize ownL ss = L at HO HLW HLF HLZ HLC hl4
      clear HKL
      obtain ⟨m, hm⟩ : ∃ m, L.length = m := ⟨_, rfl⟩
      rw [hm] at hl4
      obtain ⟨A5, c5, rfl, hs5⟩ := HO.out.sls hm
      have HS5 := Lib.hid hs5
      clear hs5
      obtain ⟨p8, hp8⟩ : ∃ p8, (archF (bs x) 3).length = p8 := ⟨_, rfl⟩
      have hp60 : p8 ≤ 60 := by have := archF_len (bs x) 3; rw [bs_len] at this; omega
      obtain ⟨q, hq⟩ : ∃ q, (minOf L).length = q := ⟨_, rfl⟩
      have hq4 : q ≤ 4 := by have := minTo_len L L.length; rw [show minTo L L.length = minOf L from rfl, hq, hm] at this; omega
      have HFam := Lib.hid (fun A c W h => own_family A m c L W h hl4 HLZ.out HLC.out)
      have HAr := Lib.hid (fun W => own_arches x p8 W HXW.out hx30 HWD.out hp8)
      have HWi := Lib.hid (fun W => own_within x W hx30 HWD.out)
      have HMi := Lib.hid (fun A c W h => own_minimal A m c q L W h hl4 (by rw [← hm]; exact HLW.out) HLF.out hq)
      have HMR := Lib.hid (fun A c W h => own_minimalR A m c q L W h hl4 HLZ.out hq)
      have HAR := Lib.hid (fun W => own_archesR x p8 W hx30 HWD.out hp8)
      have HD := Lib.hid hD
      have HP8 := Lib.hid hp8
      have HQ := Lib.hid hq
      clear hD hm hp8 hq HTW HS1 HLW HLF
      have hcs : k = n ∨ (k < n ∧ k = 4) := by omega
      clear hlt hk hk4
      rcases hcs with rfl | ⟨hkn, rfl⟩
      · go_wp2_with (first | (go_at_call 39; refine (HFam.out _ _ _ HS5.out).mono ?_; rintro e wa ⟨A7, c7, rfl, hs7, hba⟩; have HS7 := Lib.hid hs7; have HBA := Lib.hid hba; clear hs7 hba) | (go_at_call 31; refine (HAr.out _).mono ?_; rintro e wb ⟨A8, c8, rfl, ho8, _, hbb⟩; have HO8 := Lib.hid ho8; have HBB := Lib.hid hbb; clear ho8 hbb) | (go_at_call 18; refine (HWi.out _).mono ?_; rintro e wc ⟨A9, m9, c9, zs9, rfl, ho9, hl9, hm9, hbc⟩; have HO9 := Lib.hid ho9; have HL9 := Lib.hid hl9; have HBC := Lib.hid hbc; clear ho9 hl9 hbc; have HS5c := Lib.hid (HS5.out.below (bcall (bcall HBA.out HBB.out) HBC.out) (Nat.le_refl _))) | (go_at_call 40; refine (HMi.out _ _ _ HS5c.out).mono ?_; rintro e wd ⟨A10, c10, rfl, ho10, _, hbd⟩; have HO10 := Lib.hid ho10; have HBD := Lib.hid hbd; clear ho10 hbd))
        have HA0 : Hid (OwnA wa wb wc A8 A9 A10 p8 c8 m9 c9 q c10 wd) := ⟨⟨_, HP8.out, HO8.out.below (bcall HBC.out HBD.out) (Nat.le_refl _)⟩, ⟨zs9, HL9.out, HO9.out.below HBD.out (Nat.le_refl _)⟩, ⟨_, HQ.out, HO10.out⟩, bcall (bcall HBB.out HBC.out) HBD.out⟩
        have H8 : Hid (∀ g, A8 = some ⟨g, 0, none⟩ → g < wb.heap.size) := fun g e => (HO8.out.lt (by rw [e]; rfl)).2
        have H9 : Hid (∀ g, A9 = some ⟨g, 0, none⟩ → g < wc.heap.size) := fun g e => (HO9.out.lt (by rw [e]; rfl)).2
        have h78 := HBB.out.size
        have h89 := HBC.out.size
        clear HO8 HO9 HO10 HL9 HS5c
        go_loopw [14] (fun vi w' => ∃ i : Nat, i ≤ p8 ∧ vi = .int .i64 (i : Int) ∧ Hid (OwnA wa wb wc A8 A9 A10 p8 c8 m9 c9 q c10 w')) (fun vi _ => p8 - (intOf vi).toNat)
        case atStart => exact ⟨0, by omega, by go_num, HA0.out⟩
        case round =>
          obtain ⟨i, hi, rfl, HA⟩ := hrel
          by_cases hlt : i < p8
          · obtain ⟨g, z, rfl, d1, d2, hn⟩ := HA.out.put h89 H8.out hlt (-1)
            have HN := Lib.hid hn
            clear hn
            go_wp2
            exact ⟨⟨i + 1, by omega, by go_num, HN.out⟩, by simp [intOf] <;> omega⟩
          · have HB0 := Lib.hid HA.out.2
            clear HA HA0 H8
            go_wp2
            go_loopw [15] (fun vi w' => ∃ i : Nat, i ≤ m9 ∧ vi = .int .i64 (i : Int) ∧ Hid (OwnB wa wb wc A9 A10 m9 c9 q c10 w')) (fun vi _ => m9 - (intOf vi).toNat)
            case atStart => exact ⟨0, by omega, by go_num, HB0.out⟩
            case round =>
              obtain ⟨i, hi, rfl, HA⟩ := hrel
              by_cases hlt : i < m9
              · obtain ⟨g, z, rfl, d1, d2, hn⟩ := HA.out.put h78 H9.out hlt (-1)
                have HN := Lib.hid hn
                clear hn
                go_wp2
                exact ⟨⟨i + 1, by omega, by go_num, HN.out⟩, by simp [intOf] <;> omega⟩
              · have HC0 := Lib.hid HA.out.2
                clear HA HB0 H9
                go_wp2
                go_loopw [16] (fun vi w' => ∃ i : Nat, i ≤ q ∧ vi = .int .i64 (i : Int) ∧ Hid (OwnC wa wc A10 q c10 w')) (fun vi _ => q - (intOf vi).toNat)
                case atStart => exact ⟨0, by omega, by go_num, HC0.out⟩
                case round =>
                  obtain ⟨i, hi, rfl, HA⟩ := hrel
                  by_cases hlt : i < q
                  · obtain ⟨g, z, rfl, d1, d2, hn⟩ := HA.out.put (Nat.le_trans h78 h89) hlt ⟨#[120]⟩
                    have HN := Lib.hid hn
                    clear hn
                    go_wp2
                    exact ⟨⟨i + 1, by omega, by go_num, HN.out⟩, by simp [intOf] <;> omega⟩
                  · obtain ⟨wz, rfl⟩ : ∃ wo : World, wo = wr := ⟨_, rfl⟩
                    have HBW : Hid (Below wa.heap.size wa wz) := HA.out.2
                    have HBZ : Hid (Below wz.heap.size wz wz) := Below.refl _ _
                    have HS5w := Lib.hid (HS5.out.below (bcall HBA.out HBW.out) (Nat.le_refl _))
                    clear HA HC0 HFam HWi
                    go_wp2_with (first | (go_at_call 31; refine (HAr.out _).mono ?_; rintro e we ⟨A11, c11, rfl, _, hs11, hbe⟩; have HBE := Lib.hid (bcall HBZ.out hbe); have HSE := Lib.hid (HS5w.out.below hbe (Nat.le_refl _)); have HS11 := Lib.hid hs11; clear hs11 hbe) | (go_at_call 40; refine (HMi.out _ _ _ HSE.out).mono ?_; rintro e wf ⟨A12, c12, rfl, _, hs12, hbf⟩; have HBF := Lib.hid (bcall HBE.out hbf); have HSF := Lib.hid (HSE.out.below hbf (Nat.le_refl _)); have HS11f := Lib.hid (HS11.out.below hbf (Nat.le_refl _)); have HS12 := Lib.hid hs12; have HS7f := Lib.hid (HS7.out.below (bcall (bcall HBW.out HBE.out) hbf) (Nat.le_refl _)); clear hs12 hbf) | (go_at_call 43; (with_reducible refine (own_texts A5 A7 m c5 c7 L _ HSF.out HS7f.out hl4).mono ?_); rintro e wg ⟨rfl, hbg⟩; have HBG := Lib.hid (bcall HBF.out hbg); have HS11g := Lib.hid (HS11f.out.below hbg (Nat.le_refl _)); have HS12g := Lib.hid (HS12.out.below hbg (Nat.le_refl _)); have HS7g := Lib.hid (HS7f.out.below hbg (Nat.le_refl _)); clear hbg) | (go_at_call 34; refine (HAR.out _).mono ?_; rintro e wh ⟨A13, c13, rfl, hs13, hbh⟩; have HBH := Lib.hid (bcall HBG.out hbh); have HS11h := Lib.hid (HS11g.out.below hbh (Nat.le_refl _)); have HS12h := Lib.hid (HS12g.out.below hbh (Nat.le_refl _)); have HS7h := Lib.hid (HS7g.out.below hbh (Nat.le_refl _)); have HS13 := Lib.hid hs13; clear hs13 hbh) | (go_at_call 24; refine (own_ints A11 A13 p8 c11 c13 _ _ HS11h.out HS13.out (by omega)).mono ?_; rintro e wi ⟨rfl, hbi⟩; have HBI := Lib.hid (bcall HBH.out hbi); have HS12i := Lib.hid (HS12h.out.below hbi (Nat.le_refl _)); have HS7i := Lib.hid (HS7h.out.below hbi (Nat.le_refl _)); clear hbi) | (go_at_call 44; refine (HMR.out _ _ _ HS7i.out).mono ?_; rintro e wj ⟨A14, c14, rfl, hs14, hbj⟩; have HBJ := Lib.hid (bcall HBI.out hbj); have HS12j := Lib.hid (HS12i.out.below hbj (Nat.le_refl _)); have HS14 := Lib.hid hs14; clear hs14 hbj) | (go_at_call 43; (with_reducible refine (own_texts A12 A14 q c12 c14 _ _ HS12j.out HS14.out hq4).mono ?_); rintro e wk ⟨rfl, hbk⟩; have HBK := Lib.hid (bcall HBJ.out hbk); clear hbk) | (go_at_call 21; refine (awake_here _).mono ?_; rintro e wl ⟨rfl, hbl⟩; have HBL := Lib.hid (bcall HBK.out hbl); clear hbl))
                    go_ret
                    exact ⟨rfl, bcall (bcall (bcall (bcall HB1.out HD.out) HBA.out) HBW.out) HBL.out⟩
      · go_wp2_with (first | (go_at_call 39; refine (HFam.out _ _ _ HS5.out).mono ?_; rintro e wa ⟨A7, c7, rfl, hs7, hba⟩; have HS7 := Lib.hid hs7; have HBA := Lib.hid hba; clear hs7 hba) | (go_at_call 31; refine (HAr.out _).mono ?_; rintro e wb ⟨A8, c8, rfl, ho8, _, hbb⟩; have HO8 := Lib.hid ho8; have HBB := Lib.hid hbb; clear ho8 hbb) | (go_at_call 18; refine (HWi.out _).mono ?_; rintro e wc ⟨A9, m9, c9, zs9, rfl, ho9, hl9, hm9, hbc⟩; have HO9 := Lib.hid ho9; have HL9 := Lib.hid hl9; have HBC := Lib.hid hbc; clear ho9 hl9 hbc; have HS5c := Lib.hid (HS5.out.below (bcall (bcall HBA.out HBB.out) HBC.out) (Nat.le_refl _))) | (go_at_call 40; refine (HMi.out _ _ _ HS5c.out).mono ?_; rintro e wd ⟨A10, c10, rfl, ho10, _, hbd⟩; have HO10 := Lib.hid ho10; have HBD := Lib.hid hbd; clear ho10 hbd))
        have HA0 : Hid (OwnA wa wb wc A8 A9 A10 p8 c8 m9 c9 q c10 wd) := ⟨⟨_, HP8.out, HO8.out.below (bcall HBC.out HBD.out) (Nat.le_refl _)⟩, ⟨zs9, HL9.out, HO9.out.below HBD.out (Nat.le_refl _)⟩, ⟨_, HQ.out, HO10.out⟩, bcall (bcall HBB.out HBC.out) HBD.out⟩
        have H8 : Hid (∀ g, A8 = some ⟨g, 0, none⟩ → g < wb.heap.size) := fun g e => (HO8.out.lt (by rw [e]; rfl)).2
        have H9 : Hid (∀ g, A9 = some ⟨g, 0, none⟩ → g < wc.heap.size) := fun g e => (HO9.out.lt (by rw [e]; rfl)).2
        have h78 := HBB.out.size
        have h89 := HBC.out.size
        clear HO8 HO9 HO10 HL9 HS5c
        go_loopw [14] (fun vi w' => ∃ i : Nat, i ≤ p8 ∧ vi = .int .i64 (i : Int) ∧ Hid (OwnA wa wb wc A8 A9 A10 p8 c8 m9 c9 q c10 w')) (fun vi _ => p8 - (intOf vi).toNat)
        case atStart => exact ⟨0, by omega, by go_num, HA0.out⟩
        case round =>
          obtain ⟨i, hi, rfl, HA⟩ := hrel
          by_cases hlt : i < p8
          · obtain ⟨g, z, rfl, d1, d2, hn⟩ := HA.out.put h89 H8.out hlt (-1)
            have HN := Lib.hid hn
            clear hn
            go_wp2
            exact ⟨⟨i + 1, by omega, by go_num, HN.out⟩, by simp [intOf] <;> omega⟩
          · have HB0 := Lib.hid HA.out.2
            clear HA HA0 H8
            go_wp2
            go_loopw [15] (fun vi w' => ∃ i : Nat, i ≤ m9 ∧ vi = .int .i64 (i : Int) ∧ Hid (OwnB wa wb wc A9 A10 m9 c9 q c10 w')) (fun vi _ => m9 - (intOf vi).toNat)
            case atStart => exact ⟨0, by omega, by go_num, HB0.out⟩
            case round =>
              obtain ⟨i, hi, rfl, HA⟩ := hrel
              by_cases hlt : i < m9
              · obtain ⟨g, z, rfl, d1, d2, hn⟩ := HA.out.put h78 H9.out hlt (-1)
                have HN := Lib.hid hn
                clear hn
                go_wp2
                exact ⟨⟨i + 1, by omega, by go_num, HN.out⟩, by simp [intOf] <;> omega⟩
              · have HC0 := Lib.hid HA.out.2
                clear HA HB0 H9
                go_wp2
                go_loopw [16] (fun vi w' => ∃ i : Nat, i ≤ q ∧ vi = .int .i64 (i : Int) ∧ Hid (OwnC wa wc A10 q c10 w')) (fun vi _ => q - (intOf vi).toNat)
                case atStart => exact ⟨0, by omega, by go_num, HC0.out⟩
                case round =>
                  obtain ⟨i, hi, rfl, HA⟩ := hrel
                  by_cases hlt : i < q
                  · obtain ⟨g, z, rfl, d1, d2, hn⟩ := HA.out.put (Nat.le_trans h78 h89) hlt ⟨#[120]⟩
                    have HN := Lib.hid hn
                    clear hn
                    go_wp2
                    exact ⟨⟨i + 1, by omega, by go_num, HN.out⟩, by simp [intOf] <;> omega⟩
                  · obtain ⟨wz, rfl⟩ : ∃ wo : World, wo = wr := ⟨_, rfl⟩
                    have HBW : Hid (Below wa.heap.size wa wz) := HA.out.2
                    have HBZ : Hid (Below wz.heap.size wz wz) := Below.refl _ _
                    have HS5w := Lib.hid (HS5.out.below (bcall HBA.out HBW.out) (Nat.le_refl _))
                    clear HA HC0 HFam HWi
                    go_wp2_with (first | (go_at_call 31; refine (HAr.out _).mono ?_; rintro e we ⟨A11, c11, rfl, _, hs11, hbe⟩; have HBE := Lib.hid (bcall HBZ.out hbe); have HSE := Lib.hid (HS5w.out.below hbe (Nat.le_refl _)); have HS11 := Lib.hid hs11; clear hs11 hbe) | (go_at_call 40; refine (HMi.out _ _ _ HSE.out).mono ?_; rintro e wf ⟨A12, c12, rfl, _, hs12, hbf⟩; have HBF := Lib.hid (bcall HBE.out hbf); have HSF := Lib.hid (HSE.out.below hbf (Nat.le_refl _)); have HS11f := Lib.hid (HS11.out.below hbf (Nat.le_refl _)); have HS12 := Lib.hid hs12; have HS7f := Lib.hid (HS7.out.below (bcall (bcall HBW.out HBE.out) hbf) (Nat.le_refl _)); clear hs12 hbf) | (go_at_call 43; (with_reducible refine (own_texts A5 A7 m c5 c7 L _ HSF.out HS7f.out hl4).mono ?_); rintro e wg ⟨rfl, hbg⟩; have HBG := Lib.hid (bcall HBF.out hbg); have HS11g := Lib.hid (HS11f.out.below hbg (Nat.le_refl _)); have HS12g := Lib.hid (HS12.out.below hbg (Nat.le_refl _)); have HS7g := Lib.hid (HS7f.out.below hbg (Nat.le_refl _)); clear hbg) | (go_at_call 34; refine (HAR.out _).mono ?_; rintro e wh ⟨A13, c13, rfl, hs13, hbh⟩; have HBH := Lib.hid (bcall HBG.out hbh); have HS11h := Lib.hid (HS11g.out.below hbh (Nat.le_refl _)); have HS12h := Lib.hid (HS12g.out.below hbh (Nat.le_refl _)); have HS7h := Lib.hid (HS7g.out.below hbh (Nat.le_refl _)); have HS13 := Lib.hid hs13; clear hs13 hbh) | (go_at_call 24; refine (own_ints A11 A13 p8 c11 c13 _ _ HS11h.out HS13.out (by omega)).mono ?_; rintro e wi ⟨rfl, hbi⟩; have HBI := Lib.hid (bcall HBH.out hbi); have HS12i := Lib.hid (HS12h.out.below hbi (Nat.le_refl _)); have HS7i := Lib.hid (HS7h.out.below hbi (Nat.le_refl _)); clear hbi) | (go_at_call 44; refine (HMR.out _ _ _ HS7i.out).mono ?_; rintro e wj ⟨A14, c14, rfl, hs14, hbj⟩; have HBJ := Lib.hid (bcall HBI.out hbj); have HS12j := Lib.hid (HS12i.out.below hbj (Nat.le_refl _)); have HS14 := Lib.hid hs14; clear hs14 hbj) | (go_at_call 43; (with_reducible refine (own_texts A12 A14 q c12 c14 _ _ HS12j.out HS14.out hq4).mono ?_); rintro e wk ⟨rfl, hbk⟩; have HBK := Lib.hid (bcall HBJ.out hbk); clear hbk) | (go_at_call 21; refine (awake_here _).mono ?_; rintro e wl ⟨rfl, hbl⟩; have HBL := Lib.hid (bcall HBK.out hbl); clear hbl))
                    go_ret
                    exact ⟨rfl, bcall (bcall (bcall (bcall HB1.out HD.out) HBA.out) HBW.out) HBL.out⟩
end Go.Proofs.Ytkemcmeagnggeaa
/- Layer 3: a []string argument as the frame gives it. -/
namespace Go.Proofs.Ytkemcmeagnggeaa
open Go.RowKit
set_option linter.unusedVariables false

def IsTexts (w : World) (a : Option Addr) (len cap : Nat) (ss : List ByteArray) : Prop :=
  (a = none ∧ len = 0 ∧ cap = 0 ∧ ss = []) ∨
  ∃ x, a = some x ∧ len ≤ cap ∧ cap ≤ maxLen ∧ ss.length = cap ∧ (∀ i, i < ss.length → w.cell? (x.add i) = some (.string (ss.getD i ByteArray.empty))) ∧ ∀ s ∈ ss, s.size ≤ maxLen
theorem texts_at {w : World} {a : Addr} {zs : List ByteArray} (h : ∀ i, i < zs.length → w.cell? (a.add i) = some (.string (zs.getD i ByteArray.empty))) (hp : 0 < zs.length) :
    ∃ b off, a = ⟨b, off, none⟩ ∧ ∀ j, j < zs.length → w.cell? ⟨b, off + j, none⟩ = some (.string (zs.getD j ByteArray.empty)) := by
  obtain ⟨b, off, spot⟩ := a
  have hspot : spot = none := by simpa [Addr.add] using World.cell?_spot (h 0 hp)
  subst hspot
  exact ⟨b, off, rfl, fun j hj => by rw [← Go.WideShapes.add_plain]; exact h j hj⟩
theorem Sls.of_row {w : World} {a : Option Addr} {len cap : Nat} {ss : List ByteArray} (h : IsTexts w a len cap ss) : Sls w a len cap (ss.take len) ∧ len ≤ maxLen ∧ ∀ i : Nat, ((ss.take len)[i]?.getD ByteArray.empty).size ≤ maxLen := by
  rcases h with ⟨rfl, rfl, rfl, rfl⟩ | ⟨x, rfl, h1, h2, h3, h4, h5⟩
  · refine ⟨⟨rfl, Nat.le_refl _, fun k hk => absurd hk (by simp), fun _ _ h _ => (by cases h)⟩, Nat.zero_le _, fun i => ?_⟩
    simp
  · refine ⟨⟨by rw [List.length_take]; omega, h1, fun k hk => ?_, fun b off he hl => ?_⟩, by omega, fun i => ?_⟩
    · rw [List.length_take] at hk
      obtain ⟨b, off, rfl, hc⟩ := texts_at h4 (by omega)
      refine ⟨b, off, rfl, ?_⟩
      rw [List.getElem?_take_of_lt (by omega), hc k (by omega), List.getD_eq_getElem?_getD]
    · obtain ⟨b', off', e, hc⟩ := texts_at h4 (by omega)
      injection he with he
      rw [e] at he
      injection he with hb
      rw [← hb]
      exact lt_of_cell (hc 0 (by omega))
    · by_cases hi : i < (ss.take len).length
      · rw [List.getElem?_eq_getElem hi, Option.getD_some]
        exact h5 _ (List.mem_of_mem_take (List.getElem_mem hi))
      · rw [List.getElem?_eq_none (by omega)]
        exact Nat.zero_le _
theorem own_law (a0 : ByteArray) (a1 : Option Addr) (len1 cap1 : Nat) (ss : List ByteArray) (w : World) (w0 : a0.size ≤ maxLen) (h : IsTexts w a1 len1 cap1 ss) :
    Calls Try.prog 16 #[.string a0, .slice a1 len1 cap1] w fun e w' => e = .returned (.bool true) ∧ Below w.heap.size w w' :=
  own_walk a0 a1 len1 cap1 _ w w0 (Sls.of_row h).1 (Sls.of_row h).2.1 (Sls.of_row h).2.2
end Go.Proofs.Ytkemcmeagnggeaa
