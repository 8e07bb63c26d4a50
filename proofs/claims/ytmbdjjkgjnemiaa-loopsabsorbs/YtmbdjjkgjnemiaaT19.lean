import Derived.Test.YtmbdjjkgjnemiaaT18
import Derived.Test.YtmbdjjkgjnemiaaT12
import Derived.Test.YtmbdjjkgjnemiaaT10
/- Layer 6: Sub's finding is right, and none of the other kind is. -/
namespace Go.Proofs.Ytmbdjjkgjnemiaa
open Go.RowKit
set_option linter.unusedVariables false

theorem ptOf_ptI (L : List Pt) : (L.map ptI).map ptOf = L := by
  rw [List.map_map]
  conv => rhs; rw [← List.map_id L]
  apply List.map_congr_left
  intro x _
  obtain ⟨a, b⟩ := x
  simp [ptOf, ptI]
theorem psAt_mem {ps : List (Int × Int)} {x : Int × Int} (h : x ∈ ps) : ∃ k, k < ps.length ∧ psAt ps k = x := by
  obtain ⟨k, hk, e⟩ := List.mem_iff_getElem.1 h
  exact ⟨k, hk, by unfold psAt; rw [List.getElem?_eq_getElem hk]; exact e⟩
theorem psAt_in {ps : List (Int × Int)} {k : Nat} (h : k < ps.length) : psAt ps k ∈ ps := by
  unfold psAt
  rw [List.getElem?_eq_getElem h]
  exact List.getElem_mem h
theorem cloB_sub {N : List Nd} {ps : List (Int × Int)} {p : Pt} (h : cloB N ps p = true) : SubT N p := by
  unfold cloB at h
  rw [Bool.and_eq_true, Bool.and_eq_true, Bool.and_eq_true] at h
  obtain ⟨_, _, h3, h4⟩ := h
  refine sub_of_closed (L := ps.map ptOf) (fun q hq => ?_) (of_decide_eq_true h4)
  obtain ⟨x, hx, rfl⟩ := List.mem_map.1 hq
  obtain ⟨k, hk, rfl⟩ := psAt_mem hx
  exact allB_iff.1 h3 k hk
theorem prB_wrong {N : List Nd} {p : Pt} {s : Nat} {b : Bool} {X : Option Addr} {m c : Nat} {t : ByteArray} {w : World} (h : FdQ N p s b X m c t w) (ps : List (Int × Int)) (u : ByteArray) : prB N p (!b) ps u = false := by
  have hh := h.holds
  rw [Bool.eq_false_iff]
  intro hp
  rcases b with _ | _
  · unfold prB at hp
    rw [if_pos (by decide), Bool.and_eq_true] at hp
    have := hh.2 (cloB_sub hp.2)
    cases this
  · unfold prB at hp
    rw [if_neg (by decide), Bool.and_eq_true] at hp
    exact refB_not _ _ hp.2 (hh.1 rfl)
theorem prB_right {N : List Nd} {p : Pt} {s : Nat} {b : Bool} {X : Option Addr} {m c : Nat} {t : ByteArray} {w : World} (h : FdQ N p s b X m c t w) (hn : N.length ≤ 24) : ∃ ps, Plr w X m c ps ∧ prB N p b ps t = true := by
  have hmul : N.length * N.length ≤ 24 * 24 := Nat.mul_le_mul hn hn
  rcases h with ⟨rfl, rfl, L, hl, ho, h5, h6, h7, h8⟩ | ⟨rfl, rfl, rfl, rfl, h5, _⟩
  · obtain ⟨A, c', e, hpl⟩ := ho.plr (n := m) (by rw [List.length_map]; exact hl) (by omega)
    injection e with e1 _ e3
    subst e1 e3
    refine ⟨_, hpl, ?_⟩
    unfold prB cloB
    rw [if_pos rfl, ptOf_ptI, decide_eq_true (p := (⟨#[]⟩ : ByteArray).toList = []) (by rw [ByteArray.toList_eq]), decide_eq_true (p := (L.map ptI).length ≤ 600) (by rw [List.length_map]; omega), decide_eq_true h5]
    have g1 : allB (fun k => inQ N.length (psAt (L.map ptI) k)) (L.map ptI).length = true := allB_iff.2 fun k hk => by
      obtain ⟨x, hx, e⟩ := List.mem_map.1 (psAt_in hk)
      rw [← e]
      have := h6 x hx
      unfold inQ ptI
      rw [Bool.and_eq_true]
      exact ⟨inB_of this.1, inB_of this.2⟩
    have g2 : allB (fun k => folB N L (ptOf (psAt (L.map ptI) k))) (L.map ptI).length = true := allB_iff.2 fun k hk => by
      obtain ⟨x, hx, e⟩ := List.mem_map.1 (psAt_in hk)
      rw [← e]
      have e2 : ptOf (ptI x) = x := by obtain ⟨a, b⟩ := x; simp [ptOf, ptI]
      rw [e2]
      exact h7 x hx
    rw [g1, g2]
    rfl
  · refine ⟨[], ⟨rfl, Nat.le_refl _, by omega, fun _ => ⟨rfl, rfl⟩, fun k hk => absurd hk (Nat.not_lt_zero _)⟩, ?_⟩
    unfold prB
    rw [if_neg (by decide), h5]
    rfl
end Go.Proofs.Ytmbdjjkgjnemiaa
/- Layer 6: Sub and Check at the nodes that tame gives. -/
namespace Go.Proofs.Ytmbdjjkgjnemiaa
open Go.RowKit
set_option linter.unusedVariables false

theorem sub_at (N : List Nd) (A : Option Addr) (n c p q : Nat) (w : World) (hN : Nl w A n c N) (hok : OkN N) (h24 : n ≤ 24) (hp : p < n) (hq : q < n) :
    Calls Try.prog 16 #[.slice A n c, .int .i64 (p : Int), .int .i64 (q : Int)] w fun e w' => (∃ b X m d t, e = .returned (.tuple #[.agg #[.bool b, .slice X m d, .string t], .int .i64 0]) ∧ FdQ N (p, q) w.heap.size b X m d t w') ∧ Below w.heap.size w w' := by
  have hl := hN.len
  have := sub_any (upN N) A n c p q w (hN.tl (by omega)) (valB_up hok (by omega)) hp hq
  rw [toN_up] at this
  exact this
theorem check_at (N : List Nd) (A : Option Addr) (n c p q : Nat) (b : Bool) (X : Option Addr) (m d : Nat) (ps : List (Int × Int)) (t : ByteArray) (w : World) (hN : Nl w A n c N) (hok : OkN N) (h24 : n ≤ 24) (hp : p < n) (hq : q < n) (hP : Plr w X m d ps) (ht : t.size ≤ 1099511627776) (r : Bool) (hr : prB N (p, q) b ps t = r) :
    Calls Try.prog 18 #[.slice A n c, .int .i64 (p : Int), .int .i64 (q : Int), .agg #[.bool b, .slice X m d, .string t]] w fun e w' => e = .returned (.int .i64 (if r = true then 0 else 10)) ∧ Below w.heap.size w w' := by
  have hl := hN.len
  exact check_any (upN N) A n c p q b X m d ps t w (hN.tl (by omega)) (valB_up hok (by omega)) hp hq hP ht r (by rw [toN_up]; exact hr)
/-- The path of a finding is short. -/
theorem FdQ.short {N : List Nd} {p : Pt} {s : Nat} {b : Bool} {X : Option Addr} {m c : Nat} {t : ByteArray} {w : World} (h : FdQ N p s b X m c t w) (hn : N.length ≤ 24) : t.size ≤ 1099511627776 := by
  have hmul : N.length * N.length ≤ 24 * 24 := Nat.mul_le_mul hn hn
  rcases h with ⟨_, rfl, _⟩ | ⟨_, _, _, _, _, h5⟩
  · show 0 ≤ _
    omega
  · omega
end Go.Proofs.Ytmbdjjkgjnemiaa
/- Layer 6: the walk of LoopsOnce. -/
namespace Go.Proofs.Ytmbdjjkgjnemiaa
open Go.RowKit
set_option linter.unusedVariables false

set_option maxRecDepth 100000 in
set_option maxHeartbeats 6400000 in
theorem once_walk (zs : List Ty) (A : Option Addr) (len cap : Nat) (x0 x1 : Int) (b : Bool) (X : Option Addr) (m d : Nat) (ps : List (Int × Int)) (t : ByteArray) (w : World) (hT : Tl w A len cap zs) (hP : Plr w X m d ps) (ht : t.size ≤ 9223372036854775807) :
    Calls Try.prog 8 #[.slice A len cap, .agg #[.int .i64 x0, .int .i64 x1], .agg #[.bool b, .slice X m d, .string t]] w fun e w' => e = .returned (.bool true) ∧ Below w.heap.size w w' := by
  obtain ⟨W, hW⟩ : ∃ W, W = (w.alloc (.cells #[.int .i64 x0, .int .i64 x1] 23)).alloc (.cells #[.bool b, .slice X m d, .string t] 27) := ⟨_, rfl⟩
  have hb : Below w.heap.size w W := by rw [hW]; exact ((Below.refl _ w).alloc (Nat.le_refl _) _).alloc (by simp) _
  have hbx : W.heap[w.heap.size]? = some (.cells #[.int .i64 x0, .int .i64 x1] 23 (0, 0)) := by
    rw [hW]
    show ((w.heap.push _).push _)[w.heap.size]? = _
    rw [Array.getElem?_push, if_neg (by simp), Array.getElem?_push, if_pos rfl]
  have hbf : W.heap[w.heap.size + 1]? = some (.cells #[.bool b, .slice X m d, .string t] 27 (0, 0)) := by
    rw [hW]
    show ((w.heap.push _).push _)[w.heap.size + 1]? = _
    rw [Array.getElem?_push, if_pos (by simp)]
  have hsz : w.heap.size + 1 < W.heap.size := by rw [hW]; simp
  have HTM : Hid (Calls Try.prog 36 #[.slice A len cap, .int .i64 24] W fun e w' => (∃ B n c N, e = .returned (.slice B n c) ∧ 1 ≤ n ∧ n ≤ 24 ∧ OkN N ∧ Nl w' B n c N ∧ Ow3 w' W.heap.size (.slice B n c) N) ∧ Below W.heap.size W w') := tame_any zs A len cap 24 W (hT.below hb (Nat.le_refl _)) (by omega) (by omega)
  have HB := Lib.hid hb
  have HBX := Lib.hid hbx
  have HBF := Lib.hid hbf
  have HW := Lib.hid hW
  have HP := Lib.hid hP
  clear hW hb hbx hbf hT hP
  go_enter Try.func8, Try.ntmps8
  go_wp2_with (go_at_call 36; rw [← HW.out]; refine HTM.out.mono ?_; rintro e w1 ⟨⟨B, n, c, N, rfl, hn1, hn2, hok, hnl, ho⟩, hb1⟩)
  have hbx1 := (hb1.block _ (by omega)).trans HBX.out
  have HBF1 := Lib.hid ((hb1.block _ hsz).trans HBF.out)
  have k0 := cell_in hbx1 (i := 0) rfl
  have k1 := cell_in hbx1 (i := 1) rfl
  obtain ⟨p, hp, hmp⟩ := mod_is x0 n hn1 (by omega)
  obtain ⟨q, hq, hmq⟩ := mod_is x1 n hn1 (by omega)
  have HM1 := Lib.hid hmp
  have HM2 := Lib.hid hmq
  have HB1 := Lib.hid (HB.out.trans (hb1.mono HB.out.size))
  have HOK := Lib.hid hok
  have HNL := Lib.hid hnl
  clear hmp hmq hb1 hok hnl ho hbx1
  go_quiet (first | (go_at_call 37; (with_reducible exact quiet_same (HM1.out _))) | (go_at_call 37; (with_reducible exact quiet_same (HM2.out _))))
  have HBQ : Hid (Below w1.heap.size w1 (w1.drewN nq)) := below_dn (Below.refl _ _) _
  have HZQ : Hid ((w1.drewN nq).heap.size = w1.heap.size) := rfl
  have hsz1 : w.heap.size + 1 < w1.heap.size := (Array.getElem?_eq_some_iff.1 HBF1.out).1
  have HBF2 := Lib.hid ((HBQ.out.block _ hsz1).trans HBF1.out)
  generalize w1.drewN nq = w2 at *
  have hln := HNL.out.len
  have HSUB : Hid (Calls Try.prog 16 #[.slice B n c, .int .i64 (p : Int), .int .i64 (q : Int)] w2 fun e w' => (∃ b X m d t, e = .returned (.tuple #[.agg #[.bool b, .slice X m d, .string t], .int .i64 0]) ∧ FdQ N (p, q) w2.heap.size b X m d t w') ∧ Below w2.heap.size w2 w') := sub_at N B n c p q w2 (HNL.out.below HBQ.out (Nat.le_refl _)) HOK.out (by omega) hp hq
  have HCHK : Hid (∀ W b X m d ps t r, Below w1.heap.size w1 W → Plr W X m d ps → t.size ≤ 1099511627776 → prB N (p, q) b ps t = r → Calls Try.prog 18 #[.slice B n c, .int .i64 (p : Int), .int .i64 (q : Int), .agg #[.bool b, .slice X m d, .string t]] W fun e w' => e = .returned (.int .i64 (if r = true then 0 else 10)) ∧ Below W.heap.size W w') := fun W b X m d ps t r hW hP ht hr => check_at N B n c p q b X m d ps t W (HNL.out.below hW (Nat.le_refl _)) HOK.out (by omega) hp hq hP ht r hr
  have HLN : Hid (N.length ≤ 24) := by rw [Hid]; omega
  go_wp2_with (go_at_call 16; refine HSUB.out.mono ?_; rintro e w3 ⟨⟨b', X', m', d', t', rfl, hfd⟩, hb3⟩; obtain ⟨gps, hgp, hgr⟩ := prB_right hfd HLN.out; have HB3 : Hid (∀ o, Below w1.heap.size w1 (w3.alloc o)) := (fun o => (HBQ.out.trans (hb3.mono (Nat.le_of_eq HZQ.out.symm))).alloc (Nat.le_trans HBQ.out.size hb3.size) o); have HC1 : Hid (∀ o, Calls Try.prog 18 #[.slice B n c, .int .i64 (p : Int), .int .i64 (q : Int), .agg #[.bool b', .slice X' m' d', .string t']] (w3.alloc o) fun e w' => e = .returned (.int .i64 0) ∧ Below (w3.alloc o).heap.size (w3.alloc o) w') := (fun o => HCHK.out (w3.alloc o) b' X' m' d' gps t' true (HB3.out o) (hgp.below ((Below.refl _ w3).alloc (Nat.le_refl _) o) (Nat.le_refl _)) (hfd.short HLN.out) hgr); have HG4 : Hid (∀ cs, (w3.alloc (.cells cs 27)).heap[w3.heap.size]? = some (.cells cs 27 (0, 0))) := (fun cs => heap_alloc_new _ _); have HWR : Hid (∀ ps u, prB N (p, q) (!b') ps u = false) := prB_wrong hfd; clear hfd hgp hgr hb3; rcases b' with _ | _)
  · refine (HC1.out _).mono ?_
    rintro e w5 ⟨rfl, hb5⟩
    have HB5 : Hid (Below w1.heap.size w1 w5) := (HB3.out _).trans (hb5.mono (HB3.out _).size)
    have HG5 := Lib.hid ((hb5.block _ (by simp)).trans (HG4.out #[.bool false, .slice X' m' d', .string t']))
    have hf := (HB5.out.block _ hsz1).trans HBF1.out
    have e0 := cell_in hf (i := 0) rfl
    have e1 := cell_in hf (i := 1) rfl
    have e2 := cell_in hf (i := 2) rfl
    have HFN := Lib.hid (finding_any b X m d ps t w5 (HP.out.below (HB1.out.trans (HB5.out.mono HB1.out.size)) (Nat.le_refl _)) ht)
    clear hb5 hf
    go_wp2_with (go_at_call 22; refine HFN.out.mono ?_; rintro e w6 ⟨⟨Y, k, c6, ps6, rfl, hp6⟩, hb6⟩; have HP6 := Lib.hid hp6; have HB6 : Hid (Below w1.heap.size w1 w6) := (HB5.out.trans (hb6.mono HB5.out.size)); have HG6 := Lib.hid ((hb6.block _ (Array.getElem?_eq_some_iff.1 HG5.out).1).trans HG5.out); have q0 : ∀ o, (w6.alloc o).cell? ⟨w3.heap.size, 0, none⟩ = some (.bool false) := (fun o => cell_in ((((Below.refl _ w6).alloc (Nat.le_refl _) o).block _ (Array.getElem?_eq_some_iff.1 HG6.out).1).trans HG6.out) (i := 0) rfl); clear hb6 hp6 e0 e1 e2)
    have hb7 : ∀ o, Below w1.heap.size w1 (w6.alloc o) := fun o => HB6.out.alloc HB6.out.size o
    have HC2 : Hid (∀ o, Calls Try.prog 18 #[.slice B n c, .int .i64 (p : Int), .int .i64 (q : Int), .agg #[.bool true, .slice Y k c6, .string ⟨#[]⟩]] (w6.alloc o) fun e w' => e = .returned (.int .i64 10) ∧ Below (w6.alloc o).heap.size (w6.alloc o) w') := fun o => HCHK.out (w6.alloc o) true Y k c6 ps6 ⟨#[]⟩ false (hb7 o) (HP6.out.below ((Below.refl _ w6).alloc (Nat.le_refl _) o) (Nat.le_refl _)) (by show 0 ≤ _; omega) (HWR.out _ _)
    have HB7 := Lib.hid hb7
    clear hb7
    refine (HC2.out _).mono ?_
    rintro e w8 ⟨rfl, hb8⟩
    have HB8 : Hid (Below w.heap.size w w8) := HB1.out.trans (((HB7.out _).trans (hb8.mono (HB7.out _).size)).mono HB1.out.size)
    clear hb8 q0
    go_wp2_with (go_at_call 19; refine (awake_here _).mono ?_; rintro e w9 ⟨rfl, hb9⟩)
    go_ret
    exact ⟨rfl, HB8.out.trans (hb9.mono HB8.out.size)⟩
  · refine (HC1.out _).mono ?_
    rintro e w5 ⟨rfl, hb5⟩
    have HB5 : Hid (Below w1.heap.size w1 w5) := (HB3.out _).trans (hb5.mono (HB3.out _).size)
    have HG5 := Lib.hid ((hb5.block _ (by simp)).trans (HG4.out #[.bool true, .slice X' m' d', .string t']))
    have hf := (HB5.out.block _ hsz1).trans HBF1.out
    have e0 := cell_in hf (i := 0) rfl
    have e1 := cell_in hf (i := 1) rfl
    have e2 := cell_in hf (i := 2) rfl
    have HFN := Lib.hid (finding_any b X m d ps t w5 (HP.out.below (HB1.out.trans (HB5.out.mono HB1.out.size)) (Nat.le_refl _)) ht)
    clear hb5 hf
    go_wp2_with (go_at_call 22; refine HFN.out.mono ?_; rintro e w6 ⟨⟨Y, k, c6, ps6, rfl, hp6⟩, hb6⟩; have HP6 := Lib.hid hp6; have HB6 : Hid (Below w1.heap.size w1 w6) := (HB5.out.trans (hb6.mono HB5.out.size)); have HG6 := Lib.hid ((hb6.block _ (Array.getElem?_eq_some_iff.1 HG5.out).1).trans HG5.out); have q0 : ∀ o, (w6.alloc o).cell? ⟨w3.heap.size, 0, none⟩ = some (.bool true) := (fun o => cell_in ((((Below.refl _ w6).alloc (Nat.le_refl _) o).block _ (Array.getElem?_eq_some_iff.1 HG6.out).1).trans HG6.out) (i := 0) rfl); clear hb6 hp6 e0 e1 e2)
    have hb7 : ∀ o, Below w1.heap.size w1 (w6.alloc o) := fun o => HB6.out.alloc HB6.out.size o
    have HC2 : Hid (∀ o, Calls Try.prog 18 #[.slice B n c, .int .i64 (p : Int), .int .i64 (q : Int), .agg #[.bool false, .slice none 0 0, .string (t.extract 0 (min t.size 700))]] (w6.alloc o) fun e w' => e = .returned (.int .i64 10) ∧ Below (w6.alloc o).heap.size (w6.alloc o) w') := fun o => HCHK.out (w6.alloc o) false none 0 0 [] (t.extract 0 (min t.size 700)) false (hb7 o) (⟨rfl, Nat.le_refl _, by omega, fun _ => ⟨rfl, rfl⟩, fun k hk => absurd hk (Nat.not_lt_zero _)⟩) (by rw [ByteArray.size_extract]; omega) (HWR.out _ _)
    have HB7 := Lib.hid hb7
    clear hb7
    refine (HC2.out _).mono ?_
    rintro e w8 ⟨rfl, hb8⟩
    have HB8 : Hid (Below w.heap.size w w8) := HB1.out.trans (((HB7.out _).trans (hb8.mono (HB7.out _).size)).mono HB1.out.size)
    clear hb8 q0
    go_wp2_with (go_at_call 19; refine (awake_here _).mono ?_; rintro e w9 ⟨rfl, hb9⟩)
    go_ret
    exact ⟨rfl, HB8.out.trans (hb9.mono HB8.out.size)⟩
end Go.Proofs.Ytmbdjjkgjnemiaa
