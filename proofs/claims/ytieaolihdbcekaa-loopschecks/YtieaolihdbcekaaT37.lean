import Derived.Test.YtieaolihdbcekaaT33
import Derived.Test.YtieaolihdbcekaaT22
import Derived.Test.YtieaolihdbcekaaT19
import Derived.Deep.RegionHeldLaw
import Derived.Test.YtieaolihdbcekaaT10
import Derived.Deep.DrawnRows
/- Layer 6: the walk of LoopsChecks. -/
namespace Go.Proofs.Ytieaolihdbcekaa
open Go.RowKit
set_option linter.unusedVariables false
theorem Tl.keep {w w' : World} {A : Option Addr} {n c r : Nat} {zs : List Ty} (h : Tl w A n c zs) (hr : ∀ b off, A = some ⟨b, off, none⟩ → 0 < n → b ≠ r) (hk : ∀ k, k ≠ r → w'.heap[k]? = w.heap[k]?) (hs : w.heap.size ≤ w'.heap.size) : Tl w' A n c zs :=
  ⟨h.len, h.cap, h.big, h.nil, fun k hkn => by
    obtain ⟨b, off, e, hlt, h1, h2, h3⟩ := h.rows k hkn
    have hb := hk b (hr b off e (by omega))
    exact ⟨b, off, e, by omega, (World.cell?_of_block (a := ⟨b, off + k * 3, none⟩) hb).trans h1, (World.cell?_of_block (a := ⟨b, off + k * 3 + 1, none⟩) hb).trans h2, (World.cell?_of_block (a := ⟨b, off + k * 3 + 2, none⟩) hb).trans h3⟩⟩
theorem Plr.keep {w w' : World} {A : Option Addr} {n c r : Nat} {ps : List (Int × Int)} (h : Plr w A n c ps) (hr : ∀ b off, A = some ⟨b, off, none⟩ → 0 < n → b ≠ r) (hk : ∀ k, k ≠ r → w'.heap[k]? = w.heap[k]?) (hs : w.heap.size ≤ w'.heap.size) : Plr w' A n c ps :=
  ⟨h.len, h.cap, h.big, h.nil, fun k hkn => by
    obtain ⟨b, off, e, hlt, h1, h2⟩ := h.rows k hkn
    have hb := hk b (hr b off e (by omega))
    exact ⟨b, off, e, by omega, (World.cell?_of_block (a := ⟨b, off + k * 2, none⟩) hb).trans h1, (World.cell?_of_block (a := ⟨b, off + k * 2 + 1, none⟩) hb).trans h2⟩⟩
theorem set_three {w v : World} {r t : Nat} {a0 a1 a2 u0 u1 u2 : Value} (h : w.heap[r]? = some (.cells #[a0, a1, a2] t (0, 0))) (hv : v = ((w.setCell ⟨r, 0, none⟩ u0).setCell ⟨r, 1, none⟩ u1).setCell ⟨r, 2, none⟩ u2) :
    v.heap[r]? = some (.cells #[u0, u1, u2] t (0, 0)) ∧ (∀ k, k ≠ r → v.heap[k]? = w.heap[k]?) ∧ ∀ B, B ≤ r → Below B w v := by
  subst hv
  refine ⟨?_, fun k hk => ?_, fun B hB => (((Below.refl B w).setCell (p := ⟨r, 0, none⟩) hB u0).setCell (p := ⟨r, 1, none⟩) hB u1).setCell (p := ⟨r, 2, none⟩) hB u2⟩
  · simp [World.setCell, Array.getElem?_modify, h]
  · have hne : ¬ r = k := fun e => hk e.symm
    simp [World.setCell, Array.getElem?_modify, hne]
theorem wpAnyH_takeY {P : Program} {md : Region.Mode} {ops : Array Oper} {Q : Exit → Act → World → Prop} {S : World → Prop} {i : Nat} {oi : Oper} {v : Value} {fuel : Nat} {listed : Array Bool} {a : Act} {w : World} (hi : ops[i]? = some oi)
    (hs : Region.noSelect ops = true) (hf : Region.free md ops listed i = true) (hr : (Region.ready md ops listed).contains i = true) (hS : S w)
    (hQ : ∀ c a w, Q (.panic c) (a.put oi.dst v) w → Q (.panic c) a w) (hy : YieldsIf P ops S oi v a)
    (h : wpAnyH P md ops Q S fuel (listed.setIfInBounds i true) (a.put oi.dst v) w) : wpAnyH P md ops Q S (fuel + 1) listed a w :=
  wpAnyH_take hi hs hf hr hQ hy hS h
theorem wp_then_mono {P : Program} {c : Code} {K K' : Act → World → Prop} {Q : Exit → Act → World → Prop} {a : Act} {w : World} (h : ∀ a w, K a w → K' a w) (hc : c.wp P (Exit.then K Q) a w) : c.wp P (Exit.then K' Q) a w :=
  Code.wp_mono (fun e a w hq => by
    cases e
    case normal => exact h a w hq
    all_goals exact hq) hc
set_option maxRecDepth 100000 in
set_option maxHeartbeats 3200000 in
theorem own_new (zs : List Ty) (A : Option Addr) (m d : Nat) (w : World) (hT : Tl w A m d zs) :
    Calls Try.prog 15 #[.slice A m d] w fun e w' => (∃ Y k c, e = .returned (.slice Y k c) ∧ k ≤ 25 ∧ Tl w' Y k c (cutT zs) ∧ ∀ a, Y = some a → w.heap.size ≤ a.block) ∧ Below w.heap.size w w' := by
  have hl := hT.len
  have hmd := hT.cap
  have hbig := hT.big
  obtain ⟨k, hk, hkc, hk25, hkm⟩ : ∃ k : Nat, k ≤ m ∧ (if (25 : Int) < (m : Int) then (25 : Int) else (m : Int)) = (k : Int) ∧ k ≤ 25 ∧ k = min m 25 := by
    by_cases h : (25 : Int) < (m : Int)
    · exact ⟨25, by omega, by rw [if_pos h]; rfl, by omega, by omega⟩
    · exact ⟨m, by omega, by rw [if_neg h], by omega, by omega⟩
  have hsl := slice_ty A m d hk hmd w
  have hmin : ∀ W, (Builtin.min_ #[3, 3] 3 #[.int .i64 (m : Int), .int .i64 25]).run Try.prog W = .ok (.int .i64 (k : Int)) W := fun W => by rw [run_min_int2, hkc]
  obtain ⟨ti, hi, hz0, hz1, hz2⟩ := info_parts Try.infoTy
  have HI : Hid (Try.prog.info? 59 = some ti ∧ ti.zero = some (.agg #[.int .i64 0, .int .i64 0, .int .i64 0]) ∧ ti.size = 3 ∧ ti.bytes = 24) := ⟨hi, hz0, hz1, hz2⟩
  have HPK : Hid (Tl w A k d (cutT zs)) := by rw [Hid, cutT, hl, ← hkm]; exact hT.take hk
  have HK : Hid (k ≤ 25) := hk25
  clear hi hz0 hz1 hz2 hkc hT hl hkm hk25 hk
  go_enter Try.func15, Try.ntmps15
  go_wp2_with (at_builtin; go_must (refine appt_law _ rfl (.tmp 4) (.tmp 9) 22 rfl w.heap.size ti Try.underlying22 HI.out _ [] rfl A k d (cutT zs) rfl HPK.out (Ow4.nil _ _) (by have := HK.out; simp; omega) (Nat.le_refl _) ?_); intro v9 W9 hv9 hg9; obtain ⟨Y, c9, rfl, htl⟩ := hv9.tl (n := k) (by rw [List.nil_append]; exact HPK.out.len) (by have := HK.out; omega); have HTL := Lib.hid htl; have HNEW : Hid (∀ a, Y = some a → w.heap.size ≤ a.block) := (fun a e => (World.ownsRow.lt hv9 a.block (by rw [e]; rfl)).1); have HB9 : Hid (Below w.heap.size w W9) := (Below.refl _ w).grown hg9 (Nat.le_refl _) (fun k e => by cases e); clear hv9 hg9 htl)
  go_ret
  exact ⟨⟨Y, k, c9, rfl, HK.out, HTL.out, HNEW.out⟩, HB9.out⟩
set_option maxRecDepth 100000 in
set_option maxHeartbeats 6400000 in
theorem finding_new (b : Bool) (X : Option Addr) (m d : Nat) (ps : List (Int × Int)) (t : ByteArray) (w : World) (hP : Plr w X m d ps) (ht : t.size ≤ 9223372036854775807) :
    Calls Try.prog 22 #[.agg #[.bool b, .slice X m d, .string t]] w fun e w' => (∃ Y k c ps', e = .returned (.agg #[.bool b, .slice Y k c, .string (t.extract 0 (min t.size 700))]) ∧ Plr w' Y k c ps' ∧ ∀ a, Y = some a → w.heap.size ≤ a.block) ∧ Below w.heap.size w w' := by
  have HP := Lib.hid hP
  clear hP
  go_enter Try.func22, Try.ntmps22
  go_wp2
  obtain ⟨W, hW⟩ : ∃ W, W = (w.alloc (.cells #[.bool b, .slice X m d, .string t] 27)).alloc (.cells #[.bool false, .slice none 0 0, .string ⟨#[]⟩] 27) := ⟨_, rfl⟩
  have h0 : W.heap[w.heap.size]? = some (.cells #[.bool b, .slice X m d, .string t] 27 (0, 0)) := by
    rw [hW]
    show ((w.heap.push _).push _)[w.heap.size]? = _
    rw [Array.getElem?_push, if_neg (by simp), Array.getElem?_push, if_pos rfl]
  have e0 := cell_in h0 (i := 0) rfl
  have e1 := cell_in h0 (i := 1) rfl
  have e2 := cell_in h0 (i := 2) rfl
  rw [← hW]
  go_region
  have HBW : Hid (Below w.heap.size w W) := by rw [hW]; exact ((Below.refl _ w).alloc (Nat.le_refl _) _).alloc (by simp) _
  have HSW : Hid (W.heap.size = w.heap.size + 1 + 1) := by rw [hW]; simp [Hid]
  have H0 := Lib.hid h0
  rw [← hW]
  clear e0 e1 e2 h0
  have hcut : (if (700 : Int) < (t.size : Int) then (700 : Int) else (t.size : Int)).toNat = min t.size 700 := by split <;> omega
  rw [hcut]
  obtain ⟨T, hT⟩ : ∃ T, T = t.extract 0 (min t.size 700) := ⟨_, rfl⟩
  rw [← hT]
  have HT := Lib.hid hT
  clear hT
  obtain ⟨W2, hW2⟩ : ∃ W2, W2 = (W.alloc (.cells #[.bool b, .slice none 0 0, .string T] 27)).drew := ⟨_, rfl⟩
  have HB2 : Hid (Below w.heap.size w W2) := by rw [hW2]; exact (HBW.out.alloc HBW.out.size _).drew
  have HS2 : Hid (W2.heap.size = w.heap.size + 1 + 1 + 1) := by rw [hW2, Hid]; show (W.heap.push _).size = _; rw [Array.size_push, HSW.out]
  have HO2 : Hid (W2.heap[w.heap.size + 1 + 1]? = some (.cells #[.bool b, .slice none 0 0, .string T] 27 (0, 0))) := by
    rw [hW2, ← HSW.out]
    exact heap_alloc_new _ _
  have HI2 : Hid (W2.heap[w.heap.size]? = some (.cells #[.bool b, .slice X m d, .string t] 27 (0, 0))) := by
    rw [hW2]
    exact (((Below.refl _ W).alloc (Nat.le_refl _) _).block _ (by have := HSW.out; omega)).trans H0.out
  have HZ2 : Hid (W2.heap[w.heap.size + 1]? = some (.cells #[.bool false, .slice none 0 0, .string ⟨#[]⟩] 27 (0, 0))) := by
    rw [hW2]
    refine (((Below.refl _ W).alloc (Nat.le_refl _) _).block _ (by have := HSW.out; omega)).trans ?_
    rw [hW]
    show ((w.heap.push _).push _)[w.heap.size + 1]? = _
    rw [Array.getElem?_push, if_pos (by simp)]
  rw [← hW2]
  obtain ⟨vn, hvn⟩ : ∃ v, v = Value.slice none 0 0 := ⟨_, rfl⟩
  rw [← hvn] at HO2
  have HVN : Hid (vn = Value.slice none 0 0) := hvn
  have HVB : Hid (vn.ownBlock = none) := by rw [hvn]; rfl
  clear hvn
  clear hW2 hW HBW H0 HSW
  have e0 := cell_in HI2.out (i := 0) rfl
  have e1 := cell_in HI2.out (i := 1) rfl
  have e2 := cell_in HI2.out (i := 2) rfl
  have f0 := cell_in HO2.out (i := 0) rfl
  have f1 := cell_in HO2.out (i := 1) rfl
  have f2 := cell_in HO2.out (i := 2) rfl
  clear hcut
  generalize hq : (if (700 : Int) < (t.size : Int) then (700 : Int) else (t.size : Int)) = cut at *
  clear hq
  have hmd := HP.out.cap
  obtain ⟨k, hk, hkc⟩ : ∃ k : Nat, k ≤ m ∧ (if (601 : Int) < (m : Int) then (601 : Int) else (m : Int)) = (k : Int) ∧ k ≤ 601 := by
    by_cases h : (601 : Int) < (m : Int)
    · exact ⟨601, by omega, by rw [if_pos h]; rfl, by omega⟩
    · exact ⟨m, by omega, by rw [if_neg h], by omega⟩
  obtain ⟨hkc, hk6⟩ := hkc
  have hsl := slice_hd X m d hk hmd W2
  have hmin : ∀ W, (Builtin.min_ #[3, 3] 3 #[.int .i64 (m : Int), .int .i64 601]).run Try.prog W = .ok (.int .i64 (k : Int)) W := fun W => by rw [run_min_int2, hkc]
  clear hkc
  obtain ⟨ti, hi, hz0, hz1, hz2⟩ := info_parts Try.infoPt
  have HI : Hid (Try.prog.info? 23 = some ti ∧ ti.zero = some (.agg #[.int .i64 0, .int .i64 0]) ∧ ti.size = 2 ∧ ti.bytes = 16) := ⟨hi, hz0, hz1, hz2⟩
  have HPK : Hid (Plr W2 X k d (ps.take k)) := (HP.out.below HB2.out (Nat.le_refl _)).take hk
  have HK6 : Hid (k ≤ 601) := hk6
  clear hi hz0 hz1 hz2 hk hk6
  have HSZ : Hid (∀ b X m d t, (Try.prog.info? 27).map (·.size) = some (#[Value.bool b, Value.slice X m d, Value.string t] : Array Value).size) := fun _ _ _ _ _ => Try.sizeFd'
  go_wp2_with (first
    | (at_builtin; go_must (refine appp_law _ rfl (.tmp 17) (.tmp 24) 25 rfl W2.heap.size 23 ti Try.underlying25 HI.out vn [] rfl X k d (ps.take k) rfl HPK.out (by rw [HVN.out]; exact Owp.nil _ _ _) (by have := HK6.out; simp; omega) (Nat.le_refl _) ?_); intro v9 W9 hv9 hg9; obtain ⟨Y, c9, rfl, _⟩ := hv9.plr (n := k) (by rw [List.nil_append]; exact HPK.out.len) (by have := HK6.out; omega); have HV9 := Lib.hid hv9; have HO9 := Lib.hid ((hg9.block (w.heap.size + 1 + 1) (by have := HS2.out; omega) (by simp [HVB.out])).trans HO2.out); have f3 : W9.frozen? ⟨w.heap.size + 1 + 1, 1, none⟩ = false := (by simp [World.frozen?, HO9.out]); have HZ9 := Lib.hid ((hg9.block (w.heap.size + 1) (by have := HS2.out; omega) (by simp [HVB.out])).trans HZ2.out); have HB9 : Hid (Below w.heap.size w W9) := HB2.out.grown hg9 HB2.out.size (fun k e => by simp [HVB.out] at e); have HZ10 : Hid ((W9.setCell ⟨w.heap.size + 1 + 1, 1, none⟩ (.slice Y k c9)).heap[w.heap.size + 1]? = some (.cells #[.bool false, .slice none 0 0, .string ⟨#[]⟩] 27 (0, 0))) := (by rw [Hid, ← HZ9.out]; simp [World.setCell, Array.getElem?_modify]); have g0 := cell_in HO9.out (i := 0) rfl; have g1 := cell_in HO9.out (i := 1) rfl; have g2 := cell_in HO9.out (i := 2) rfl; clear hv9 hg9 e0 e1 e2 f0 f1 f2)
    | (refine wpList_store_row (by rfl) 27 (.tmp 2) (.tmp 27) (by rfl) (w.heap.size + 1) _ (by rfl) (by rfl) 27 _ HZ10.out (HSZ.out _ _ _ _ _) (by rfl) (by simp [Value.oneCell']) ?_))
  obtain ⟨W7, hW7, _, s7, r7⟩ := row_set #[Value.bool b, Value.slice Y k c9, Value.string T] HZ10.out
  have hs2 := HS2.out
  have hset : ∀ i, i ≠ w.heap.size + 1 + 1 → (W9.setCell ⟨w.heap.size + 1 + 1, 1, none⟩ (.slice Y k c9)).heap[i]? = W9.heap[i]? := fun i hi => by
    simp [World.setCell, Array.getElem?_modify]
    intro e
    omega
  have HO7 : Owp W7 W2.heap.size 23 (.slice Y k c9) ([] ++ ps.take k) := HV9.out.same fun i hi => by
    have := (HV9.out.lt hi).1
    rw [s7 i (by omega), hset i (by omega)]
  have HB8 : Below w.heap.size w W7 := by
    have h1 : Below w.heap.size W9 (W9.setCell ⟨w.heap.size + 1 + 1, 1, none⟩ (.slice Y k c9)) := ⟨rfl, rfl, rfl, by simp [World.setCell], fun i hi => hset i (by omega)⟩
    exact HB9.out.trans (h1.trans (r7 _ (by omega)))
  have hnew : ∀ a, Y = some a → w.heap.size ≤ a.block := fun a e => Nat.le_trans (by omega) (World.ownsRow.lt HO7 a.block (by rw [e]; rfl)).1
  obtain ⟨Y', c', e', hpl⟩ := HO7.plr (n := k) (by rw [List.nil_append]; exact HPK.out.len) (by have := HK6.out; omega)
  injection e' with e1 _ e3
  subst e1 e3
  rw [hW7] at hpl HB8
  refine bodyPost_ret (results_cell_row (by rfl) _ _ (w.heap.size + 1) 27 _ (0, 0) _ (by rfl) (setRow_heap _ _ _ _ _ _ HZ10.out) Try.underlying27 (by rfl) (HSZ.out _ _ _ _ _)) (by rfl) ⟨⟨Y, k, c9, _, ?_, hpl, hnew⟩, HB8⟩
  rw [HT.out]
theorem bad2_or' (xs : List Ty) (i j : Int) : (bad2 xs i j ∧ badB xs i j = true) ∨ (valB xs = true ∧ badB xs i j = false ∧ ∃ p q : Nat, i = (p : Int) ∧ j = (q : Int) ∧ p < xs.length ∧ q < xs.length) := by
  unfold bad2 badB
  rcases h : (valB xs && (inB xs.length i && inB xs.length j)) with _ | _
  · exact .inl ⟨rfl, rfl⟩
  · rw [Bool.and_eq_true, Bool.and_eq_true, inB_iff, inB_iff] at h
    exact .inr ⟨h.1, rfl, i.toNat, j.toNat, by omega, by omega, by omega, by omega⟩
set_option maxRecDepth 100000 in
set_option maxHeartbeats 12800000 in
theorem checks_walk (zs : List Ty) (A : Option Addr) (len cap : Nat) (x0 x1 : Int) (b : Bool) (X : Option Addr) (m d : Nat) (ps : List (Int × Int)) (t : ByteArray) (w : World) (hT : Tl w A len cap zs) (hP : Plr w X m d ps) (ht : t.size ≤ 9223372036854775807) :
    Calls Try.prog 4 #[.slice A len cap, .agg #[.int .i64 x0, .int .i64 x1], .agg #[.bool b, .slice X m d, .string t]] w fun e w' => e = .returned (.bool true) ∧ Below w.heap.size w w' := by
  obtain ⟨W, hW⟩ : ∃ W, W = (w.alloc (.cells #[.int .i64 x0, .int .i64 x1] 23)).alloc (.cells #[.bool b, .slice X m d, .string t] 27) := ⟨_, rfl⟩
  have hb : Below w.heap.size w W := by rw [hW]; exact ((Below.refl _ w).alloc (Nat.le_refl _) _).alloc (by simp) _
  have hbx : W.heap[w.heap.size]? = some (.cells #[.int .i64 x0, .int .i64 x1] 23 (0, 0)) := by
    rw [hW]
    show ((w.heap.push _).push _)[w.heap.size]? = _
    rw [Array.getElem?_push, if_neg (by simp), Array.getElem?_push, if_pos rfl]
  have hbf : W.heap[w.heap.size + 1]? = some (.cells #[.bool b, .slice X m d, .string t] 27 (0, 0)) := by
    rw [hW]
    show ((w.heap.push _).push _)[w.heap.size + 1]? = _
    rw [Array.getElem?_push, if_pos (by simp)]
  have hsz : w.heap.size + 1 < W.heap.size := by rw [hW]; simp
  have HSZ := Lib.hid hsz
  have HOWN : Hid (∀ V, Below W.heap.size W V → Calls Try.prog 15 #[.slice A len cap] V fun e w' => (∃ Y k c, e = .returned (.slice Y k c) ∧ k ≤ 25 ∧ Tl w' Y k c (cutT zs) ∧ ∀ a, Y = some a → V.heap.size ≤ a.block) ∧ Below V.heap.size V w') := fun V h => own_new zs A len cap V (hT.below (hb.trans (h.mono hb.size)) (Nat.le_refl _))
  obtain ⟨T, hTe⟩ : ∃ T, T = t.extract 0 (min t.size 700) := ⟨_, rfl⟩
  have HTS : Hid (T.size ≤ 1099511627776) := by rw [hTe, Hid, ByteArray.size_extract]; omega
  have HFIN : Hid (∀ V, Below W.heap.size W V → Calls Try.prog 22 #[.agg #[.bool b, .slice X m d, .string t]] V fun e w' => (∃ Y k c ps', e = .returned (.agg #[.bool b, .slice Y k c, .string T]) ∧ Plr w' Y k c ps' ∧ ∀ a, Y = some a → V.heap.size ≤ a.block) ∧ Below V.heap.size V w') := fun V h => by
    rw [hTe]
    exact finding_new b X m d ps t V (hP.below (hb.trans (h.mono hb.size)) (Nat.le_refl _)) ht
  clear hTe
  have HCE : Hid (∀ V, Below W.heap.size W V → V.cell? ⟨w.heap.size + 1, 0, none⟩ = some (.bool b) ∧ V.cell? ⟨w.heap.size + 1, 1, none⟩ = some (.slice X m d) ∧ V.cell? ⟨w.heap.size + 1, 2, none⟩ = some (.string t)) := fun V h => by
    have hf := (h.block _ hsz).trans hbf
    exact ⟨cell_in hf (i := 0) rfl, cell_in hf (i := 1) rfl, cell_in hf (i := 2) rfl⟩
  have HBX : Hid (∀ V, Below W.heap.size W V → V.cell? ⟨w.heap.size, 0, none⟩ = some (.int .i64 x0) ∧ V.cell? ⟨w.heap.size, 1, none⟩ = some (.int .i64 x1)) := fun V h => by
    have hf := (h.block _ (by omega)).trans hbx
    exact ⟨cell_in hf (i := 0) rfl, cell_in hf (i := 1) rfl⟩
  have HB := Lib.hid hb
  have HW := Lib.hid hW
  have HK0 : Hid (Below W.heap.size W W) := Below.refl _ _
  have HKX : Hid (∀ V, Below W.heap.size W V → Below W.heap.size W V.drew ∧ ∀ o, Below W.heap.size W (V.alloc o) ∧ Below W.heap.size W (V.alloc o).drew ∧ Below W.heap.size W (V.drew.alloc o)) := fun V h => ⟨h.drew, fun o => ⟨h.alloc h.size o, (h.alloc h.size o).drew, h.drew.alloc h.size o⟩⟩
  clear hW hb hbx hbf hT hP hsz
  go_enter Try.func4, Try.ntmps4
  go_wp2
  rw [← HW.out]
  obtain ⟨MM, hMM⟩ : ∃ MM : Act → World → Prop, MM = fun a V => ∃ (Y : Option Addr) (k c : Nat) (Y2 : Option Addr) (k2 c2 : Nat) (ps2 : List (Int × Int)) (r9 : Nat), a = { tmps := #[.slice A len cap, .agg #[.int .i64 x0, .int .i64 x1], .agg #[.bool b, .slice X m d, .string t], undef, .pointer (some ⟨w.heap.size, 0, none⟩), .pointer (some ⟨w.heap.size + 1, 0, none⟩), .bool false, .slice Y k c, .pointer (some ⟨r9, 0, none⟩), undef, undef, undef, .slice A len cap, .slice Y k c, .agg #[.bool b, .slice X m d, .string t], .agg #[.bool b, .slice Y2 k2 c2, .string T], undef, undef, undef, undef, undef, undef, undef, undef, undef, undef, undef, undef, undef, undef, undef, undef, undef, undef, undef, undef, undef, undef, undef, undef, undef, undef, undef, undef, undef, undef, undef, undef, undef, undef], defers := [] } ∧
      Tl V Y k c (cutT zs) ∧ Plr V Y2 k2 c2 ps2 ∧ V.heap[r9]? = some (.cells #[.bool b, .slice Y2 k2 c2, .string T] 27 (0, 0)) ∧ Below W.heap.size W V := ⟨_, rfl⟩
  have HMM := Lib.hid hMM
  clear hMM
  refine wp_then_mono (K := MM) ?_ ?_
  rotate_left
  · refine wp_region_held_drew (S := fun V => V.cell? ⟨w.heap.size + 1, 0, none⟩ = some (.bool b) ∧ V.cell? ⟨w.heap.size + 1, 1, none⟩ = some (.slice X m d) ∧ V.cell? ⟨w.heap.size + 1, 2, none⟩ = some (.string t)) (by kernel_rfl) (HCE.out _ HK0.out.drew) (fun hHeld => ?_)
    have hk00 : Below W.heap.size W W.drew := HK0.out.drew
    generalize W.drew = V0 at *
    refine wpAnyH_takeY (i := 0) (v := ?_) (by simp only [↓List.getElem?_toArray, ↓List.getElem?_cons_succ, ↓List.getElem?_cons_zero]; rfl) (by kernel_rfl) (by kernel_rfl) (by kernel_rfl) (by assumption) ?_ ?_ ?_
    rotate_left
    · exact fun _ _ _ h => h
    · exact Or.inl ⟨by rfl, by (intro V hV; (try dsimp only at hV); go_simp; try with_reducible rfl)⟩
    simp only [Act.put, List.setIfInBounds_toArray, List.set_cons_zero, List.set_cons_succ]
    refine wpAnyH_takeY (i := 2) (v := ?_) (by simp only [↓List.getElem?_toArray, ↓List.getElem?_cons_succ, ↓List.getElem?_cons_zero]; rfl) (by kernel_rfl) (by kernel_rfl) (by kernel_rfl) (by assumption) ?_ ?_ ?_
    rotate_left
    · exact fun _ _ _ h => h
    · exact Or.inl ⟨by rfl, by (intro V hV; (try dsimp only at hV); go_simp; try with_reducible rfl)⟩
    simp only [Act.put, List.setIfInBounds_toArray, List.set_cons_zero, List.set_cons_succ]
    refine wpAnyH_ready (rs := [1, 4]) (by kernel_rfl) (by simp) ?_
    refine AllReadyH.cons rfl (fun K hK => ?_) ?_
    · -- 1
      go_simp
      go_wp2_with (go_at_call 15; (with_reducible refine (HOWN.out _ hk00).mono ?_); rintro e v1 ⟨⟨Y, k, c, rfl, hk25, htl1, hny1⟩, hb1⟩)
      have hk1 := (hk00).trans (hb1.mono (hk00).size)
      refine hK.out _ _ (HCE.out _ hk1) (fun hHeld => ?_)
      clear hK K
      try simp only [Act.put, List.setIfInBounds_toArray, List.set_cons_zero, List.set_cons_succ]
      refine wpAnyH_ready (rs := [3, 4]) (by kernel_rfl) (by simp) ?_
      refine AllReadyH.cons rfl (fun K hK => ?_) ?_
      · -- 3
        go_simp
        go_wp2_with (go_at_call 22; (with_reducible refine (HFIN.out _ hk1).mono ?_); rintro e v2 ⟨⟨Y2, k2, c2, ps2, rfl, hpl2, hnz2⟩, hb2⟩)
        have hk2 := (hk1).trans (hb2.mono (hk1).size)
        have htl2 := (htl1).below hb2 (Nat.le_refl _)
        refine hK.out _ _ (HCE.out _ hk2) (fun hHeld => ?_)
        clear hK K
        try simp only [Act.put, List.setIfInBounds_toArray, List.set_cons_zero, List.set_cons_succ]
        refine wpAnyH_ready (rs := [4]) (by kernel_rfl) (by simp) ?_
        refine AllReadyH.cons rfl (fun K hK => ?_) ?_
        · -- 4
          go_simp
          obtain ⟨v3, hv3⟩ : ∃ v, v = World.alloc (v2) (.cells #[.bool false, .slice none 0 0, .string ⟨#[]⟩] 27) := ⟨_, rfl⟩
          have hb3 : Below (v2).heap.size (v2) v3 := by rw [hv3]; exact (Below.refl _ _).alloc (Nat.le_refl _) _
          have hrow3 : v3.heap[(v2).heap.size]? = some (.cells #[.bool false, .slice none 0 0, .string ⟨#[]⟩] 27 (0, 0)) := by rw [hv3]; exact heap_alloc_new _ _
          obtain ⟨r3, hr3⟩ : ∃ r, r = (v2).heap.size := ⟨_, rfl⟩
          rw [← hr3] at hrow3
          have hk3 := (hk2).trans (hb3.mono (hk2).size)
          first | rw [← hv3, ← hr3] | (rw [← hv3]; try rw [← hr3])
          have HR3 := Lib.hid hr3
          have htl3 := (htl2).below hb3 (Nat.le_refl _)
          have hno3 : ∀ bb off, Y = some ⟨bb, off, none⟩ → 0 < k → bb ≠ r3 := fun bb off e h0 => by obtain ⟨b', o', e', hlt, _⟩ := (htl2).rows 0 h0; rw [e] at e'; injection e' with e'; injection e' with e1 _; omega
          have hpl3 := (hpl2).below hb3 (Nat.le_refl _)
          have hnf3 : ∀ bb off, Y2 = some ⟨bb, off, none⟩ → 0 < k2 → bb ≠ r3 := fun bb off e h0 => by obtain ⟨b', o', e', hlt, _⟩ := (hpl2).rows 0 h0; rw [e] at e'; injection e' with e'; injection e' with e1 _; omega
          refine hK.out _ _ (HCE.out _ hk3) (fun hHeld => ?_)
          clear hK K
          clear hv3 hr3
          try simp only [Act.put, List.setIfInBounds_toArray, List.set_cons_zero, List.set_cons_succ]
          refine wpAnyH_takeY (i := 5) (v := ?_) (by simp only [↓List.getElem?_toArray, ↓List.getElem?_cons_succ, ↓List.getElem?_cons_zero]; rfl) (by kernel_rfl) (by kernel_rfl) (by kernel_rfl) (by assumption) ?_ ?_ ?_
          rotate_left
          · exact fun _ _ _ h => h
          · exact Or.inl ⟨by rfl, by (intro V hV; (try dsimp only at hV); go_simp; try with_reducible rfl)⟩
          simp only [Act.put, List.setIfInBounds_toArray, List.set_cons_zero, List.set_cons_succ]
          refine wpAnyH_ready (rs := [6]) (by kernel_rfl) (by simp) ?_
          refine AllReadyH.cons rfl (fun K hK => ?_) ?_
          · -- 6
            have x0_4 := cell_in hrow3 (i := 0) rfl
            have x1_4 := cell_in hrow3 (i := 1) rfl
            have x2_4 := cell_in hrow3 (i := 2) rfl
            have y0_4 : (v3).frozen? ⟨r3, 0, none⟩ = false := by simp [World.frozen?, hrow3]
            have y1_4 : (v3).frozen? ⟨r3, 1, none⟩ = false := by simp [World.frozen?, hrow3]
            have y2_4 : (v3).frozen? ⟨r3, 2, none⟩ = false := by simp [World.frozen?, hrow3]
            go_simp
            obtain ⟨v4, hv4⟩ : ∃ v, v = ((World.setCell (v3) ⟨r3, 0, none⟩ (.bool b)).setCell ⟨r3, 1, none⟩ (.slice Y2 k2 c2)).setCell ⟨r3, 2, none⟩ (.string T) := ⟨_, rfl⟩
            rw [← hv4]
            obtain ⟨hrow4, hoth4, hb4⟩ := set_three hrow3 hv4
            have hrw4 : W.heap.size ≤ r3 := by rw [HR3.out]; exact (hk2).size
            have hk4 := (hk3).trans (hb4 _ hrw4)
            have hlt4 : r3 < (v3).heap.size := (Array.getElem?_eq_some_iff.1 hrow3).1
            have hpl4 := (hpl3).keep hnf3 hoth4 (hb4 0 (Nat.zero_le _)).size
            have htl4 := (htl3).keep hno3 hoth4 (hb4 0 (Nat.zero_le _)).size
            refine hK.out _ _ (HCE.out _ hk4) (fun hHeld => ?_)
            clear hK K
            clear hv4
            try simp only [Act.put, List.setIfInBounds_toArray, List.set_cons_zero, List.set_cons_succ]
            refine wpAnyH_done (by kernel_rfl) ?_ _
            show MM _ _
            rw [HMM.out]
            exact ⟨Y, k, c, Y2, k2, c2, ps2, r3, rfl, htl4, hpl4, hrow4, hk4⟩
          exact AllReadyH.nil
        exact AllReadyH.nil
      refine AllReadyH.cons rfl (fun K hK => ?_) ?_
      · -- 4
        go_simp
        obtain ⟨v5, hv5⟩ : ∃ v, v = World.alloc (v1) (.cells #[.bool false, .slice none 0 0, .string ⟨#[]⟩] 27) := ⟨_, rfl⟩
        have hb5 : Below (v1).heap.size (v1) v5 := by rw [hv5]; exact (Below.refl _ _).alloc (Nat.le_refl _) _
        have hrow5 : v5.heap[(v1).heap.size]? = some (.cells #[.bool false, .slice none 0 0, .string ⟨#[]⟩] 27 (0, 0)) := by rw [hv5]; exact heap_alloc_new _ _
        obtain ⟨r5, hr5⟩ : ∃ r, r = (v1).heap.size := ⟨_, rfl⟩
        rw [← hr5] at hrow5
        have hk5 := (hk1).trans (hb5.mono (hk1).size)
        first | rw [← hv5, ← hr5] | (rw [← hv5]; try rw [← hr5])
        have HR5 := Lib.hid hr5
        have htl5 := (htl1).below hb5 (Nat.le_refl _)
        have hno5 : ∀ bb off, Y = some ⟨bb, off, none⟩ → 0 < k → bb ≠ r5 := fun bb off e h0 => by obtain ⟨b', o', e', hlt, _⟩ := (htl1).rows 0 h0; rw [e] at e'; injection e' with e'; injection e' with e1 _; omega
        refine hK.out _ _ (HCE.out _ hk5) (fun hHeld => ?_)
        clear hK K
        clear hv5 hr5
        try simp only [Act.put, List.setIfInBounds_toArray, List.set_cons_zero, List.set_cons_succ]
        refine wpAnyH_ready (rs := [3]) (by kernel_rfl) (by simp) ?_
        refine AllReadyH.cons rfl (fun K hK => ?_) ?_
        · -- 3
          go_simp
          go_wp2_with (go_at_call 22; (with_reducible refine (HFIN.out _ hk5).mono ?_); rintro e v6 ⟨⟨Y2, k2, c2, ps2, rfl, hpl6, hnz6⟩, hb6⟩)
          have hk6 := (hk5).trans (hb6.mono (hk5).size)
          have htl6 := (htl5).below hb6 (Nat.le_refl _)
          have hrow6 := (hb6.block _ (Array.getElem?_eq_some_iff.1 hrow5).1).trans hrow5
          refine hK.out _ _ (HCE.out _ hk6) (fun hHeld => ?_)
          clear hK K
          try simp only [Act.put, List.setIfInBounds_toArray, List.set_cons_zero, List.set_cons_succ]
          refine wpAnyH_takeY (i := 5) (v := ?_) (by simp only [↓List.getElem?_toArray, ↓List.getElem?_cons_succ, ↓List.getElem?_cons_zero]; rfl) (by kernel_rfl) (by kernel_rfl) (by kernel_rfl) (by assumption) ?_ ?_ ?_
          rotate_left
          · exact fun _ _ _ h => h
          · exact Or.inl ⟨by rfl, by (intro V hV; (try dsimp only at hV); go_simp; try with_reducible rfl)⟩
          simp only [Act.put, List.setIfInBounds_toArray, List.set_cons_zero, List.set_cons_succ]
          refine wpAnyH_ready (rs := [6]) (by kernel_rfl) (by simp) ?_
          refine AllReadyH.cons rfl (fun K hK => ?_) ?_
          · -- 6
            have x0_7 := cell_in hrow6 (i := 0) rfl
            have x1_7 := cell_in hrow6 (i := 1) rfl
            have x2_7 := cell_in hrow6 (i := 2) rfl
            have y0_7 : (v6).frozen? ⟨r5, 0, none⟩ = false := by simp [World.frozen?, hrow6]
            have y1_7 : (v6).frozen? ⟨r5, 1, none⟩ = false := by simp [World.frozen?, hrow6]
            have y2_7 : (v6).frozen? ⟨r5, 2, none⟩ = false := by simp [World.frozen?, hrow6]
            go_simp
            obtain ⟨v7, hv7⟩ : ∃ v, v = ((World.setCell (v6) ⟨r5, 0, none⟩ (.bool b)).setCell ⟨r5, 1, none⟩ (.slice Y2 k2 c2)).setCell ⟨r5, 2, none⟩ (.string T) := ⟨_, rfl⟩
            rw [← hv7]
            obtain ⟨hrow7, hoth7, hb7⟩ := set_three hrow6 hv7
            have hrw7 : W.heap.size ≤ r5 := by rw [HR5.out]; exact (hk1).size
            have hk7 := (hk6).trans (hb7 _ hrw7)
            have hlt7 : r5 < (v6).heap.size := (Array.getElem?_eq_some_iff.1 hrow6).1
            have hpl7 := (hpl6).keep (fun bb off e _ => by have h1 := hnz6 _ e; have h2 : r5 < (v5).heap.size := (Array.getElem?_eq_some_iff.1 hrow5).1; dsimp only at h1; omega) hoth7 (hb7 0 (Nat.zero_le _)).size
            have htl7 := (htl6).keep hno5 hoth7 (hb7 0 (Nat.zero_le _)).size
            refine hK.out _ _ (HCE.out _ hk7) (fun hHeld => ?_)
            clear hK K
            clear hv7
            try simp only [Act.put, List.setIfInBounds_toArray, List.set_cons_zero, List.set_cons_succ]
            refine wpAnyH_done (by kernel_rfl) ?_ _
            show MM _ _
            rw [HMM.out]
            exact ⟨Y, k, c, Y2, k2, c2, ps2, r5, rfl, htl7, hpl7, hrow7, hk7⟩
          exact AllReadyH.nil
        exact AllReadyH.nil
      exact AllReadyH.nil
    refine AllReadyH.cons rfl (fun K hK => ?_) ?_
    · -- 4
      go_simp
      obtain ⟨v8, hv8⟩ : ∃ v, v = World.alloc (V0) (.cells #[.bool false, .slice none 0 0, .string ⟨#[]⟩] 27) := ⟨_, rfl⟩
      have hb8 : Below (V0).heap.size (V0) v8 := by rw [hv8]; exact (Below.refl _ _).alloc (Nat.le_refl _) _
      have hrow8 : v8.heap[(V0).heap.size]? = some (.cells #[.bool false, .slice none 0 0, .string ⟨#[]⟩] 27 (0, 0)) := by rw [hv8]; exact heap_alloc_new _ _
      obtain ⟨r8, hr8⟩ : ∃ r, r = (V0).heap.size := ⟨_, rfl⟩
      rw [← hr8] at hrow8
      have hk8 := (hk00).trans (hb8.mono (hk00).size)
      first | rw [← hv8, ← hr8] | (rw [← hv8]; try rw [← hr8])
      have HR8 := Lib.hid hr8
      refine hK.out _ _ (HCE.out _ hk8) (fun hHeld => ?_)
      clear hK K
      clear hv8 hr8
      try simp only [Act.put, List.setIfInBounds_toArray, List.set_cons_zero, List.set_cons_succ]
      refine wpAnyH_ready (rs := [1]) (by kernel_rfl) (by simp) ?_
      refine AllReadyH.cons rfl (fun K hK => ?_) ?_
      · -- 1
        go_simp
        go_wp2_with (go_at_call 15; (with_reducible refine (HOWN.out _ hk8).mono ?_); rintro e v9 ⟨⟨Y, k, c, rfl, hk25, htl9, hny9⟩, hb9⟩)
        have hk9 := (hk8).trans (hb9.mono (hk8).size)
        have hrow9 := (hb9.block _ (Array.getElem?_eq_some_iff.1 hrow8).1).trans hrow8
        refine hK.out _ _ (HCE.out _ hk9) (fun hHeld => ?_)
        clear hK K
        try simp only [Act.put, List.setIfInBounds_toArray, List.set_cons_zero, List.set_cons_succ]
        refine wpAnyH_ready (rs := [3]) (by kernel_rfl) (by simp) ?_
        refine AllReadyH.cons rfl (fun K hK => ?_) ?_
        · -- 3
          go_simp
          go_wp2_with (go_at_call 22; (with_reducible refine (HFIN.out _ hk9).mono ?_); rintro e v10 ⟨⟨Y2, k2, c2, ps2, rfl, hpl10, hnz10⟩, hb10⟩)
          have hk10 := (hk9).trans (hb10.mono (hk9).size)
          have htl10 := (htl9).below hb10 (Nat.le_refl _)
          have hrow10 := (hb10.block _ (Array.getElem?_eq_some_iff.1 hrow9).1).trans hrow9
          refine hK.out _ _ (HCE.out _ hk10) (fun hHeld => ?_)
          clear hK K
          try simp only [Act.put, List.setIfInBounds_toArray, List.set_cons_zero, List.set_cons_succ]
          refine wpAnyH_takeY (i := 5) (v := ?_) (by simp only [↓List.getElem?_toArray, ↓List.getElem?_cons_succ, ↓List.getElem?_cons_zero]; rfl) (by kernel_rfl) (by kernel_rfl) (by kernel_rfl) (by assumption) ?_ ?_ ?_
          rotate_left
          · exact fun _ _ _ h => h
          · exact Or.inl ⟨by rfl, by (intro V hV; (try dsimp only at hV); go_simp; try with_reducible rfl)⟩
          simp only [Act.put, List.setIfInBounds_toArray, List.set_cons_zero, List.set_cons_succ]
          refine wpAnyH_ready (rs := [6]) (by kernel_rfl) (by simp) ?_
          refine AllReadyH.cons rfl (fun K hK => ?_) ?_
          · -- 6
            have x0_11 := cell_in hrow10 (i := 0) rfl
            have x1_11 := cell_in hrow10 (i := 1) rfl
            have x2_11 := cell_in hrow10 (i := 2) rfl
            have y0_11 : (v10).frozen? ⟨r8, 0, none⟩ = false := by simp [World.frozen?, hrow10]
            have y1_11 : (v10).frozen? ⟨r8, 1, none⟩ = false := by simp [World.frozen?, hrow10]
            have y2_11 : (v10).frozen? ⟨r8, 2, none⟩ = false := by simp [World.frozen?, hrow10]
            go_simp
            obtain ⟨v11, hv11⟩ : ∃ v, v = ((World.setCell (v10) ⟨r8, 0, none⟩ (.bool b)).setCell ⟨r8, 1, none⟩ (.slice Y2 k2 c2)).setCell ⟨r8, 2, none⟩ (.string T) := ⟨_, rfl⟩
            rw [← hv11]
            obtain ⟨hrow11, hoth11, hb11⟩ := set_three hrow10 hv11
            have hrw11 : W.heap.size ≤ r8 := by rw [HR8.out]; exact (hk00).size
            have hk11 := (hk10).trans (hb11 _ hrw11)
            have hlt11 : r8 < (v10).heap.size := (Array.getElem?_eq_some_iff.1 hrow10).1
            have hpl11 := (hpl10).keep (fun bb off e _ => by have h1 := hnz10 _ e; have h2 : r8 < (v9).heap.size := (Array.getElem?_eq_some_iff.1 hrow9).1; dsimp only at h1; omega) hoth11 (hb11 0 (Nat.zero_le _)).size
            have htl11 := (htl10).keep (fun bb off e _ => by have h1 := hny9 _ e; have h2 : r8 < (v8).heap.size := (Array.getElem?_eq_some_iff.1 hrow8).1; dsimp only at h1; omega) hoth11 (hb11 0 (Nat.zero_le _)).size
            refine hK.out _ _ (HCE.out _ hk11) (fun hHeld => ?_)
            clear hK K
            clear hv11
            try simp only [Act.put, List.setIfInBounds_toArray, List.set_cons_zero, List.set_cons_succ]
            refine wpAnyH_done (by kernel_rfl) ?_ _
            show MM _ _
            rw [HMM.out]
            exact ⟨Y, k, c, Y2, k2, c2, ps2, r8, rfl, htl11, hpl11, hrow11, hk11⟩
          exact AllReadyH.nil
        exact AllReadyH.nil
      exact AllReadyH.nil
    exact AllReadyH.nil
  · intro a3 W3 hm3
    rw [HMM.out] at hm3
    obtain ⟨Y, k, c, Y2, k2, c2, ps2, r9, rfl, htl, hpl, hrow, hb3⟩ := hm3
    clear HMM HOWN HFIN HCE HKX HK0
    have HTL := Lib.hid htl
    have HPL := Lib.hid hpl
    have HROW := Lib.hid hrow
    obtain ⟨k0, k1⟩ := HBX.out _ hb3
    have HB3 := Lib.hid (HB.out.trans (hb3.mono HB.out.size))
    clear htl hpl hb3 HBX HB HW HSZ hrow MM
    go_wp2
    go_quiet (fail)
    clear k0 k1
    have hdn : Below W3.heap.size W3 (W3.drewN nq) := below_dn (Below.refl _ _) nq
    have HBQ : Hid (Below w.heap.size w (W3.drewN nq)) := below_dn HB3.out _
    have HTQ : Hid (Tl (W3.drewN nq) Y k c (cutT zs)) := HTL.out.below hdn (Nat.le_refl _)
    have HPQ : Hid (Plr (W3.drewN nq) Y2 k2 c2 ps2) := HPL.out.below hdn (Nat.le_refl _)
    have hrow := (hdn.block _ (Array.getElem?_eq_some_iff.1 HROW.out).1).trans HROW.out
    clear hdn HB3 HTL HPL HROW
    generalize W3.drewN nq = W4 at *
    generalize cutT zs = xs at *
    have HLX : Hid (xs.length = k) := HTQ.out.len
    have HBAD := Lib.hid (fun W h => bad_any xs Y k c x0 x1 W (HTQ.out.below h (Nat.le_refl W4.heap.size)))
    have f0 : W4.cell? ⟨r9, 0, none⟩ = some (.bool b) := cell_in hrow (i := 0) rfl
    have f1 : W4.cell? ⟨r9, 1, none⟩ = some (.slice Y2 k2 c2) := cell_in hrow (i := 1) rfl
    have f2 : W4.cell? ⟨r9, 2, none⟩ = some (.string T) := cell_in hrow (i := 2) rfl
    have HLT := Lib.hid (Array.getElem?_eq_some_iff.1 hrow).1
    have HROW := Lib.hid hrow
    clear hrow
    rcases bad2_or' xs x0 x1 with ⟨hbad, hbb⟩ | ⟨hv, hbb, p, q, rfl, rfl, hp, hq⟩
    · have HCK := Lib.hid (check_bad xs Y k c x0 x1 b Y2 k2 c2 T W4 HTQ.out hbad)
      rw [hbb] at HBAD
      clear hbad hbb
      go_wp2_with (first
        | (go_at_call 18; refine HCK.out.mono ?_; rintro e w5 ⟨rfl, hb5⟩; have HB5 := Lib.hid hb5; clear hb5)
        | (go_at_call 17; refine (HBAD.out _ HB5.out).mono ?_; rintro e w6 ⟨rfl, hb6⟩; have HB6 := Lib.hid (HB5.out.trans (hb6.mono HB5.out.size)); clear hb6)
        | (go_at_call 19; refine (awake_here _).mono ?_; rintro e w9 ⟨rfl, hb9⟩))
      go_ret
      exact ⟨rfl, HBQ.out.trans ((HB6.out.trans (hb9.mono HB6.out.size)).mono HBQ.out.size)⟩
    · have hk24 : k ≤ 24 := by have := (valB_len hv).2; have := HLX.out; omega
      rw [HLX.out] at hp hq
      have HNL := Lib.hid (HTQ.out.nl hv)
      have HOK := Lib.hid (valB_ok hv)
      rw [hbb] at HBAD
      cases hr : prB (toN xs) (p, q) b ps2 T
      · have HCK : Hid (Calls Try.prog 18 #[.slice Y k c, .int .i64 (p : Int), .int .i64 (q : Int), .agg #[.bool b, .slice Y2 k2 c2, .string T]] W4 fun e w' => e = .returned (.int .i64 10) ∧ Below W4.heap.size W4 w') := check_any xs Y k c p q b Y2 k2 c2 ps2 T W4 HTQ.out hv hp hq HPQ.out HTS.out false hr
        have HRT : Hid (∀ W, Below W4.heap.size W4 W → Calls Try.prog 21 #[.slice Y k c, .int .i64 (p : Int), .int .i64 (q : Int), .agg #[.bool b, .slice Y2 k2 c2, .string T]] W fun e w' => e = .returned (.bool false) ∧ Below W.heap.size W w') := fun W h => right_any (toN xs) Y k c p q b Y2 k2 c2 ps2 T W (HNL.out.below h (Nat.le_refl _)) HOK.out hp hq (by omega) (HPQ.out.below h (Nat.le_refl _)) HTS.out false hr
        clear hbb hv hr hp hq hk24 HNL HOK HTQ HPQ HLX
        go_wp2_with (first
          | (go_at_call 18; refine HCK.out.mono ?_; rintro e w5 ⟨rfl, hb5⟩; have HB5 := Lib.hid hb5; clear hb5)
          | (go_at_call 17; refine (HBAD.out _ HB5.out).mono ?_; rintro e w6 ⟨rfl, hb6⟩; have HB6 := Lib.hid (HB5.out.trans (hb6.mono HB5.out.size)); have hf := (HB6.out.block _ HLT.out).trans HROW.out; have e0 := cell_in hf (i := 0) rfl; have e1 := cell_in hf (i := 1) rfl; have e2 := cell_in hf (i := 2) rfl; clear hb6 hf)
          | (go_at_call 21; refine (HRT.out _ HB6.out).mono ?_; rintro e w7 ⟨rfl, hb7⟩; have HB7 := Lib.hid (HB6.out.trans (hb7.mono HB6.out.size)); clear hb7)
          | (go_at_call 19; refine (awake_here _).mono ?_; rintro e w9 ⟨rfl, hb9⟩))
        go_ret
        exact ⟨rfl, HBQ.out.trans ((HB7.out.trans (hb9.mono HB7.out.size)).mono HBQ.out.size)⟩
      · have HCK : Hid (Calls Try.prog 18 #[.slice Y k c, .int .i64 (p : Int), .int .i64 (q : Int), .agg #[.bool b, .slice Y2 k2 c2, .string T]] W4 fun e w' => e = .returned (.int .i64 0) ∧ Below W4.heap.size W4 w') := check_any xs Y k c p q b Y2 k2 c2 ps2 T W4 HTQ.out hv hp hq HPQ.out HTS.out true hr
        have HRT : Hid (∀ W, Below W4.heap.size W4 W → Calls Try.prog 21 #[.slice Y k c, .int .i64 (p : Int), .int .i64 (q : Int), .agg #[.bool b, .slice Y2 k2 c2, .string T]] W fun e w' => e = .returned (.bool true) ∧ Below W.heap.size W w') := fun W h => right_any (toN xs) Y k c p q b Y2 k2 c2 ps2 T W (HNL.out.below h (Nat.le_refl _)) HOK.out hp hq (by omega) (HPQ.out.below h (Nat.le_refl _)) HTS.out true hr
        clear hbb hv hr hp hq hk24 HNL HOK HTQ HPQ HLX
        go_wp2_with (first
          | (go_at_call 18; refine HCK.out.mono ?_; rintro e w5 ⟨rfl, hb5⟩; have HB5 := Lib.hid hb5; clear hb5)
          | (go_at_call 17; refine (HBAD.out _ HB5.out).mono ?_; rintro e w6 ⟨rfl, hb6⟩; have HB6 := Lib.hid (HB5.out.trans (hb6.mono HB5.out.size)); have hf := (HB6.out.block _ HLT.out).trans HROW.out; have e0 := cell_in hf (i := 0) rfl; have e1 := cell_in hf (i := 1) rfl; have e2 := cell_in hf (i := 2) rfl; clear hb6 hf)
          | (go_at_call 21; refine (HRT.out _ HB6.out).mono ?_; rintro e w7 ⟨rfl, hb7⟩; have HB7 := Lib.hid (HB6.out.trans (hb7.mono HB6.out.size)); clear hb7)
          | (go_at_call 19; refine (awake_here _).mono ?_; rintro e w9 ⟨rfl, hb9⟩))
        go_ret
        exact ⟨rfl, HBQ.out.trans ((HB7.out.trans (hb9.mono HB7.out.size)).mono HBQ.out.size)⟩
end Go.Proofs.Ytieaolihdbcekaa
