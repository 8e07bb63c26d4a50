import Derived.Test.YtfeohcknopdamaaT30
import Derived.Test.YtfeohcknopdamaaT12
import Derived.Test.YtfeohcknopdamaaT16
/- Layer 10: placeOfGrouping, groupingIn (written by gen_groups.py). -/
namespace Go.Proofs.Ytfeohcknopdamaa
open Go.RowKit Go.Shelf
set_option linter.unusedVariables false
attribute [local go_sem] Oper.semAt_some

theorem pushIn_law_at {F : Fence} {n : Nat} {P : Program} (w : World) {ops : Array Oper} {rest : List Oper} {o : Oper} {a : Act} {Q : Exit → Act → World → Prop} (hgd : o.guard = none) (s x : Operand) (t : TypeId)
    (ho : o.op = .call { callee := .builtin .append, args := #[s, x], argTypes := #[t, t] })
    (B : Nat) (e : TypeId) (i : TypeInfo) (ht : P.underlying t = some (.slice e)) (hI : P.info? e = some i ∧ i.zero = some (.int .i64 0) ∧ i.size = 1 ∧ i.bytes = 8)
    (v : Value) (zs : List Int) (z : Int) (p : Nat) (hp : p = w.heap.size) (hs : a.eval s = v) (hx : a.eval x = .slice (some ⟨p, 0, none⟩) 1 1) (hown : Ow w B e v zs) (hn : zs.length ≤ 1099511627776) (hB : B ≤ w.heap.size)
    (h : ∀ g c w', Ow w' B e (.slice (some ⟨g, 0, none⟩) (zs.length + 1) c) (zs ++ [z]) → w.grownBy w' v.ownBlock → wpListIn F n P ops Q rest (a.put o.dst (.slice (some ⟨g, 0, none⟩) (zs.length + 1) c)) w') :
    wpListIn F n P ops Q (o :: rest) a (w.alloc (.cells #[.int .i64 z] e)) := by
  subst hp
  obtain ⟨h1, h2, h3, h4⟩ := hI
  refine wpListIn_append_own _ hgd s x t ho B e i (.int .i64 0) 1 8 ht h1 h2 h3 h4 rfl (by decide) v zs.length (ints zs) hs (hown.alloc _) ⟨w.heap.size, 0, none⟩ 1 1 [.int .i64 z] hx rfl (cell_one_new _ _ _) (by simp [Value.oneCell']) (by unfold maxLen; omega) (by omega) (by simp; omega) ?_
  intro v' w1 hown' hgrow _
  obtain ⟨g', cap', rfl⟩ := ownsRow_succ hown'
  refine h g' cap' w1 ?_ (grown_alloc hgrow)
  unfold Ow
  rw [List.length_append, List.length_singleton, ints, List.map_append]
  exact hown'
theorem Try.infoWays : (Try.prog.info? 68).map (·.size) = some (rowV 441 (wayF 20 0)).size := by rw [rowV_size]; exact Try.sizeWays
/-- The table in a box of its own. -/
def tabW (w : World) : World := (w.alloc (.cells (rowV 441 fun _ => 0) 68)).setRow w.heap.size (rowV 441 (wayF 20 0))
theorem tabW_spec (w : World) : Rw (tabW w) w.heap.size 68 441 (wayF 20 0) ∧ Below w.heap.size w (tabW w) ∧ (tabW w).heap.size = w.heap.size + 1 := by
  have hb : Below w.heap.size w (w.alloc (.cells (rowV 441 fun _ => 0) 68)) := (Below.refl _ w).alloc (Nat.le_refl _) _
  refine ⟨setRow_heap _ _ _ _ _ _ (Rw.new w 68 441 (fun _ => 0)), ?_, by unfold tabW; simp⟩
  exact ⟨hb.os, hb.tape, hb.output, by unfold tabW; simp, fun k hk => (setRow_other _ _ _ _ (by omega)).trans (hb.block k hk)⟩
set_option maxRecDepth 100000 in
set_option maxHeartbeats 3200000 in
theorem placeOfGrouping_any (zs : List Int) (A : Option Addr) (n c : Nat) (w : World) (h : Sl w A n c zs) (hg : grpB zs = true) :
    Calls Try.prog 69 #[.slice A n c] w fun e w' => e = .returned (.int .i64 ((gP 0 zs : Nat) : Int)) ∧ Below w.heap.size w w' := by
  have HL : Hid (zs.length = n) := h.len
  have HS := Lib.hid (fun V (hV : Below w.heap.size w V) => h.below hV (Nat.le_refl _))
  rw [grpB, Bool.and_eq_true, decide_eq_true_iff, h.len] at hg
  obtain ⟨hn, hgr⟩ := hg
  have htot := gP_lt zs 0 hgr
  rw [h.len] at htot
  have htb : gP 0 zs < 474869816156751 := Nat.lt_of_lt_of_le htot (wy_le (by omega))
  obtain ⟨tot, ht⟩ : ∃ tot, tot = gP 0 zs := ⟨_, rfl⟩
  rw [← ht] at htb ⊢
  have HT := Lib.hid ht
  have HGR := Lib.hid hgr
  have HZ := Lib.hid Try.zeroWays
  have HINF := Lib.hid Try.infoWays
  have HZ2 : Hid ((rowV 441 fun _ => 0).size = (rowV 441 (wayF 20 0)).size) := by rw [Hid, rowV_size, rowV_size]
  have HONE := Lib.hid (rowV_one 441 (wayF 20 0))
  clear h htot ht hgr
  go_enter Try.func69, Try.ntmps69
  go_wp2_with (first | (go_at_call 70; (with_reducible refine (continuations_any _).mono ?_); rintro e w1 ⟨rfl, hb⟩; have HB1 := Lib.hid hb; clear hb) | (refine wpList_alloc_row rfl 68 rfl _ HZ.out ?_) | (refine wpList_store_row (by rfl) 68 (.tmp 3) (.tmp 8) (by rfl) w1.heap.size _ (by rfl) (by rfl) 68 _ (Rw.new w1 68 441 (fun _ => 0)) HINF.out HZ2.out HONE.out ?_))
  rw [show (w1.alloc (.cells (rowV 441 fun _ => 0) 68)).setRow w1.heap.size (rowV 441 (wayF 20 0)) = tabW w1 from rfl]
  obtain ⟨q1, q2, _⟩ := tabW_spec w1
  have HR := Lib.hid q1
  have HB2 := Lib.hid (HB1.out.trans (q2.mono HB1.out.size))
  clear q1 q2 HB1
  generalize tabW w1 = w2 at HR HB2 ⊢
  generalize w1.heap.size = h at HR ⊢
  go_loopw [4, 5, 11] (fun v s i w' => ∃ k u a : Nat, k ≤ n ∧ u ≤ k ∧ i = .int .i64 (k : Int) ∧ v = .int .i64 (u : Int) ∧ s = .int .i64 (a : Int) ∧ Hid (tot = a + gP u (zs.drop k) ∧ grB u (zs.drop k) = true) ∧ w2 = w') (fun _ _ i _ => n - (intOf i).toNat)
  case atStart => exact ⟨0, 0, 0, Nat.zero_le _, Nat.le_refl _, by go_num, by go_num, by go_num, ⟨by rw [List.drop_zero, Nat.zero_add]; exact HT.out, by rw [List.drop_zero]; exact HGR.out⟩, rfl⟩
  case round =>
    obtain ⟨k, u, a, hk, hu, rfl, rfl, rfl, HK, rfl⟩ := hrel
    by_cases hlt : k < n
    · have i1 : (k : Int) < (n : Int) := by omega
      obtain ⟨hk1, hk2⟩ := HK.out
      rw [gP_drop (by rw [HL.out]; exact hlt), HL.out] at hk1
      rw [grB_drop (by rw [HL.out]; exact hlt), Bool.and_eq_true, Bool.and_eq_true, decide_eq_true_iff, decide_eq_true_iff] at hk2
      obtain ⟨⟨hz0, hzu⟩, hk2⟩ := hk2
      obtain ⟨b, off, rfl, hcell⟩ := (HS.out w2 HB2.out).at_ hlt
      rw [show zs[k]?.getD 0 = atI zs k from rfl] at hcell
      generalize atI zs k = z at *
      obtain ⟨x, rfl⟩ : ∃ x : Nat, z = (x : Int) := ⟨z.toNat, by omega⟩
      rw [Int.toNat_natCast] at hk1 hk2
      obtain ⟨l, hl⟩ : ∃ l, l = n - 1 - k := ⟨_, rfl⟩
      rw [← hl] at hk1
      have hc1 := HR.out.cell (i := l * 21 + u) (by omega)
      rw [way_at (by omega) (by omega)] at hc1
      have V0 : Hid (IntKind.i64.wrap ((n : Int) - 1 - (k : Int)) = (l : Int)) := by rw [Hid, show (n : Int) - 1 - (k : Int) = (l : Int) by omega]; exact IntWalk.i64_in _ (by omega)
      have W0 : Hid (wrap64 ((n : Int) - 1 - (k : Int)) = (l : Int)) := by rw [Hid, show (n : Int) - 1 - (k : Int) = (l : Int) by omega]; exact IntWalk.wrap64_in _ ⟨by omega, by omega⟩
      generalize wy l u = E at *
      have hxe : a + x * E ≤ tot := by omega
      have V2 : Hid (IntKind.i64.wrap ((x : Int) * (E : Int)) = ((x * E : Nat) : Int)) := by rw [Hid, ← Int.natCast_mul]; exact IntWalk.i64_in _ (by omega)
      have V3 : Hid (IntKind.i64.wrap ((a : Int) + ((x * E : Nat) : Int)) = ((a + x * E : Nat) : Int)) := by rw [Hid, ← Int.natCast_add]; exact IntWalk.i64_in _ (by omega)
      have HX : Hid (tot = a + x * E + gP (max u (x + 1)) (zs.drop (k + 1)) ∧ grB (max u (x + 1)) (zs.drop (k + 1)) = true) := ⟨by omega, hk2⟩
      have hxu : x ≤ u := by omega
      have hlk : (n : Int) - 1 - (k : Int) = (l : Int) := by omega
      have HLK := Lib.hid hlk
      have hl20 : (l : Int) < 21 := by omega
      have hu20 : (u : Int) < 21 := by omega
      clear hk1 hk2 hl hxe hz0 hzu hlk
      generalize x * E = p at *
      generalize a + p = s2 at *
      by_cases hux : u < x + 1
      all_goals
        first | have m1 : (u : Int) < (x : Int) + 1 := by omega | have m1 : ¬ (u : Int) < (x : Int) + 1 := by omega
        obtain ⟨mx, hmx⟩ : ∃ mx, mx = max u (x + 1) := ⟨_, rfl⟩
        have hmv : mx = (if u < x + 1 then x + 1 else u) := by rw [hmx]; by_cases h : u < x + 1 <;> simp only [h, if_true, if_false] <;> omega
        first | rw [if_pos hux] at hmv | rw [if_neg hux] at hmv
        rw [← hmx] at HX
        have HMV := Lib.hid hmv
        have hmk : mx ≤ k + 1 := by omega
        clear hmx hmv
        have v0 := V0.out
        have hlk := HLK.out
        have v2 := V2.out
        have v3 := V3.out
        go_wp2
        clear v0 v2 v3 hlk
        exact ⟨⟨k + 1, mx, s2, by omega, hmk, by go_num, (by first | (rw [HMV.out]; done) | (rw [HMV.out]; go_num)), rfl, HX.out, trivial⟩, by simp [intOf]; omega⟩
    · have hkn : k = n := by omega
      have HX : Hid (tot = a) := by
        have h1 := HK.out.1
        rw [hkn, List.drop_of_length_le (by rw [HL.out]; exact Nat.le_refl _)] at h1
        exact h1
      have i1 : ¬ (k : Int) < (n : Int) := by omega
      clear hkn
      go_wp2
      go_ret
      exact ⟨by rw [HX.out]; rfl, HB2.out⟩
/-- What stands when k things are left. -/
structure GrpI (w : World) (h n a0 k u a : Nat) (cs : List Int) (v : Value) (W : World) : Prop where
  eq : gF n 0 a0 = cs ++ gF k u a
  lt : a < wy k u
  uk : u + k ≤ n
  len : cs.length + k = n
  size : h + 4 ≤ W.heap.size
  below : Below w.heap.size w W
  b0 : Boxed W w.heap.size 3 (.int .i64 (a : Int))
  row : Rw W h 68 441 (wayF 20 0)
  b1 : Boxed W (h + 1) 3 (.int .i64 (u : Int))
  b2 : Boxed W (h + 2) 22 v
  ow : Ow W (h + 4) 3 v cs
theorem GrpI.own {w : World} {h n a0 B : Nat} (hB : w.heap.size ≤ B) (hh : w.heap.size ≤ h) : OwnFrom B (fun (k : Nat) W => ∃ u a cs v, GrpI w h n a0 k u a cs v W) := by
  rintro k W W' row ⟨u, a, cs, v, i⟩ hg hr
  have hr' : ∀ r, row = some r → ∃ o : Obj, W.heap[r]? = some o ∧ o.isCells = false := fun r e => (hr r e).2
  exact ⟨u, a, cs, v, i.eq, i.lt, i.uk, i.len, Nat.le_trans i.size hg.size, i.below.grown hg (by have := i.size; omega) (fun k e => Nat.le_trans hB (hr k e).1), boxed_others i.b0 hg hr', rw_others i.row hg hr', boxed_others i.b1 hg hr', boxed_others i.b2 hg hr', i.ow.others hg hr'⟩
def grW (w : World) (n : Int) : World := (((tabW w).alloc (.cells #[.int .i64 0] 3)).alloc (.cells #[.slice none 0 0] 22)).alloc (.cells #[.int .i64 n] 3)
theorem grW_spec (w : World) (n : Int) : (grW w n).heap.size = w.heap.size + 4 ∧ Below w.heap.size w (grW w n) ∧ Rw (grW w n) w.heap.size 68 441 (wayF 20 0) ∧ Boxed (grW w n) (w.heap.size + 1) 3 (.int .i64 0) ∧ Boxed (grW w n) (w.heap.size + 2) 22 (.slice none 0 0) ∧ Boxed (grW w n) (w.heap.size + 3) 3 (.int .i64 n) := by
  obtain ⟨q1, q2, q3⟩ := tabW_spec w
  unfold grW
  generalize tabW w = w1 at *
  obtain ⟨w2, h2⟩ : ∃ x, x = w1.alloc (.cells #[.int .i64 0] 3) := ⟨_, rfl⟩
  obtain ⟨w3, h3⟩ : ∃ x, x = w2.alloc (.cells #[.slice none 0 0] 22) := ⟨_, rfl⟩
  rw [← h2, ← h3]
  have z2 : w2.heap.size = w.heap.size + 2 := by rw [h2]; simp [q3]
  have z3 : w3.heap.size = w.heap.size + 3 := by rw [h3]; simp [z2]
  have b1 : Boxed w2 (w.heap.size + 1) 3 (.int .i64 0) := by rw [h2, ← q3]; exact Boxed.new _ _ _
  have b2 : Boxed w3 (w.heap.size + 2) 22 (.slice none 0 0) := by rw [h3, ← z2]; exact Boxed.new _ _ _
  refine ⟨by simp [z3], ?_, ?_, ?_, b2.alloc _, by rw [← z3]; exact Boxed.new _ _ _⟩
  · rw [h3, h2]
    exact ((q2.alloc (by omega) _).alloc (by simp; omega) _).alloc (by simp; omega) _
  · rw [h3, h2]; exact ((q1.alloc _).alloc _).alloc _
  · rw [h3]; exact (b1.alloc _).alloc _
set_option maxRecDepth 100000 in
set_option maxHeartbeats 6400000 in
theorem groupingIn_any (n a0 : Nat) (w : World) (hn : n ≤ 20) (ha : a0 < wy n 0) :
    Calls Try.prog 67 #[.int .i64 (n : Int), .int .i64 (a0 : Int)] w fun e w' => (∃ v, e = .returned v ∧ Ow w' w.heap.size 3 v (gF n 0 a0)) ∧ Below w.heap.size w w' := by
  obtain ⟨R, hR⟩ : ∃ R : Ending → World → Prop, R = fun e w' => (∃ v, e = .returned v ∧ Ow w' w.heap.size 3 v (gF n 0 a0)) ∧ Below w.heap.size w w' := ⟨_, rfl⟩
  rw [← hR]
  have HRR := Lib.hid hR
  have HA := Lib.hid ha
  obtain ⟨i0, hi0, hz0, hz1, hz2⟩ := info_parts Try.infoInt
  have HI0 : Hid (Try.prog.info? 3 = some i0 ∧ i0.zero = some (.int .i64 0) ∧ i0.size = 1 ∧ i0.bytes = 8) := ⟨hi0, hz0, hz1, hz2⟩
  have HZ := Lib.hid Try.zeroWays
  have HINF := Lib.hid Try.infoWays
  have HZ2 : Hid ((rowV 441 fun _ => 0).size = (rowV 441 (wayF 20 0)).size) := by rw [Hid, rowV_size, rowV_size]
  have HONE := Lib.hid (rowV_one 441 (wayF 20 0))
  clear hR ha hi0 hz0 hz1 hz2
  refine (callsIn_wide (n := 9)).1 ?_
  refine callsIn_of_wp_marks Try.func67 rfl trivial ?_ rfl
  simp only [Try.ntmps67, List.size_toArray, List.length_cons, List.length_nil, Nat.reduceAdd, Nat.reduceSub, Array.replicate_succ, Array.replicate_zero, List.push_toArray, List.append_toArray, List.nil_append, List.cons_append]
  refine (wpIn_wide (n := 9)).2 ?_
  have HBX : Hid (Below w.heap.size w (w.alloc (.cells #[.int .i64 (a0 : Int)] 3))) := (Below.refl _ w).alloc (Nat.le_refl _) _
  have HQ0 : Hid (Boxed (w.alloc (.cells #[.int .i64 (a0 : Int)] 3)) w.heap.size 3 (.int .i64 (a0 : Int))) := Boxed.new _ _ _
  go_wp2_with (first | (go_at_call 70; (with_reducible refine (continuations_any _).mono ?_); rintro e w1 ⟨rfl, hb⟩; have HB1 := Lib.hid (HBX.out.trans (hb.mono HBX.out.size)); have HQ1 := Lib.hid (boxed_below HQ0.out hb (by simp)); have hsz : w.heap.size + 1 ≤ w1.heap.size := (by have := hb.size; simpa using this); have HSZ := Lib.hid hsz; clear hb hsz) | (refine wpList_alloc_row rfl 68 rfl _ HZ.out ?_) | (refine wpList_store_row (by rfl) 68 (.tmp 5) (.tmp 11) (by rfl) w1.heap.size _ (by rfl) (by rfl) 68 _ (Rw.new w1 68 441 (fun _ => 0)) HINF.out HZ2.out HONE.out ?_) | (go_at_call 76; refine (down_any _ _).mono ?_; rintro e w' ⟨rfl, rfl⟩))
  refine (wpIn_wide (n := 9)).1 ?_
  rw [show ((((w1.alloc (.cells (rowV 441 fun _ => 0) 68)).setRow w1.heap.size (rowV 441 (wayF 20 0))).alloc (.cells #[.int .i64 0] 3)).alloc (.cells #[.slice none 0 0] 22)).alloc (.cells #[.int .i64 (n : Int)] 3) = grW w1 n from rfl]
  obtain ⟨z0, hb0, qr, q1, q2, q3⟩ := grW_spec w1 n
  have hbw : Below w.heap.size w (grW w1 n) := HB1.out.trans (hb0.mono HB1.out.size)
  have hsz := HSZ.out
  have q0 := boxed_below HQ1.out hb0 (by omega)
  generalize grW w1 n = w0 at z0 hbw qr q0 q1 q2 q3 ⊢
  clear hb0 HB1 HQ1 HSZ HBX HQ0
  generalize w1.heap.size = h at *
  rw [show h + 1 + 1 + 1 = h + 3 from rfl, show h + 1 + 1 = h + 2 from rfl]
  refine down_law (n := 8) (h + 3) n (by omega) (by rfl) q3.cell (fun k W => ∃ u a cs v, GrpI w h n a0 k u a cs v W) (GrpI.own (by omega) (by omega)) ⟨0, a0, [], _, rfl, HA.out, by omega, by simp, by omega, hbw, q0, qr, q1, q2, Ow.nil _ _ _⟩ ?a1 ?assign ?body ?done
  case assign =>
    intro l x W K hK
    gi_wp2
    exact hK
  case body =>
    clear q0 q1 q2 q3 qr hbw HRR HA z0
    rintro l k W hk ⟨u, a, cs, v, hi⟩
    have huk := hi.uk
    have hlen := hi.len
    have hsize := hi.size
    have hlt := hi.lt
    have hab : a < 474869816156751 := Nat.lt_of_lt_of_le hlt (wy_le (by omega))
    have hEp := wy_pos k u
    have hEb := wy_le (l := k) (g := u) (by omega)
    have hrow := hi.row.cell (i := k * 21 + u) (by omega)
    rw [way_at (by omega) (by omega)] at hrow
    have hstep : ∀ x, x ≤ u → x * wy k u ≤ a → (x = u ∨ a - x * wy k u < wy k u) → gF (k + 1) u a = (x : Int) :: gF k (max u (x + 1)) (a - x * wy k u) ∧ a - x * wy k u < wy k (max u (x + 1)) := fun x h1 h2 h3 => gF_one hlt h1 h2 h3
    generalize wy k u = E at hrow hstep hEp hEb
    obtain ⟨q, hq⟩ : ∃ q, q = a / E := ⟨_, rfl⟩
    have hqE : q * E ≤ a := by rw [hq]; exact Nat.div_mul_le_self a E
    have hqE2 : a < (q + 1) * E := by rw [hq]; exact Nat.lt_mul_of_div_lt (Nat.lt_succ_self _) hEp
    have hqa : q ≤ a := by rw [hq]; exact Nat.div_le_self a E
    rw [Nat.add_mul, Nat.one_mul] at hqE2
    have D2 : Hid ((a : Int).tdiv (E : Int) = (q : Int)) := by
      rw [Hid, Int.tdiv_eq_ediv_of_nonneg (by omega), ← Int.natCast_ediv, hq]
    have D3 : Hid ((a : Int) / (E : Int) = (q : Int)) := by rw [Hid, ← Int.natCast_ediv, hq]
    have D4 : Hid (wrap64 (q : Int) = (q : Int)) := IntWalk.wrap64_in _ ⟨by omega, by omega⟩
    have D5 : Hid (¬ (E = 0)) := by rw [Hid]; omega
    have D6 : Hid (IntKind.i64.wrap (q : Int) = (q : Int)) := IntWalk.i64_in _ (by omega)
    have c1 := hi.b1.cell
    have c0 := hi.b0.cell
    have cE := hrow
    have HI := Lib.hid hi
    obtain ⟨W2, hW2⟩ : ∃ W2, W2 = W.drew.drew := ⟨_, rfl⟩
    have HW2 := Lib.hid hW2
    have HB0 : Hid (Boxed W2 w.heap.size 3 (.int .i64 (a : Int))) := by rw [hW2]; exact hi.b0
    have HB1 : Hid (Boxed W2 (h + 1) 3 (.int .i64 (u : Int))) := by rw [hW2]; exact hi.b1
    have HB2 : Hid (Boxed W2 (h + 2) 22 v) := by rw [hW2]; exact hi.b2
    have HBR : Hid (Rw W2 h 68 441 (wayF 20 0)) := by rw [hW2]; exact hi.row
    have HBO : Hid (Ow W2 (h + 4) 3 v cs) := by rw [hW2]; exact hi.ow
    have HBW : Hid (Below w.heap.size w W2) := by rw [hW2]; exact hi.below.drew.drew
    have HBK : Hid (KeepsOthers W W2) := by rw [hW2]; exact (KeepsOthers.drew W).trans (KeepsOthers.drew _)
    have HBZ : Hid (h + 4 ≤ W2.heap.size) := by rw [hW2]; exact hsize
    have HLC : Hid (cs.length ≤ 20) := by rw [Hid]; omega
    have HLN := Lib.hid hlen
    have hsz2 := hsz
    have g1 : (k : Int) < 21 := by omega
    have g2 : (u : Int) < 21 := by omega
    have g3 : IntKind.i64.wrap (k : Int) = (k : Int) := IntWalk.i64_in _ (by omega)
    clear hi hrow hlt hq hW2 hlen
    by_cases hqu : u < q
    · have n1 : min (q : Int) (u : Int) = (u : Int) := by omega
      have hs := hstep u (Nat.le_refl _) (Nat.le_trans (Nat.mul_le_mul_right E (Nat.le_of_lt hqu)) hqE) (.inl rfl)
      have huE := Nat.mul_le_mul_right E (Nat.le_of_lt hqu)
      obtain ⟨a2, ha2⟩ : ∃ a2, a2 = a - u * E := ⟨_, rfl⟩
      rw [← ha2, Nat.max_eq_right (Nat.le_succ u)] at hs
      have HS := Lib.hid hs
      have HM2 : Hid (max (u : Int) ((u : Int) + 1) = (u : Int) + 1) := by rw [Hid]; omega
      have HUK : Hid (u + 1 + k ≤ n) := by rw [Hid]; omega
      have V1 : Hid (IntKind.i64.wrap ((u : Int) * (E : Int)) = ((u * E : Nat) : Int)) := by rw [Hid, ← Int.natCast_mul]; exact IntWalk.i64_in _ (by omega)
      have V2 : Hid (IntKind.i64.wrap ((a : Int) - ((u * E : Nat) : Int)) = (a2 : Int)) := by rw [Hid, show (a : Int) - ((u * E : Nat) : Int) = (a2 : Int) by omega]; exact IntWalk.i64_in _ (by omega)
      clear hstep hqE hqE2 hs ha2 huE hEb hEp hab hqa hqu
      generalize u * E = p at V1 V2
      obtain ⟨W3, hW3⟩ : ∃ W3, W3 = W2.setCell ⟨w.heap.size, 0, none⟩ (.int .i64 (a2 : Int)) := ⟨_, rfl⟩
      have HZ2 : Hid (h + 4 ≤ (W2.setCell ⟨w.heap.size, 0, none⟩ (.int .i64 (a2 : Int))).heap.size) := Nat.le_trans HBZ.out (KeepsWalks.setCell W2 _ _).size
      have HOV : Hid (Ow (W2.setCell ⟨w.heap.size, 0, none⟩ (.int .i64 (a2 : Int))) (h + 4) 3 v cs) := Ow.setBelow HBO.out (a := ⟨w.heap.size, 0, none⟩) (by show w.heap.size < h + 4; omega) _
      have HNX : Hid (∀ g cp w1, Ow w1 (h + 4) 3 (.slice (some ⟨g, 0, none⟩) (cs.length + 1) cp) (cs ++ [(u : Int)]) → (W2.setCell ⟨w.heap.size, 0, none⟩ (.int .i64 (a2 : Int))).grownBy w1 v.ownBlock →
          w1.cell? ⟨h + 2, 0, none⟩ = some v ∧ w1.frozen? ⟨h + 2, 0, none⟩ = false ∧ w1.cell? ⟨h + 1, 0, none⟩ = some (.int .i64 (u : Int)) ∧ w1.frozen? ⟨h + 1, 0, none⟩ = false ∧
          (KeepsOthers W ((w1.setCell ⟨h + 2, 0, none⟩ (.slice (some ⟨g, 0, none⟩) (cs.length + 1) cp)).setCell ⟨h + 1, 0, none⟩ (.int .i64 ((u : Int) + 1))) ∧ ∃ u' a' cs' v', GrpI w h n a0 k u' a' cs' v' ((w1.setCell ⟨h + 2, 0, none⟩ (.slice (some ⟨g, 0, none⟩) (cs.length + 1) cp)).setCell ⟨h + 1, 0, none⟩ (.int .i64 ((u : Int) + 1))))) := by
        intro g cp w1 ho hg
        rw [← hW3] at hg
        have r0 : Boxed W3 w.heap.size 3 (.int .i64 (a2 : Int)) := by rw [hW3]; exact HB0.out.set _
        have r1 : Boxed W3 (h + 1) 3 (.int .i64 (u : Int)) := by rw [hW3]; exact boxed_setO HB1.out (by omega) _
        have r2 : Boxed W3 (h + 2) 22 v := by rw [hW3]; exact boxed_setO HB2.out (by omega) _
        have rr : Rw W3 h 68 441 (wayF 20 0) := by rw [hW3]; exact HBR.out.setOther (by show w.heap.size ≠ h; omega) _
        have ro : Ow W3 (h + 4) 3 v cs := by rw [hW3]; exact HOV.out
        have rk : KeepsOthers W W3 := by rw [hW3]; exact HBK.out.trans (KeepsOthers.setCell _ _ _)
        have rb : Below w.heap.size w W3 := by rw [hW3]; exact HBW.out.setCell (p := ⟨w.heap.size, 0, none⟩) (Nat.le_refl _) _
        have rz : h + 4 ≤ W3.heap.size := by rw [hW3]; exact HZ2.out
        have hne : ∀ j, j < h + 4 → some j ≠ v.ownBlock := fun j hj e => by have := (ro.lt e.symm).1; omega
        have s0 := r0.kept hg (hne _ (by omega))
        have s1 := r1.kept hg (hne _ (by omega))
        have s2 := r2.kept hg (hne _ (by omega))
        have sr : Rw w1 h 68 441 (wayF 20 0) := rr.of_block (hg.block h rr.lt (hne _ (by omega)))
        have sk := rk.trans (grown_others ro hg)
        have sb := rb.grown hg (by omega) (fun j e => by have := (ro.lt e).1; omega)
        have sz := Nat.le_trans rz hg.size
        refine ⟨s2.cell, s2.frozen, s1.cell, s1.frozen, (sk.trans (KeepsOthers.setCell _ _ _)).trans (KeepsOthers.setCell _ _ _), u + 1, a2, cs ++ [(u : Int)], .slice (some ⟨g, 0, none⟩) (cs.length + 1) cp, ?_, HS.out.2, HUK.out, ?_, Nat.le_trans sz (Nat.le_trans (KeepsWalks.setCell _ _ _).size (KeepsWalks.setCell _ _ _).size), ?_, ?_, ?_, ?_, ?_, ?_⟩
        · rw [HI.out.eq, HS.out.1, List.append_assoc]; rfl
        · rw [List.length_append, List.length_singleton]; have := HLN.out; omega
        · exact (sb.setCell (p := ⟨h + 2, 0, none⟩) (by show w.heap.size ≤ h + 2; omega) _).setCell (p := ⟨h + 1, 0, none⟩) (by show w.heap.size ≤ h + 1; omega) _
        · exact boxed_setO (C := h + 1) (boxed_setO (C := h + 2) s0 (by omega) _) (by omega) _
        · exact (sr.setOther (by show h + 2 ≠ h; omega) _).setOther (by show h + 1 ≠ h; omega) _
        · exact (boxed_setO (C := h + 2) s1 (by omega) _).set _
        · exact boxed_setO (C := h + 1) (s2.set _) (by omega) _
        · exact Ow.setBelow (Ow.setBelow ho (a := ⟨h + 2, 0, none⟩) (by show h + 2 < h + 4; omega) _) (a := ⟨h + 1, 0, none⟩) (by show h + 1 < h + 4; omega) _
      clear hW3 huk hk hsize
      refine wpIn_block (wpIn_seq ?_)
      refine wpIn_region_round (fun V => V.cell? ⟨h + 1, 0, none⟩ = some (.int .i64 (u : Int)) ∧ V.cell? ⟨h, k * 21 + u, none⟩ = some (.int .i64 (E : Int))) (by kernel_rfl) (by rfl) (fun ⟨_, _, h⟩ => by cases h.1) ⟨c1, cE⟩ (fun hHeld => ?_)
      simp only [List.length_cons, List.length_nil, Nat.reduceAdd, Array.replicate_succ, Array.replicate_zero, List.push_toArray, List.nil_append, List.cons_append]
      refine wpAnyH_takeX (i := 0) (v := ?_) (by simp only [↓List.getElem?_toArray, ↓List.getElem?_cons_zero]; rfl) (by kernel_rfl) (by kernel_rfl) (by kernel_rfl) (by assumption) ?_ ?_ ?_
      rotate_left
      · exact fun _ _ _ h => (nomatch h.1)
      · exact Or.inl ⟨by rfl, by (intro V hV; (try dsimp only at hV); go_simp; try with_reducible rfl)⟩
      simp only [Act.put, List.setIfInBounds_toArray, List.set_cons_zero, List.set_cons_succ]
      refine wpAnyH_takeX (i := 1) (v := ?_) (by simp only [↓List.getElem?_toArray, ↓List.getElem?_cons_succ, ↓List.getElem?_cons_zero]; rfl) (by kernel_rfl) (by kernel_rfl) (by kernel_rfl) (by assumption) ?_ ?_ ?_
      rotate_left
      · exact fun _ _ _ h => (nomatch h.1)
      · exact Or.inl ⟨by rfl, by (intro V hV; (try dsimp only at hV); go_simp; try with_reducible rfl)⟩
      simp only [Act.put, List.setIfInBounds_toArray, List.set_cons_zero, List.set_cons_succ]
      refine wpAnyH_takeX (i := 2) (v := ?_) (by simp only [↓List.getElem?_toArray, ↓List.getElem?_cons_succ, ↓List.getElem?_cons_zero]; rfl) (by kernel_rfl) (by kernel_rfl) (by kernel_rfl) (by assumption) ?_ ?_ ?_
      rotate_left
      · exact fun _ _ _ h => (nomatch h.1)
      · exact Or.inl ⟨by rfl, by (intro V hV; (try dsimp only at hV); go_simp; try with_reducible rfl)⟩
      simp only [Act.put, List.setIfInBounds_toArray, List.set_cons_zero, List.set_cons_succ]
      refine wpAnyH_takeX (i := 3) (v := ?_) (by simp only [↓List.getElem?_toArray, ↓List.getElem?_cons_succ, ↓List.getElem?_cons_zero]; rfl) (by kernel_rfl) (by kernel_rfl) (by kernel_rfl) (by assumption) ?_ ?_ ?_
      rotate_left
      · exact fun _ _ _ h => (nomatch h.1)
      · exact Or.inl ⟨by rfl, by (intro V hV; (try dsimp only at hV); go_simp; try with_reducible rfl)⟩
      simp only [Act.put, List.setIfInBounds_toArray, List.set_cons_zero, List.set_cons_succ]
      refine wpAnyH_takeX (i := 4) (v := ?_) (by simp only [↓List.getElem?_toArray, ↓List.getElem?_cons_succ, ↓List.getElem?_cons_zero]; rfl) (by kernel_rfl) (by kernel_rfl) (by kernel_rfl) (by assumption) ?_ ?_ ?_
      rotate_left
      · exact fun _ _ _ h => (nomatch h.1)
      · exact Or.inl ⟨by rfl, by (intro V hV; (try dsimp only at hV); go_simp; try with_reducible rfl)⟩
      simp only [Act.put, List.setIfInBounds_toArray, List.set_cons_zero, List.set_cons_succ]
      refine wpAnyH_takeX (i := 5) (v := ?_) (by simp only [↓List.getElem?_toArray, ↓List.getElem?_cons_succ, ↓List.getElem?_cons_zero]; rfl) (by kernel_rfl) (by kernel_rfl) (by kernel_rfl) (by assumption) ?_ ?_ ?_
      rotate_left
      · exact fun _ _ _ h => (nomatch h.1)
      · exact Or.inl ⟨by rfl, by (intro V hV; (try dsimp only at hV); go_simp; try with_reducible rfl)⟩
      simp only [Act.put, List.setIfInBounds_toArray, List.set_cons_zero, List.set_cons_succ]
      refine wpAnyH_takeX (i := 6) (v := ?_) (by simp only [↓List.getElem?_toArray, ↓List.getElem?_cons_succ, ↓List.getElem?_cons_zero]; rfl) (by kernel_rfl) (by kernel_rfl) (by kernel_rfl) (by assumption) ?_ ?_ ?_
      rotate_left
      · exact fun _ _ _ h => (nomatch h.1)
      · exact Or.inl ⟨by rfl, by (intro V hV; (try dsimp only at hV); go_simp; try with_reducible rfl)⟩
      simp only [Act.put, List.setIfInBounds_toArray, List.set_cons_zero, List.set_cons_succ]
      refine wpAnyH_done (by kernel_rfl) ?_ _
      simp only [Exit.then]
      refine wpIn_seq ?_
      refine wpIn_region_round (fun V => V.cell? ⟨w.heap.size, 0, none⟩ = some (.int .i64 (a : Int)) ∧ V.cell? ⟨h + 1, 0, none⟩ = some (.int .i64 (u : Int))) (by kernel_rfl) (by rfl) (fun ⟨_, _, h⟩ => by cases h.1) ⟨c0, c1⟩ (fun hHeld => ?_)
      simp only [List.length_cons, List.length_nil, Nat.reduceAdd, Array.replicate_succ, Array.replicate_zero, List.push_toArray, List.nil_append, List.cons_append]
      have d2 := D2.out
      have d3 := D3.out
      have d4 := D6.out
      have d5 := D5.out
      refine wpAnyH_takeX (i := 0) (v := ?_) (by simp only [↓List.getElem?_toArray, ↓List.getElem?_cons_zero]; rfl) (by kernel_rfl) (by kernel_rfl) (by kernel_rfl) (by assumption) ?_ ?_ ?_
      rotate_left
      · exact fun _ _ _ h => (nomatch h.1)
      · exact Or.inl ⟨by rfl, by (intro V hV; (try dsimp only at hV); go_simp; try with_reducible rfl)⟩
      simp only [Act.put, List.setIfInBounds_toArray, List.set_cons_zero, List.set_cons_succ]
      refine wpAnyH_takeX (i := 1) (v := ?_) (by simp only [↓List.getElem?_toArray, ↓List.getElem?_cons_succ, ↓List.getElem?_cons_zero]; rfl) (by kernel_rfl) (by kernel_rfl) (by kernel_rfl) (by assumption) ?_ ?_ ?_
      rotate_left
      · exact fun _ _ _ h => (nomatch h.1)
      · exact Or.inl ⟨by rfl, by (intro V hV; (try dsimp only at hV); go_simp; try with_reducible rfl)⟩
      simp only [Act.put, List.setIfInBounds_toArray, List.set_cons_zero, List.set_cons_succ]
      refine wpAnyH_takeX (i := 2) (v := ?_) (by simp only [↓List.getElem?_toArray, ↓List.getElem?_cons_succ, ↓List.getElem?_cons_zero]; rfl) (by kernel_rfl) (by kernel_rfl) (by kernel_rfl) (by assumption) ?_ ?_ ?_
      rotate_left
      · exact fun _ _ _ h => (nomatch h.1)
      · exact Or.inl ⟨by rfl, by (intro V hV; (try dsimp only at hV); go_simp; try with_reducible rfl)⟩
      simp only [Act.put, List.setIfInBounds_toArray, List.set_cons_zero, List.set_cons_succ]
      refine wpAnyH_takeX (i := 3) (v := ?_) (by simp only [↓List.getElem?_toArray, ↓List.getElem?_cons_succ, ↓List.getElem?_cons_zero]; rfl) (by kernel_rfl) (by kernel_rfl) (by kernel_rfl) (by assumption) ?_ ?_ ?_
      rotate_left
      · exact fun _ _ _ h => (nomatch h.1)
      · exact Or.inl ⟨by rfl, by (intro V hV; (try dsimp only at hV); go_simp; try with_reducible rfl)⟩
      simp only [Act.put, List.setIfInBounds_toArray, List.set_cons_zero, List.set_cons_succ]
      refine wpAnyH_takeX (i := 4) (v := ?_) (by simp only [↓List.getElem?_toArray, ↓List.getElem?_cons_succ, ↓List.getElem?_cons_zero]; rfl) (by kernel_rfl) (by kernel_rfl) (by kernel_rfl) (by assumption) ?_ ?_ ?_
      rotate_left
      · exact fun _ _ _ h => (nomatch h.1)
      · exact Or.inl ⟨by rfl, by (intro V hV; (try dsimp only at hV); go_simp; try with_reducible rfl)⟩
      simp only [Act.put, List.setIfInBounds_toArray, List.set_cons_zero, List.set_cons_succ]
      refine wpAnyH_takeX (i := 5) (v := ?_) (by simp only [↓List.getElem?_toArray, ↓List.getElem?_cons_succ, ↓List.getElem?_cons_zero]; rfl) (by kernel_rfl) (by kernel_rfl) (by kernel_rfl) (by assumption) ?_ ?_ ?_
      rotate_left
      · exact fun _ _ _ h => (nomatch h.1)
      · exact Or.inl ⟨by rfl, by (intro V hV; (try dsimp only at hV); go_simp; try with_reducible rfl)⟩
      simp only [Act.put, List.setIfInBounds_toArray, List.set_cons_zero, List.set_cons_succ]
      refine wpAnyH_done (by kernel_rfl) ?_ _
      simp only [Exit.then]
      clear d2 d3 d4 d5 c0 c1 cE
      rw [← HW2.out]
      have c0 := HB0.out.cell
      have f0 := HB0.out.frozen
      have c2 := HB2.out.cell
      have m2 := HM2.out
      have v1 := V1.out
      have v2 := V2.out
      gi_wp2_with (gi_at_builtin; refine pushIn_law_at _ rfl _ _ 22 rfl (h + 4) 3 i0 Try.underlying22 HI0.out v cs (u : Int) W2.heap.size (by simp) rfl rfl HOV.out (by have := HLC.out; omega) HZ2.out ?_; intro g cp w1 hown' hgrow; have HN := Lib.hid (HNX.out g cp w1 hown' hgrow); have c3 := HN.out.1; have f3 := HN.out.2.1; have c4 := HN.out.2.2.1; have f4 := HN.out.2.2.2.1; clear hown' hgrow)
      exact ⟨trivial, HN.out.2.2.2.2⟩
    · have n1 : min (q : Int) (u : Int) = (q : Int) := by omega
      have hs := hstep q (by omega) hqE (.inr (by omega))
      obtain ⟨a2, ha2⟩ : ∃ a2, a2 = a - q * E := ⟨_, rfl⟩
      rw [← ha2] at hs
      by_cases hqu2 : q < u
      · rw [Nat.max_eq_left (show q + 1 ≤ u from hqu2)] at hs
        have HS := Lib.hid hs
        have HM2 : Hid (max (u : Int) ((q : Int) + 1) = (u : Int)) := by rw [Hid]; omega
        have HUK : Hid (u + k ≤ n) := by rw [Hid]; omega
        have V1 : Hid (IntKind.i64.wrap ((q : Int) * (E : Int)) = ((q * E : Nat) : Int)) := by rw [Hid, ← Int.natCast_mul]; exact IntWalk.i64_in _ (by omega)
        have V2 : Hid (IntKind.i64.wrap ((a : Int) - ((q * E : Nat) : Int)) = (a2 : Int)) := by rw [Hid, show (a : Int) - ((q * E : Nat) : Int) = (a2 : Int) by omega]; exact IntWalk.i64_in _ (by omega)
        clear hstep hqE hqE2 hs ha2 hEb hEp hab hqa hqu hqu2
        generalize q * E = p at V1 V2
        obtain ⟨W3, hW3⟩ : ∃ W3, W3 = W2.setCell ⟨w.heap.size, 0, none⟩ (.int .i64 (a2 : Int)) := ⟨_, rfl⟩
        have HZ2 : Hid (h + 4 ≤ (W2.setCell ⟨w.heap.size, 0, none⟩ (.int .i64 (a2 : Int))).heap.size) := Nat.le_trans HBZ.out (KeepsWalks.setCell W2 _ _).size
        have HOV : Hid (Ow (W2.setCell ⟨w.heap.size, 0, none⟩ (.int .i64 (a2 : Int))) (h + 4) 3 v cs) := Ow.setBelow HBO.out (a := ⟨w.heap.size, 0, none⟩) (by show w.heap.size < h + 4; omega) _
        have HNX : Hid (∀ g cp w1, Ow w1 (h + 4) 3 (.slice (some ⟨g, 0, none⟩) (cs.length + 1) cp) (cs ++ [(q : Int)]) → (W2.setCell ⟨w.heap.size, 0, none⟩ (.int .i64 (a2 : Int))).grownBy w1 v.ownBlock →
            w1.cell? ⟨h + 2, 0, none⟩ = some v ∧ w1.frozen? ⟨h + 2, 0, none⟩ = false ∧ w1.cell? ⟨h + 1, 0, none⟩ = some (.int .i64 (u : Int)) ∧ w1.frozen? ⟨h + 1, 0, none⟩ = false ∧
            (KeepsOthers W ((w1.setCell ⟨h + 2, 0, none⟩ (.slice (some ⟨g, 0, none⟩) (cs.length + 1) cp)).setCell ⟨h + 1, 0, none⟩ (.int .i64 (u : Int))) ∧ ∃ u' a' cs' v', GrpI w h n a0 k u' a' cs' v' ((w1.setCell ⟨h + 2, 0, none⟩ (.slice (some ⟨g, 0, none⟩) (cs.length + 1) cp)).setCell ⟨h + 1, 0, none⟩ (.int .i64 (u : Int))))) := by
          intro g cp w1 ho hg
          rw [← hW3] at hg
          have r0 : Boxed W3 w.heap.size 3 (.int .i64 (a2 : Int)) := by rw [hW3]; exact HB0.out.set _
          have r1 : Boxed W3 (h + 1) 3 (.int .i64 (u : Int)) := by rw [hW3]; exact boxed_setO HB1.out (by omega) _
          have r2 : Boxed W3 (h + 2) 22 v := by rw [hW3]; exact boxed_setO HB2.out (by omega) _
          have rr : Rw W3 h 68 441 (wayF 20 0) := by rw [hW3]; exact HBR.out.setOther (by show w.heap.size ≠ h; omega) _
          have ro : Ow W3 (h + 4) 3 v cs := by rw [hW3]; exact HOV.out
          have rk : KeepsOthers W W3 := by rw [hW3]; exact HBK.out.trans (KeepsOthers.setCell _ _ _)
          have rb : Below w.heap.size w W3 := by rw [hW3]; exact HBW.out.setCell (p := ⟨w.heap.size, 0, none⟩) (Nat.le_refl _) _
          have rz : h + 4 ≤ W3.heap.size := by rw [hW3]; exact HZ2.out
          have hne : ∀ j, j < h + 4 → some j ≠ v.ownBlock := fun j hj e => by have := (ro.lt e.symm).1; omega
          have s0 := r0.kept hg (hne _ (by omega))
          have s1 := r1.kept hg (hne _ (by omega))
          have s2 := r2.kept hg (hne _ (by omega))
          have sr : Rw w1 h 68 441 (wayF 20 0) := rr.of_block (hg.block h rr.lt (hne _ (by omega)))
          have sk := rk.trans (grown_others ro hg)
          have sb := rb.grown hg (by omega) (fun j e => by have := (ro.lt e).1; omega)
          have sz := Nat.le_trans rz hg.size
          refine ⟨s2.cell, s2.frozen, s1.cell, s1.frozen, (sk.trans (KeepsOthers.setCell _ _ _)).trans (KeepsOthers.setCell _ _ _), u, a2, cs ++ [(q : Int)], .slice (some ⟨g, 0, none⟩) (cs.length + 1) cp, ?_, HS.out.2, HUK.out, ?_, Nat.le_trans sz (Nat.le_trans (KeepsWalks.setCell _ _ _).size (KeepsWalks.setCell _ _ _).size), ?_, ?_, ?_, ?_, ?_, ?_⟩
          · rw [HI.out.eq, HS.out.1, List.append_assoc]; rfl
          · rw [List.length_append, List.length_singleton]; have := HLN.out; omega
          · exact (sb.setCell (p := ⟨h + 2, 0, none⟩) (by show w.heap.size ≤ h + 2; omega) _).setCell (p := ⟨h + 1, 0, none⟩) (by show w.heap.size ≤ h + 1; omega) _
          · exact boxed_setO (C := h + 1) (boxed_setO (C := h + 2) s0 (by omega) _) (by omega) _
          · exact (sr.setOther (by show h + 2 ≠ h; omega) _).setOther (by show h + 1 ≠ h; omega) _
          · exact (boxed_setO (C := h + 2) s1 (by omega) _).set _
          · exact boxed_setO (C := h + 1) (s2.set _) (by omega) _
          · exact Ow.setBelow (Ow.setBelow ho (a := ⟨h + 2, 0, none⟩) (by show h + 2 < h + 4; omega) _) (a := ⟨h + 1, 0, none⟩) (by show h + 1 < h + 4; omega) _
        clear hW3 huk hk hsize
        refine wpIn_block (wpIn_seq ?_)
        refine wpIn_region_round (fun V => V.cell? ⟨h + 1, 0, none⟩ = some (.int .i64 (u : Int)) ∧ V.cell? ⟨h, k * 21 + u, none⟩ = some (.int .i64 (E : Int))) (by kernel_rfl) (by rfl) (fun ⟨_, _, h⟩ => by cases h.1) ⟨c1, cE⟩ (fun hHeld => ?_)
        simp only [List.length_cons, List.length_nil, Nat.reduceAdd, Array.replicate_succ, Array.replicate_zero, List.push_toArray, List.nil_append, List.cons_append]
        refine wpAnyH_takeX (i := 0) (v := ?_) (by simp only [↓List.getElem?_toArray, ↓List.getElem?_cons_zero]; rfl) (by kernel_rfl) (by kernel_rfl) (by kernel_rfl) (by assumption) ?_ ?_ ?_
        rotate_left
        · exact fun _ _ _ h => (nomatch h.1)
        · exact Or.inl ⟨by rfl, by (intro V hV; (try dsimp only at hV); go_simp; try with_reducible rfl)⟩
        simp only [Act.put, List.setIfInBounds_toArray, List.set_cons_zero, List.set_cons_succ]
        refine wpAnyH_takeX (i := 1) (v := ?_) (by simp only [↓List.getElem?_toArray, ↓List.getElem?_cons_succ, ↓List.getElem?_cons_zero]; rfl) (by kernel_rfl) (by kernel_rfl) (by kernel_rfl) (by assumption) ?_ ?_ ?_
        rotate_left
        · exact fun _ _ _ h => (nomatch h.1)
        · exact Or.inl ⟨by rfl, by (intro V hV; (try dsimp only at hV); go_simp; try with_reducible rfl)⟩
        simp only [Act.put, List.setIfInBounds_toArray, List.set_cons_zero, List.set_cons_succ]
        refine wpAnyH_takeX (i := 2) (v := ?_) (by simp only [↓List.getElem?_toArray, ↓List.getElem?_cons_succ, ↓List.getElem?_cons_zero]; rfl) (by kernel_rfl) (by kernel_rfl) (by kernel_rfl) (by assumption) ?_ ?_ ?_
        rotate_left
        · exact fun _ _ _ h => (nomatch h.1)
        · exact Or.inl ⟨by rfl, by (intro V hV; (try dsimp only at hV); go_simp; try with_reducible rfl)⟩
        simp only [Act.put, List.setIfInBounds_toArray, List.set_cons_zero, List.set_cons_succ]
        refine wpAnyH_takeX (i := 3) (v := ?_) (by simp only [↓List.getElem?_toArray, ↓List.getElem?_cons_succ, ↓List.getElem?_cons_zero]; rfl) (by kernel_rfl) (by kernel_rfl) (by kernel_rfl) (by assumption) ?_ ?_ ?_
        rotate_left
        · exact fun _ _ _ h => (nomatch h.1)
        · exact Or.inl ⟨by rfl, by (intro V hV; (try dsimp only at hV); go_simp; try with_reducible rfl)⟩
        simp only [Act.put, List.setIfInBounds_toArray, List.set_cons_zero, List.set_cons_succ]
        refine wpAnyH_takeX (i := 4) (v := ?_) (by simp only [↓List.getElem?_toArray, ↓List.getElem?_cons_succ, ↓List.getElem?_cons_zero]; rfl) (by kernel_rfl) (by kernel_rfl) (by kernel_rfl) (by assumption) ?_ ?_ ?_
        rotate_left
        · exact fun _ _ _ h => (nomatch h.1)
        · exact Or.inl ⟨by rfl, by (intro V hV; (try dsimp only at hV); go_simp; try with_reducible rfl)⟩
        simp only [Act.put, List.setIfInBounds_toArray, List.set_cons_zero, List.set_cons_succ]
        refine wpAnyH_takeX (i := 5) (v := ?_) (by simp only [↓List.getElem?_toArray, ↓List.getElem?_cons_succ, ↓List.getElem?_cons_zero]; rfl) (by kernel_rfl) (by kernel_rfl) (by kernel_rfl) (by assumption) ?_ ?_ ?_
        rotate_left
        · exact fun _ _ _ h => (nomatch h.1)
        · exact Or.inl ⟨by rfl, by (intro V hV; (try dsimp only at hV); go_simp; try with_reducible rfl)⟩
        simp only [Act.put, List.setIfInBounds_toArray, List.set_cons_zero, List.set_cons_succ]
        refine wpAnyH_takeX (i := 6) (v := ?_) (by simp only [↓List.getElem?_toArray, ↓List.getElem?_cons_succ, ↓List.getElem?_cons_zero]; rfl) (by kernel_rfl) (by kernel_rfl) (by kernel_rfl) (by assumption) ?_ ?_ ?_
        rotate_left
        · exact fun _ _ _ h => (nomatch h.1)
        · exact Or.inl ⟨by rfl, by (intro V hV; (try dsimp only at hV); go_simp; try with_reducible rfl)⟩
        simp only [Act.put, List.setIfInBounds_toArray, List.set_cons_zero, List.set_cons_succ]
        refine wpAnyH_done (by kernel_rfl) ?_ _
        simp only [Exit.then]
        refine wpIn_seq ?_
        refine wpIn_region_round (fun V => V.cell? ⟨w.heap.size, 0, none⟩ = some (.int .i64 (a : Int)) ∧ V.cell? ⟨h + 1, 0, none⟩ = some (.int .i64 (u : Int))) (by kernel_rfl) (by rfl) (fun ⟨_, _, h⟩ => by cases h.1) ⟨c0, c1⟩ (fun hHeld => ?_)
        simp only [List.length_cons, List.length_nil, Nat.reduceAdd, Array.replicate_succ, Array.replicate_zero, List.push_toArray, List.nil_append, List.cons_append]
        have d2 := D2.out
        have d3 := D3.out
        have d4 := D6.out
        have d5 := D5.out
        refine wpAnyH_takeX (i := 0) (v := ?_) (by simp only [↓List.getElem?_toArray, ↓List.getElem?_cons_zero]; rfl) (by kernel_rfl) (by kernel_rfl) (by kernel_rfl) (by assumption) ?_ ?_ ?_
        rotate_left
        · exact fun _ _ _ h => (nomatch h.1)
        · exact Or.inl ⟨by rfl, by (intro V hV; (try dsimp only at hV); go_simp; try with_reducible rfl)⟩
        simp only [Act.put, List.setIfInBounds_toArray, List.set_cons_zero, List.set_cons_succ]
        refine wpAnyH_takeX (i := 1) (v := ?_) (by simp only [↓List.getElem?_toArray, ↓List.getElem?_cons_succ, ↓List.getElem?_cons_zero]; rfl) (by kernel_rfl) (by kernel_rfl) (by kernel_rfl) (by assumption) ?_ ?_ ?_
        rotate_left
        · exact fun _ _ _ h => (nomatch h.1)
        · exact Or.inl ⟨by rfl, by (intro V hV; (try dsimp only at hV); go_simp; try with_reducible rfl)⟩
        simp only [Act.put, List.setIfInBounds_toArray, List.set_cons_zero, List.set_cons_succ]
        refine wpAnyH_takeX (i := 2) (v := ?_) (by simp only [↓List.getElem?_toArray, ↓List.getElem?_cons_succ, ↓List.getElem?_cons_zero]; rfl) (by kernel_rfl) (by kernel_rfl) (by kernel_rfl) (by assumption) ?_ ?_ ?_
        rotate_left
        · exact fun _ _ _ h => (nomatch h.1)
        · exact Or.inl ⟨by rfl, by (intro V hV; (try dsimp only at hV); go_simp; try with_reducible rfl)⟩
        simp only [Act.put, List.setIfInBounds_toArray, List.set_cons_zero, List.set_cons_succ]
        refine wpAnyH_takeX (i := 3) (v := ?_) (by simp only [↓List.getElem?_toArray, ↓List.getElem?_cons_succ, ↓List.getElem?_cons_zero]; rfl) (by kernel_rfl) (by kernel_rfl) (by kernel_rfl) (by assumption) ?_ ?_ ?_
        rotate_left
        · exact fun _ _ _ h => (nomatch h.1)
        · exact Or.inl ⟨by rfl, by (intro V hV; (try dsimp only at hV); go_simp; try with_reducible rfl)⟩
        simp only [Act.put, List.setIfInBounds_toArray, List.set_cons_zero, List.set_cons_succ]
        refine wpAnyH_takeX (i := 4) (v := ?_) (by simp only [↓List.getElem?_toArray, ↓List.getElem?_cons_succ, ↓List.getElem?_cons_zero]; rfl) (by kernel_rfl) (by kernel_rfl) (by kernel_rfl) (by assumption) ?_ ?_ ?_
        rotate_left
        · exact fun _ _ _ h => (nomatch h.1)
        · exact Or.inl ⟨by rfl, by (intro V hV; (try dsimp only at hV); go_simp; try with_reducible rfl)⟩
        simp only [Act.put, List.setIfInBounds_toArray, List.set_cons_zero, List.set_cons_succ]
        refine wpAnyH_takeX (i := 5) (v := ?_) (by simp only [↓List.getElem?_toArray, ↓List.getElem?_cons_succ, ↓List.getElem?_cons_zero]; rfl) (by kernel_rfl) (by kernel_rfl) (by kernel_rfl) (by assumption) ?_ ?_ ?_
        rotate_left
        · exact fun _ _ _ h => (nomatch h.1)
        · exact Or.inl ⟨by rfl, by (intro V hV; (try dsimp only at hV); go_simp; try with_reducible rfl)⟩
        simp only [Act.put, List.setIfInBounds_toArray, List.set_cons_zero, List.set_cons_succ]
        refine wpAnyH_done (by kernel_rfl) ?_ _
        simp only [Exit.then]
        clear d2 d3 d4 d5 c0 c1 cE
        rw [← HW2.out]
        have c0 := HB0.out.cell
        have f0 := HB0.out.frozen
        have c2 := HB2.out.cell
        have m2 := HM2.out
        have v1 := V1.out
        have v2 := V2.out
        gi_wp2_with (gi_at_builtin; refine pushIn_law_at _ rfl _ _ 22 rfl (h + 4) 3 i0 Try.underlying22 HI0.out v cs (q : Int) W2.heap.size (by simp) rfl rfl HOV.out (by have := HLC.out; omega) HZ2.out ?_; intro g cp w1 hown' hgrow; have HN := Lib.hid (HNX.out g cp w1 hown' hgrow); have c3 := HN.out.1; have f3 := HN.out.2.1; have c4 := HN.out.2.2.1; have f4 := HN.out.2.2.2.1; clear hown' hgrow)
        exact ⟨trivial, HN.out.2.2.2.2⟩
      · obtain rfl : q = u := by omega
        rw [Nat.max_eq_right (Nat.le_succ q)] at hs
        have huE := hqE
        have HS := Lib.hid hs
        have HM2 : Hid (max (q : Int) ((q : Int) + 1) = (q : Int) + 1) := by rw [Hid]; omega
        have HUK : Hid (q + 1 + k ≤ n) := by rw [Hid]; omega
        have V1 : Hid (IntKind.i64.wrap ((q : Int) * (E : Int)) = ((q * E : Nat) : Int)) := by rw [Hid, ← Int.natCast_mul]; exact IntWalk.i64_in _ (by omega)
        have V2 : Hid (IntKind.i64.wrap ((a : Int) - ((q * E : Nat) : Int)) = (a2 : Int)) := by rw [Hid, show (a : Int) - ((q * E : Nat) : Int) = (a2 : Int) by omega]; exact IntWalk.i64_in _ (by omega)
        clear hstep hqE hqE2 hs ha2 huE hEb hEp hab hqu hqu2
        generalize q * E = p at V1 V2
        obtain ⟨W3, hW3⟩ : ∃ W3, W3 = W2.setCell ⟨w.heap.size, 0, none⟩ (.int .i64 (a2 : Int)) := ⟨_, rfl⟩
        have HZ2 : Hid (h + 4 ≤ (W2.setCell ⟨w.heap.size, 0, none⟩ (.int .i64 (a2 : Int))).heap.size) := Nat.le_trans HBZ.out (KeepsWalks.setCell W2 _ _).size
        have HOV : Hid (Ow (W2.setCell ⟨w.heap.size, 0, none⟩ (.int .i64 (a2 : Int))) (h + 4) 3 v cs) := Ow.setBelow HBO.out (a := ⟨w.heap.size, 0, none⟩) (by show w.heap.size < h + 4; omega) _
        have HNX : Hid (∀ g cp w1, Ow w1 (h + 4) 3 (.slice (some ⟨g, 0, none⟩) (cs.length + 1) cp) (cs ++ [(q : Int)]) → (W2.setCell ⟨w.heap.size, 0, none⟩ (.int .i64 (a2 : Int))).grownBy w1 v.ownBlock →
            w1.cell? ⟨h + 2, 0, none⟩ = some v ∧ w1.frozen? ⟨h + 2, 0, none⟩ = false ∧ w1.cell? ⟨h + 1, 0, none⟩ = some (.int .i64 (q : Int)) ∧ w1.frozen? ⟨h + 1, 0, none⟩ = false ∧
            (KeepsOthers W ((w1.setCell ⟨h + 2, 0, none⟩ (.slice (some ⟨g, 0, none⟩) (cs.length + 1) cp)).setCell ⟨h + 1, 0, none⟩ (.int .i64 ((q : Int) + 1))) ∧ ∃ u' a' cs' v', GrpI w h n a0 k u' a' cs' v' ((w1.setCell ⟨h + 2, 0, none⟩ (.slice (some ⟨g, 0, none⟩) (cs.length + 1) cp)).setCell ⟨h + 1, 0, none⟩ (.int .i64 ((q : Int) + 1))))) := by
          intro g cp w1 ho hg
          rw [← hW3] at hg
          have r0 : Boxed W3 w.heap.size 3 (.int .i64 (a2 : Int)) := by rw [hW3]; exact HB0.out.set _
          have r1 : Boxed W3 (h + 1) 3 (.int .i64 (q : Int)) := by rw [hW3]; exact boxed_setO HB1.out (by omega) _
          have r2 : Boxed W3 (h + 2) 22 v := by rw [hW3]; exact boxed_setO HB2.out (by omega) _
          have rr : Rw W3 h 68 441 (wayF 20 0) := by rw [hW3]; exact HBR.out.setOther (by show w.heap.size ≠ h; omega) _
          have ro : Ow W3 (h + 4) 3 v cs := by rw [hW3]; exact HOV.out
          have rk : KeepsOthers W W3 := by rw [hW3]; exact HBK.out.trans (KeepsOthers.setCell _ _ _)
          have rb : Below w.heap.size w W3 := by rw [hW3]; exact HBW.out.setCell (p := ⟨w.heap.size, 0, none⟩) (Nat.le_refl _) _
          have rz : h + 4 ≤ W3.heap.size := by rw [hW3]; exact HZ2.out
          have hne : ∀ j, j < h + 4 → some j ≠ v.ownBlock := fun j hj e => by have := (ro.lt e.symm).1; omega
          have s0 := r0.kept hg (hne _ (by omega))
          have s1 := r1.kept hg (hne _ (by omega))
          have s2 := r2.kept hg (hne _ (by omega))
          have sr : Rw w1 h 68 441 (wayF 20 0) := rr.of_block (hg.block h rr.lt (hne _ (by omega)))
          have sk := rk.trans (grown_others ro hg)
          have sb := rb.grown hg (by omega) (fun j e => by have := (ro.lt e).1; omega)
          have sz := Nat.le_trans rz hg.size
          refine ⟨s2.cell, s2.frozen, s1.cell, s1.frozen, (sk.trans (KeepsOthers.setCell _ _ _)).trans (KeepsOthers.setCell _ _ _), q + 1, a2, cs ++ [(q : Int)], .slice (some ⟨g, 0, none⟩) (cs.length + 1) cp, ?_, HS.out.2, HUK.out, ?_, Nat.le_trans sz (Nat.le_trans (KeepsWalks.setCell _ _ _).size (KeepsWalks.setCell _ _ _).size), ?_, ?_, ?_, ?_, ?_, ?_⟩
          · rw [HI.out.eq, HS.out.1, List.append_assoc]; rfl
          · rw [List.length_append, List.length_singleton]; have := HLN.out; omega
          · exact (sb.setCell (p := ⟨h + 2, 0, none⟩) (by show w.heap.size ≤ h + 2; omega) _).setCell (p := ⟨h + 1, 0, none⟩) (by show w.heap.size ≤ h + 1; omega) _
          · exact boxed_setO (C := h + 1) (boxed_setO (C := h + 2) s0 (by omega) _) (by omega) _
          · exact (sr.setOther (by show h + 2 ≠ h; omega) _).setOther (by show h + 1 ≠ h; omega) _
          · exact (boxed_setO (C := h + 2) s1 (by omega) _).set _
          · exact boxed_setO (C := h + 1) (s2.set _) (by omega) _
          · exact Ow.setBelow (Ow.setBelow ho (a := ⟨h + 2, 0, none⟩) (by show h + 2 < h + 4; omega) _) (a := ⟨h + 1, 0, none⟩) (by show h + 1 < h + 4; omega) _
        clear hW3 huk hk hsize
        refine wpIn_block (wpIn_seq ?_)
        refine wpIn_region_round (fun V => V.cell? ⟨h + 1, 0, none⟩ = some (.int .i64 (q : Int)) ∧ V.cell? ⟨h, k * 21 + q, none⟩ = some (.int .i64 (E : Int))) (by kernel_rfl) (by rfl) (fun ⟨_, _, h⟩ => by cases h.1) ⟨c1, cE⟩ (fun hHeld => ?_)
        simp only [List.length_cons, List.length_nil, Nat.reduceAdd, Array.replicate_succ, Array.replicate_zero, List.push_toArray, List.nil_append, List.cons_append]
        refine wpAnyH_takeX (i := 0) (v := ?_) (by simp only [↓List.getElem?_toArray, ↓List.getElem?_cons_zero]; rfl) (by kernel_rfl) (by kernel_rfl) (by kernel_rfl) (by assumption) ?_ ?_ ?_
        rotate_left
        · exact fun _ _ _ h => (nomatch h.1)
        · exact Or.inl ⟨by rfl, by (intro V hV; (try dsimp only at hV); go_simp; try with_reducible rfl)⟩
        simp only [Act.put, List.setIfInBounds_toArray, List.set_cons_zero, List.set_cons_succ]
        refine wpAnyH_takeX (i := 1) (v := ?_) (by simp only [↓List.getElem?_toArray, ↓List.getElem?_cons_succ, ↓List.getElem?_cons_zero]; rfl) (by kernel_rfl) (by kernel_rfl) (by kernel_rfl) (by assumption) ?_ ?_ ?_
        rotate_left
        · exact fun _ _ _ h => (nomatch h.1)
        · exact Or.inl ⟨by rfl, by (intro V hV; (try dsimp only at hV); go_simp; try with_reducible rfl)⟩
        simp only [Act.put, List.setIfInBounds_toArray, List.set_cons_zero, List.set_cons_succ]
        refine wpAnyH_takeX (i := 2) (v := ?_) (by simp only [↓List.getElem?_toArray, ↓List.getElem?_cons_succ, ↓List.getElem?_cons_zero]; rfl) (by kernel_rfl) (by kernel_rfl) (by kernel_rfl) (by assumption) ?_ ?_ ?_
        rotate_left
        · exact fun _ _ _ h => (nomatch h.1)
        · exact Or.inl ⟨by rfl, by (intro V hV; (try dsimp only at hV); go_simp; try with_reducible rfl)⟩
        simp only [Act.put, List.setIfInBounds_toArray, List.set_cons_zero, List.set_cons_succ]
        refine wpAnyH_takeX (i := 3) (v := ?_) (by simp only [↓List.getElem?_toArray, ↓List.getElem?_cons_succ, ↓List.getElem?_cons_zero]; rfl) (by kernel_rfl) (by kernel_rfl) (by kernel_rfl) (by assumption) ?_ ?_ ?_
        rotate_left
        · exact fun _ _ _ h => (nomatch h.1)
        · exact Or.inl ⟨by rfl, by (intro V hV; (try dsimp only at hV); go_simp; try with_reducible rfl)⟩
        simp only [Act.put, List.setIfInBounds_toArray, List.set_cons_zero, List.set_cons_succ]
        refine wpAnyH_takeX (i := 4) (v := ?_) (by simp only [↓List.getElem?_toArray, ↓List.getElem?_cons_succ, ↓List.getElem?_cons_zero]; rfl) (by kernel_rfl) (by kernel_rfl) (by kernel_rfl) (by assumption) ?_ ?_ ?_
        rotate_left
        · exact fun _ _ _ h => (nomatch h.1)
        · exact Or.inl ⟨by rfl, by (intro V hV; (try dsimp only at hV); go_simp; try with_reducible rfl)⟩
        simp only [Act.put, List.setIfInBounds_toArray, List.set_cons_zero, List.set_cons_succ]
        refine wpAnyH_takeX (i := 5) (v := ?_) (by simp only [↓List.getElem?_toArray, ↓List.getElem?_cons_succ, ↓List.getElem?_cons_zero]; rfl) (by kernel_rfl) (by kernel_rfl) (by kernel_rfl) (by assumption) ?_ ?_ ?_
        rotate_left
        · exact fun _ _ _ h => (nomatch h.1)
        · exact Or.inl ⟨by rfl, by (intro V hV; (try dsimp only at hV); go_simp; try with_reducible rfl)⟩
        simp only [Act.put, List.setIfInBounds_toArray, List.set_cons_zero, List.set_cons_succ]
        refine wpAnyH_takeX (i := 6) (v := ?_) (by simp only [↓List.getElem?_toArray, ↓List.getElem?_cons_succ, ↓List.getElem?_cons_zero]; rfl) (by kernel_rfl) (by kernel_rfl) (by kernel_rfl) (by assumption) ?_ ?_ ?_
        rotate_left
        · exact fun _ _ _ h => (nomatch h.1)
        · exact Or.inl ⟨by rfl, by (intro V hV; (try dsimp only at hV); go_simp; try with_reducible rfl)⟩
        simp only [Act.put, List.setIfInBounds_toArray, List.set_cons_zero, List.set_cons_succ]
        refine wpAnyH_done (by kernel_rfl) ?_ _
        simp only [Exit.then]
        refine wpIn_seq ?_
        refine wpIn_region_round (fun V => V.cell? ⟨w.heap.size, 0, none⟩ = some (.int .i64 (a : Int)) ∧ V.cell? ⟨h + 1, 0, none⟩ = some (.int .i64 (q : Int))) (by kernel_rfl) (by rfl) (fun ⟨_, _, h⟩ => by cases h.1) ⟨c0, c1⟩ (fun hHeld => ?_)
        simp only [List.length_cons, List.length_nil, Nat.reduceAdd, Array.replicate_succ, Array.replicate_zero, List.push_toArray, List.nil_append, List.cons_append]
        have d2 := D2.out
        have d3 := D3.out
        have d4 := D6.out
        have d5 := D5.out
        refine wpAnyH_takeX (i := 0) (v := ?_) (by simp only [↓List.getElem?_toArray, ↓List.getElem?_cons_zero]; rfl) (by kernel_rfl) (by kernel_rfl) (by kernel_rfl) (by assumption) ?_ ?_ ?_
        rotate_left
        · exact fun _ _ _ h => (nomatch h.1)
        · exact Or.inl ⟨by rfl, by (intro V hV; (try dsimp only at hV); go_simp; try with_reducible rfl)⟩
        simp only [Act.put, List.setIfInBounds_toArray, List.set_cons_zero, List.set_cons_succ]
        refine wpAnyH_takeX (i := 1) (v := ?_) (by simp only [↓List.getElem?_toArray, ↓List.getElem?_cons_succ, ↓List.getElem?_cons_zero]; rfl) (by kernel_rfl) (by kernel_rfl) (by kernel_rfl) (by assumption) ?_ ?_ ?_
        rotate_left
        · exact fun _ _ _ h => (nomatch h.1)
        · exact Or.inl ⟨by rfl, by (intro V hV; (try dsimp only at hV); go_simp; try with_reducible rfl)⟩
        simp only [Act.put, List.setIfInBounds_toArray, List.set_cons_zero, List.set_cons_succ]
        refine wpAnyH_takeX (i := 2) (v := ?_) (by simp only [↓List.getElem?_toArray, ↓List.getElem?_cons_succ, ↓List.getElem?_cons_zero]; rfl) (by kernel_rfl) (by kernel_rfl) (by kernel_rfl) (by assumption) ?_ ?_ ?_
        rotate_left
        · exact fun _ _ _ h => (nomatch h.1)
        · exact Or.inl ⟨by rfl, by (intro V hV; (try dsimp only at hV); go_simp; try with_reducible rfl)⟩
        simp only [Act.put, List.setIfInBounds_toArray, List.set_cons_zero, List.set_cons_succ]
        refine wpAnyH_takeX (i := 3) (v := ?_) (by simp only [↓List.getElem?_toArray, ↓List.getElem?_cons_succ, ↓List.getElem?_cons_zero]; rfl) (by kernel_rfl) (by kernel_rfl) (by kernel_rfl) (by assumption) ?_ ?_ ?_
        rotate_left
        · exact fun _ _ _ h => (nomatch h.1)
        · exact Or.inl ⟨by rfl, by (intro V hV; (try dsimp only at hV); go_simp; try with_reducible rfl)⟩
        simp only [Act.put, List.setIfInBounds_toArray, List.set_cons_zero, List.set_cons_succ]
        refine wpAnyH_takeX (i := 4) (v := ?_) (by simp only [↓List.getElem?_toArray, ↓List.getElem?_cons_succ, ↓List.getElem?_cons_zero]; rfl) (by kernel_rfl) (by kernel_rfl) (by kernel_rfl) (by assumption) ?_ ?_ ?_
        rotate_left
        · exact fun _ _ _ h => (nomatch h.1)
        · exact Or.inl ⟨by rfl, by (intro V hV; (try dsimp only at hV); go_simp; try with_reducible rfl)⟩
        simp only [Act.put, List.setIfInBounds_toArray, List.set_cons_zero, List.set_cons_succ]
        refine wpAnyH_takeX (i := 5) (v := ?_) (by simp only [↓List.getElem?_toArray, ↓List.getElem?_cons_succ, ↓List.getElem?_cons_zero]; rfl) (by kernel_rfl) (by kernel_rfl) (by kernel_rfl) (by assumption) ?_ ?_ ?_
        rotate_left
        · exact fun _ _ _ h => (nomatch h.1)
        · exact Or.inl ⟨by rfl, by (intro V hV; (try dsimp only at hV); go_simp; try with_reducible rfl)⟩
        simp only [Act.put, List.setIfInBounds_toArray, List.set_cons_zero, List.set_cons_succ]
        refine wpAnyH_done (by kernel_rfl) ?_ _
        simp only [Exit.then]
        clear d2 d3 d4 d5 c0 c1 cE
        rw [← HW2.out]
        have c0 := HB0.out.cell
        have f0 := HB0.out.frozen
        have c2 := HB2.out.cell
        have m2 := HM2.out
        have v1 := V1.out
        have v2 := V2.out
        gi_wp2_with (gi_at_builtin; refine pushIn_law_at _ rfl _ _ 22 rfl (h + 4) 3 i0 Try.underlying22 HI0.out v cs (q : Int) W2.heap.size (by simp) rfl rfl HOV.out (by have := HLC.out; omega) HZ2.out ?_; intro g cp w1 hown' hgrow; have HN := Lib.hid (HNX.out g cp w1 hown' hgrow); have c3 := HN.out.1; have f3 := HN.out.2.1; have c4 := HN.out.2.2.1; have f4 := HN.out.2.2.2.1; clear hown' hgrow)
        exact ⟨trivial, HN.out.2.2.2.2⟩
  case done =>
    clear q0 q1 q2 q3 qr hbw
    rintro D W hD ⟨u, a, cs, v, hi⟩ hd
    have HI := Lib.hid hi
    have c2 := hi.b2.cell
    have HD : Hid (w.heap.size ≤ D) := by rw [Hid]; omega
    have HDD := Lib.hid hd
    have HEQ : Hid (gF n 0 a0 = cs) := by rw [Hid, hi.eq, gF, List.append_nil]
    clear hi hd
    go_wp2
    refine ⟨by simp, .inl ⟨_, _, rfl, run_takeDeferred HDD.out, ?_⟩⟩
    refine ⟨_, results_tmp rfl _ _ _, ?_⟩
    rw [HRR.out]
    refine ⟨⟨_, rfl, ?_⟩, HI.out.below.trans (below_putO _ HD.out _)⟩
    rw [HEQ.out]
    exact Ow.base (ownsRow_putObj HI.out.ow _ HDD.out rfl) (by omega)
end Go.Proofs.Ytfeohcknopdamaa
