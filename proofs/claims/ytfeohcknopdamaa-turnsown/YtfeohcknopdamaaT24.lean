import Derived.Test.YtfeohcknopdamaaT23
/- Layer 10: isSetting; slices.Backward and its caller. -/
namespace Go.Proofs.Ytfeohcknopdamaa
open Go.RowKit Go.Shelf
set_option linter.unusedVariables false

theorem isSetting_any (zs xs : List Int) (A B : Option Addr) (n c m d : Nat) (w : World) (hz : Sl w A n c zs) (hx : Sl w B m d xs) (hs : sizesB zs = true) :
    Calls Try.prog 74 #[.slice A n c, .slice B m d] w fun e w' => e = .returned (.bool (settB zs xs)) ∧ w = w' := by
  have hbig := hx.big
  have hbig2 := hz.big
  have HL : Hid (zs.length = n) := hz.len
  have HZ := Lib.hid hz
  have HX := Lib.hid hx
  have HA : Hid (allD zs = true) := by
    rw [sizesB, Bool.and_eq_true] at hs; exact hs.2
  have hdef : settB zs xs = (decide (m = n) && allB (fun j => inB (atI zs j) (atI xs j)) m) := by rw [settB, hx.len, hz.len]
  clear hz hx hs
  by_cases hnm : m = n
  · subst hnm
    rw [decide_eq_true rfl, Bool.true_and] at hdef
    rw [hdef]
    have HBAD : Hid (∀ k, k < m → inB (atI zs k) (atI xs k) = false → false = allB (fun j => inB (atI zs j) (atI xs j)) m) := fun k hk h => allB_bad (p := fun j => inB (atI zs j) (atI xs j)) hk h
    have HGOOD : Hid ((∀ k, k < m → inB (atI zs k) (atI xs k) = true) → true = allB (fun j => inB (atI zs j) (atI xs j)) m) := fun h => allB_good (p := fun j => inB (atI zs j) (atI xs j)) h
    clear hdef
    generalize allB (fun j => inB (atI zs j) (atI xs j)) m = res at *
    have hb : ((m : Int) != m) = false := by simp
    go_enter Try.func74, Try.ntmps74
    go_wp2
    go_loopw [14] (fun i w' => ∃ k : Nat, k ≤ m ∧ i = .int .i64 (k : Int) ∧ Hid (∀ j, j < k → inB (atI zs j) (atI xs j) = true) ∧ w = w') (fun i _ => m - (intOf i).toNat)
    case atStart => exact ⟨0, Nat.zero_le _, by go_num, fun j hj => absurd hj (Nat.not_lt_zero _), rfl⟩
    case round =>
      obtain ⟨k, hk, rfl, HK, rfl⟩ := hrel
      by_cases hlt : k < m
      · have i1 : (k : Int) < (m : Int) := by omega
        have HBK := Lib.hid (HBAD.out k hlt)
        have HKS : Hid (inB (atI zs k) (atI xs k) = true → ∀ j, j < k + 1 → inB (atI zs j) (atI xs j) = true) := fun h j hj => by
          by_cases e : j = k
          · rw [e]; exact h
          · exact HK.out j (by omega)
        obtain ⟨q, hq, hq1, hq2⟩ := allD_at HA.out (j := k) (by rw [HL.out]; exact hlt)
        obtain ⟨b1, o1, rfl, c1⟩ := HZ.out.at_ hlt
        obtain ⟨b2, o2, rfl, c2⟩ := HX.out.at_ hlt
        rw [show zs[k]?.getD 0 = atI zs k from rfl, hq] at c1
        rw [show xs[k]?.getD 0 = atI xs k from rfl] at c2
        rw [hq] at HBK HKS
        clear hq
        generalize atI xs k = x at *
        have HB := Lib.hid (fun w => isBetween_any x 0 ((q : Int) - 1) w)
        have hin : (decide (0 ≤ x) && decide (x ≤ (q : Int) - 1)) = inB (q : Int) x := by
          unfold inB
          rw [Bool.eq_iff_iff]
          simp only [Bool.and_eq_true, decide_eq_true_iff]
          omega
        rw [hin] at HB
        have v1 : IntKind.i64.wrap ((q : Int) - 1) = (q : Int) - 1 := IntWalk.i64_in _ (by omega)
        clear hin
        rcases hl : inB (q : Int) x with _ | _
        · have HY := Lib.hid (HBK.out hl)
          rw [hl] at HB
          clear hl HBK HKS
          go_wp2_with (go_at_call 55; refine (HB.out _).mono ?_; rintro e w1 ⟨rfl, rfl⟩)
          go_ret
          exact ⟨bend HY.out, rfl⟩
        · have HY := Lib.hid (HKS.out hl)
          rw [hl] at HB
          clear hl HBK HKS
          go_wp2_with (go_at_call 55; refine (HB.out _).mono ?_; rintro e w1 ⟨rfl, rfl⟩)
          exact ⟨⟨k + 1, by omega, by go_num, HY.out, trivial⟩, by simp [intOf]; omega⟩
      · have hkn : k = m := by omega
        have HY := Lib.hid (HGOOD.out (by rw [← hkn]; exact HK.out))
        have i1 : ¬ (k : Int) < (m : Int) := by omega
        clear hkn
        go_wp2
        go_ret
        exact ⟨bend HY.out, rfl⟩
  · rw [decide_eq_false hnm, Bool.false_and] at hdef
    rw [hdef]
    have hb : ((m : Int) != n) = true := by simp; omega
    clear hdef
    go_enter Try.func74, Try.ntmps74
    go_wp2
    go_ret
    exact ⟨rfl, rfl⟩
theorem backward_any (A : Option Addr) (n c : Nat) (w : World) : Calls Try.prog 87 #[.slice A n c] w fun e w' => e = .returned (.func (.func 94) #[] #[.pointer (some ⟨w.heap.size, 0, none⟩)]) ∧ w' = w.alloc (.cells #[.slice A n c] 22) := by
  go_enter Try.func87, Try.ntmps87
  go_wp2
  go_ret
  exact ⟨rfl, rfl⟩
/-- What a range over slices.Backward reads. -/
def RdB (s N : Nat) (A : Option Addr) (j : Nat) : Prop := j = s ∨ ∃ q, A = some q ∧ 0 < N ∧ j = q.block
/-- The caller of Backward: k elements are left. -/
theorem back_law {n : Nat} {g : Operand} {p1 p2 : Tmp} {assign body : Code} {Q : Exit → Act → World → Prop} {a : Act} {w : World} (s N c : Nat) (zs : List Int) (A : Option Addr) (hsl : Sl w A N c zs)
    (hg : a.eval g = .func (.func 94) #[] #[.pointer (some ⟨s, 0, none⟩)]) (hs : w.cell? ⟨s, 0, none⟩ = some (.slice A N c))
    (I : Nat → World → Prop) (hI : OwnFrom w.heap.size I) (h0 : I N w) (a₁ : Nat → Act)
    (hassign : ∀ (l : Nat) (x : Nat) (W : World) (K : Act → World → Prop), K (a₁ x) W →
      assign.wpIn (Fence.wide.inRound l) n Try.prog (Exit.then K (fun _ _ _ => False)) { tmps := (a.tmps.setIfInBounds p1 (.int .i64 (x : Int))).setIfInBounds p2 (.int .i64 (zs[x]?.getD 0)), defers := [] } W)
    (hbody : ∀ (l : Nat) (k : Nat) (W : World), k < N → I (k + 1) W → body.wpIn (Fence.wide.inRound l) n Try.prog (fun e _ W' => e = .normal ∧ KeepsOthers W W' ∧ (∀ j, RdB s N A j → W'.heap[j]? = W.heap[j]?) ∧ I k W') (a₁ k) W)
    (hdone : ∀ (D : Nat) (W : World), w.heap.size ≤ D → I 0 W → W.heap[D]? = some (.deferred (some [])) → Q .normal { a with defers := { target := .collected D, args := #[] } :: a.defers } W) :
    (Code.rangeFunc g #[p1, p2] assign body).wpIn Fence.wide (n + 1) Try.prog Q a w := by
  refine rangeP_law (Rd := RdB s N A) hg (enters_of Try.func94 (by kernel_rfl) rfl) (back_seq n s N c zs A w (RdB s N A) hsl hs (.inl rfl) (fun q e h => .inr ⟨q, e, h, rfl⟩)) (fun _ => rfl) ?_
    (fun pre W => I (N - pre.length) W) (fun st A B row hs hg hr => hI _ A B row hs hg hr) (by simpa using h0) a₁ ?_ ?_ ?_
  · rintro j (rfl | ⟨q, e, h, rfl⟩)
    · exact lt_of_cell hs
    · obtain ⟨b, off, e2, h1⟩ := hsl.at_ h
      rw [e] at e2
      cases e2
      exact lt_of_cell h1
  · intro l x W K hK
    simpa using hassign l x W K hK
  · rintro l pre x W ⟨hp, rfl⟩ hi
    have e : N - pre.length = (N - 1 - pre.length) + 1 := by omega
    have h := hbody l (N - 1 - pre.length) W (by omega) (by rw [← e]; exact hi)
    refine wpIn_mono h ?_
    rintro ex a' W' ⟨rfl, h1, h2, h3⟩
    refine ⟨h1, h2, ?_⟩
    show I (N - (pre ++ [N - 1 - pre.length]).length) W'
    rw [List.length_append, List.length_singleton, Nat.sub_add_eq, show N - pre.length - 1 = N - 1 - pre.length by omega]
    exact h3
  · intro D xs W hD hS hi hd
    rw [show N - xs.length = 0 by rw [hS]; omega] at hi
    exact hdone D W hD hi hd
end Go.Proofs.Ytfeohcknopdamaa
/- Layer 10: placeOfSetting, SettingAt (written by gen_dials.py). -/
namespace Go.Proofs.Ytfeohcknopdamaa
open Go.RowKit Go.Shelf
set_option linter.unusedVariables false
attribute [local go_sem] Oper.semAt_some

/-- What stands when k elements are left. -/
structure DialI (w : World) (zs xs : List Int) (A : Option Addr) (n c k : Nat) (W : World) : Prop where
  size : w.heap.size + 4 ≤ W.heap.size
  below : Below w.heap.size w W
  b0 : Boxed W w.heap.size 22 (.slice A n c)
  b1 : Boxed W (w.heap.size + 1) 3 (.int .i64 ((stP (zs.drop k) (xs.drop k) : Nat) : Int))
  b2 : Boxed W (w.heap.size + 2) 3 (.int .i64 ((prodL (zs.drop k) : Nat) : Int))
theorem DialI.own {w : World} {zs xs : List Int} {A : Option Addr} {n c B : Nat} (hB : w.heap.size ≤ B) : OwnFrom B (fun (x : Nat) W => DialI w zs xs A n c x W) := by
  rintro x W W' row h hg hr
  have hr' : ∀ r, row = some r → ∃ o : Obj, W.heap[r]? = some o ∧ o.isCells = false := fun r e => (hr r e).2
  exact ⟨Nat.le_trans h.size hg.size, h.below.grown hg (Nat.le_trans (Nat.le_add_right _ _) h.size) (fun k e => Nat.le_trans hB (hr k e).1), boxed_others h.b0 hg hr', boxed_others h.b1 hg hr', boxed_others h.b2 hg hr'⟩
def plW (w : World) (A B : Option Addr) (n c m d : Nat) : World :=
  (((w.alloc (.cells #[.slice A n c] 22)).alloc (.cells #[.int .i64 0] 3)).alloc (.cells #[.int .i64 1] 3)).alloc (.cells #[.slice B m d] 22)
theorem plW_spec (w : World) (A B : Option Addr) (n c m d : Nat) : (plW w A B n c m d).heap.size = w.heap.size + 4 ∧ Below w.heap.size w (plW w A B n c m d) ∧ Boxed (plW w A B n c m d) w.heap.size 22 (.slice A n c) ∧
    Boxed (plW w A B n c m d) (w.heap.size + 1) 3 (.int .i64 0) ∧ Boxed (plW w A B n c m d) (w.heap.size + 2) 3 (.int .i64 1) ∧ Boxed (plW w A B n c m d) (w.heap.size + 3) 22 (.slice B m d) := by
  obtain ⟨w1, h1⟩ : ∃ x, x = w.alloc (.cells #[.slice A n c] 22) := ⟨_, rfl⟩
  obtain ⟨w2, h2⟩ : ∃ x, x = w1.alloc (.cells #[.int .i64 0] 3) := ⟨_, rfl⟩
  obtain ⟨w3, h3⟩ : ∃ x, x = w2.alloc (.cells #[.int .i64 1] 3) := ⟨_, rfl⟩
  have e : plW w A B n c m d = w3.alloc (.cells #[.slice B m d] 22) := by rw [h3, h2, h1]; rfl
  have z1 : w1.heap.size = w.heap.size + 1 := by rw [h1]; simp
  have z2 : w2.heap.size = w.heap.size + 2 := by rw [h2]; simp [z1]
  have z3 : w3.heap.size = w.heap.size + 3 := by rw [h3]; simp [z2]
  rw [e]
  have b0 : Boxed w1 w.heap.size 22 (.slice A n c) := by rw [h1]; exact Boxed.new _ _ _
  have b1 : Boxed w2 (w.heap.size + 1) 3 (.int .i64 0) := by rw [h2, ← z1]; exact Boxed.new _ _ _
  have b2 : Boxed w3 (w.heap.size + 2) 3 (.int .i64 1) := by rw [h3, ← z2]; exact Boxed.new _ _ _
  refine ⟨by simp [z3], ?_, ?_, ?_, b2.alloc _, by rw [← z3]; exact Boxed.new _ _ _⟩
  · rw [h3, h2, h1]
    exact ((((Below.refl _ w).alloc (Nat.le_refl _) _).alloc (by simp) _).alloc (by simp; omega) _).alloc (by simp; omega) _
  · rw [h3, h2]; exact ((b0.alloc _).alloc _).alloc _
  · rw [h3]; exact (b1.alloc _).alloc _
theorem stP_drop {zs xs : List Int} {k y q : Nat} (hk : k < zs.length) (hk2 : k < xs.length) (hq : atI zs k = (q : Int)) (hy : atI xs k = (y : Int)) :
    stP (zs.drop k) (xs.drop k) = y * prodL (zs.drop (k + 1)) + dirN (prodL (zs.drop (k + 1))) (decide (y % 2 = 1)) (stP (zs.drop (k + 1)) (xs.drop (k + 1))) := by
  rw [drop_atI hk, drop_atI hk2, stP, hy, Int.toNat_natCast]
theorem settB_at {zs xs : List Int} (h : settB zs xs = true) {k : Nat} (hk : k < xs.length) : inB (atI zs k) (atI xs k) = true := by
  rw [settB, Bool.and_eq_true] at h
  exact allB_iff.1 h.2 k hk
theorem settB_drop {zs xs : List Int} (h : settB zs xs = true) (k : Nat) : settB (zs.drop k) (xs.drop k) = true := by
  have hl := settB_len h
  rw [settB, Bool.and_eq_true, decide_eq_true_iff]
  refine ⟨by rw [List.length_drop, List.length_drop, hl], allB_iff.2 fun j hj => ?_⟩
  rw [List.length_drop] at hj
  have := settB_at h (k := k + j) (by omega)
  unfold atI at this ⊢
  rwa [List.getElem?_drop, List.getElem?_drop]
theorem allD_drop {zs : List Int} (h : allD zs = true) (k : Nat) : allD (zs.drop k) = true := by
  refine allB_iff.2 fun j hj => ?_
  rw [List.length_drop] at hj
  have := allB_iff.1 h (k + j) (by omega)
  unfold atI at this ⊢
  rwa [List.getElem?_drop]
set_option maxRecDepth 100000 in
set_option maxHeartbeats 6400000 in
theorem placeOfSetting_any (zs xs : List Int) (A B : Option Addr) (n c m d : Nat) (w : World) (hz : Sl w A n c zs) (hx : Sl w B m d xs) (hs : sizesB zs = true) (hst : settB zs xs = true) :
    Calls Try.prog 75 #[.slice A n c, .slice B m d] w fun e w' => e = .returned (.int .i64 ((stP zs xs : Nat) : Int)) ∧ Below w.heap.size w w' := by
  have hml := settB_len hst
  rw [hx.len, hz.len] at hml
  subst hml
  obtain ⟨R, hR⟩ : ∃ R : Ending → World → Prop, R = fun e w' => e = .returned (.int .i64 ((stP zs xs : Nat) : Int)) ∧ Below w.heap.size w w' := ⟨_, rfl⟩
  rw [← hR]
  have HRR := Lib.hid hR
  clear hR
  refine (callsIn_wide (n := 9)).1 ?_
  refine callsIn_of_wp_marks Try.func75 rfl trivial ?_ rfl
  simp only [Try.ntmps75, List.size_toArray, List.length_cons, List.length_nil, Nat.reduceAdd, Nat.reduceSub, Array.replicate_succ, Array.replicate_zero, List.push_toArray, List.append_toArray, List.nil_append, List.cons_append]
  gi_wp2_with (refine ⟨trivial, ?_⟩; gi_at_call 87; refine (callsIn_wide.2 (backward_any _ _ _ _)).mono ?_; rintro e w' ⟨rfl, rfl⟩)
  rw [show (((w.alloc (.cells #[.slice A m c] 22)).alloc (.cells #[.int .i64 0] 3)).alloc (.cells #[.int .i64 1] 3)).alloc (.cells #[.slice B m d] 22) = plW w A B m c m d from rfl]
  obtain ⟨z0, hb0, q0, q1, q2, q3⟩ := plW_spec w A B m c m d
  generalize plW w A B m c m d = w0 at z0 hb0 q0 q1 q2 q3 ⊢
  rw [show w.heap.size + 1 + 1 + 1 = w.heap.size + 3 from rfl, show w.heap.size + 1 + 1 = w.heap.size + 2 from rfl]
  have HZL := Lib.hid hz.len
  have HXL := Lib.hid hx.len
  have HZ := Lib.hid (fun V (hV : Below w.heap.size w V) => hz.below hV (Nat.le_refl _))
  have HX := Lib.hid hx
  have HSB := Lib.hid hs
  have HST := Lib.hid hst
  have HZ0 := Lib.hid z0
  have hx0 : Sl w0 B m d xs := hx.below hb0 (Nat.le_refl _)
  have hen : zs.drop m = [] := List.drop_of_length_le (by rw [hz.len]; omega)
  have hen2 : xs.drop m = [] := List.drop_of_length_le (by rw [hx.len]; omega)
  clear hz hx hs hst
  refine back_law (n := 8) (w.heap.size + 3) m d xs B hx0 (by rfl) q3.cell (fun k W => DialI w zs xs A m c k W) (DialI.own (by omega)) ⟨by omega, hb0, q0, by rw [hen, hen2]; exact q1, by rw [hen]; exact q2⟩ ?a1 ?assign ?body ?done
  case assign =>
    intro l x W K hK
    gi_wp2
    exact hK
  case body =>
    clear q0 q1 q2 q3 hb0 HRR hx0 hen hen2 z0
    rintro l k W hk hi
    obtain ⟨q, hq, hq1, hq2⟩ := allD_at (zs := zs) (by have := HSB.out; rw [sizesB, Bool.and_eq_true] at this; exact this.2) (j := k) (by rw [HZL.out]; omega)
    obtain ⟨y, hy, hyq⟩ : ∃ y : Nat, atI xs k = (y : Int) ∧ y < q := by
      have h0 := settB_at HST.out (k := k) (by rw [HXL.out]; omega)
      rw [inB, Bool.and_eq_true, decide_eq_true_iff, decide_eq_true_iff, hq] at h0
      exact ⟨(atI xs k).toNat, by omega, by omega⟩
    have hstep := stP_drop (zs := zs) (xs := xs) (k := k) (by rw [HZL.out]; omega) (by rw [HXL.out]; omega) hq hy
    have hspl := prodL_split (zs := zs) (k := k) (by rw [HZL.out]; omega) q hq
    obtain ⟨hp1, hp2⟩ := prodL_le HSB.out (k + 1) (by rw [HZL.out]; omega)
    have hal := stP_lt (zs.drop (k + 1)) (xs.drop (k + 1)) (allD_drop (by have := HSB.out; rw [sizesB, Bool.and_eq_true] at this; exact this.2) _) (settB_drop HST.out _)
    obtain ⟨b, off, rfl, hcell⟩ := (HZ.out W hi.below).at_ (k := k) (by omega)
    rw [show zs[k]?.getD 0 = atI zs k from rfl, hq] at hcell
    have hbl := lt_of_cell hcell
    have hbold : b < w.heap.size := (HZ.out w (Below.refl _ _)).old b off rfl (by omega)
    have hi1 := hi.b1
    have hi2 := hi.b2
    generalize stP (zs.drop (k + 1)) (xs.drop (k + 1)) = a at hi1 hstep hal
    generalize prodL (zs.drop (k + 1)) = L at hi2 hstep hspl hp1 hp2 hal
    obtain ⟨a2, ha2⟩ : ∃ a2, a2 = dirN L (decide (y % 2 = 1)) a := ⟨_, rfl⟩
    have ha2l : a2 < L := by rw [ha2]; exact dirN_lt hal
    rw [← ha2] at hstep
    have hyL : y * L ≤ 10 * L := Nat.mul_le_mul_right L (by omega)
    have hqL : q * L ≤ 10 * L := Nat.mul_le_mul_right L (by omega)
    have V1 : Hid (IntKind.i64.wrap ((y : Int) * (L : Int)) = ((y * L : Nat) : Int)) := by rw [Hid, ← Int.natCast_mul]; exact IntWalk.i64_in _ (by omega)
    have V3 : Hid (IntKind.i64.wrap ((L : Int) * (q : Int)) = ((q * L : Nat) : Int)) := by rw [Hid, ← Int.natCast_mul, Nat.mul_comm]; exact IntWalk.i64_in _ (by omega)
    have V2 : Hid (IntKind.i64.wrap (((y * L : Nat) : Int) + (a2 : Int)) = ((y * L + a2 : Nat) : Int)) := by rw [Hid, ← Int.natCast_add]; exact IntWalk.i64_in _ (by omega)
    have W1 : Hid (wrap64 ((y : Int) * (L : Int)) = ((y * L : Nat) : Int)) := by rw [Hid, ← Int.natCast_mul]; exact IntWalk.wrap64_in _ ⟨by omega, by omega⟩
    have W3 : Hid (wrap64 ((L : Int) * (q : Int)) = ((q * L : Nat) : Int)) := by rw [Hid, ← Int.natCast_mul, Nat.mul_comm]; exact IntWalk.wrap64_in _ ⟨by omega, by omega⟩
    have W2 : Hid (wrap64 (((y * L : Nat) : Int) + (a2 : Int)) = ((y * L + a2 : Nat) : Int)) := by rw [Hid, ← Int.natCast_add]; exact IntWalk.wrap64_in _ ⟨by omega, by omega⟩
    clear hyL hqL
    rw [← hstep] at V2 W2
    rw [← hspl] at V3 W3
    have HST2 := Lib.hid hstep
    clear hstep hspl
    generalize y * L = p at *
    generalize hs2 : stP (zs.drop k) (xs.drop k) = s2 at V2 W2
    generalize hl2 : prodL (zs.drop k) = l2 at V3 W3
    have HS2 := Lib.hid hs2
    have HL2 := Lib.hid hl2
    have HA2 := Lib.hid ha2
    have c1 := hi1.cell
    have c2 := hi2.cell
    have hsz := hi.size
    obtain ⟨V, hV⟩ : ∃ V, V = dirW W.drew (L : Int) (decide (y % 2 = 1)) := ⟨_, rfl⟩
    have hdc := dirW_cells W.drew (L : Int) (decide (y % 2 = 1))
    have hdb := dirW_below W.drew (L : Int) (decide (y % 2 = 1))
    have hdk := dirW_others W.drew (L : Int) (decide (y % 2 = 1))
    have HBH : Hid (Calls Try.prog 86 #[.int .i64 (y : Int), .int .i64 (L : Int)] W.drew fun e w' => e = .returned (.func (.func 89) #[] #[.pointer (some ⟨W.heap.size + 1, 0, none⟩), .pointer (some ⟨W.heap.size, 0, none⟩)]) ∧ w' = V) :=
      (behind_any y L W.drew (by omega)).mono fun e w' he => ⟨he.1, by rw [he.2, hV]⟩
    rw [← hV] at hdc hdb hdk
    clear hV
    have HCL : Hid (Calls Try.prog 89 #[.int .i64 (a : Int), .pointer (some ⟨W.heap.size + 1, 0, none⟩), .pointer (some ⟨W.heap.size, 0, none⟩)] V fun e w' => e = .returned (.int .i64 (a2 : Int)) ∧ V = w') := by
      have := dirc_any L a W.heap.size (decide (y % 2 = 1)) V (by omega) hal hdc.1 hdc.2
      rw [← HA2.out] at this
      exact this
    have g0 := boxed_below (w := W.drew) hi.b0 hdb (by show w.heap.size < W.heap.size; omega)
    have g1 := boxed_below (w := W.drew) hi1 hdb (by show w.heap.size + 1 < W.heap.size; omega)
    have g2 := boxed_below (w := W.drew) hi2 hdb (by show w.heap.size + 2 < W.heap.size; omega)
    have hcellV : V.cell? ⟨b, off + k, none⟩ = some (.int .i64 (q : Int)) := (hdb.cell (p := ⟨b, off + k, none⟩) hbl).trans hcell
    have hbV : Below w.heap.size w V := hi.below.drew.trans (hdb.mono (by show w.heap.size ≤ W.heap.size; omega))
    have hzV : w.heap.size + 4 ≤ V.heap.size := Nat.le_trans hsz hdb.size
    have e1 := g1.cell
    have f1 := g1.frozen
    have HE2 : Hid (V.cell? ⟨w.heap.size + 2, 0, none⟩ = some (.int .i64 (L : Int))) := g2.cell
    obtain ⟨V3w, hV3⟩ : ∃ V3w, V3w = V.setCell ⟨w.heap.size + 1, 0, none⟩ (.int .i64 (s2 : Int)) := ⟨_, rfl⟩
    have HS5 : Hid ((V.setCell ⟨w.heap.size + 1, 0, none⟩ (.int .i64 (s2 : Int))).cell? ⟨w.heap.size + 2, 0, none⟩ = some (.int .i64 (L : Int))) := (boxed_setO g2 (by omega) _).cell
    have k0 := boxed_setO (C := w.heap.size + 1) g0 (by omega) (.int .i64 (s2 : Int))
    have k1 := g1.set (.int .i64 (s2 : Int))
    have k2 := boxed_setO (C := w.heap.size + 1) g2 (by omega) (.int .i64 (s2 : Int))
    have kcell : V3w.cell? ⟨b, off + k, none⟩ = some (.int .i64 (q : Int)) := by
      rw [hV3]
      exact (World.cell?_of_block (a := ⟨b, off + k, none⟩) (Below.heap_setCell _ _ _ _ (by show b ≠ w.heap.size + 1; omega))).trans hcellV
    have kb : Below w.heap.size w V3w := by rw [hV3]; exact hbV.setCell (p := ⟨w.heap.size + 1, 0, none⟩) (by show w.heap.size ≤ w.heap.size + 1; omega) _
    have kz : w.heap.size + 4 ≤ V3w.heap.size := by rw [hV3]; exact Nat.le_trans hzV (KeepsWalks.setCell V _ _).size
    have kk : KeepsOthers W V3w := by rw [hV3]; exact ((KeepsOthers.drew W).trans hdk).trans (KeepsOthers.setCell _ _ _)
    have kr : ∀ j, RdB (w.heap.size + 3) m B j → V3w.heap[j]? = W.heap[j]? := fun j hj => by
      have hj2 : j < W.heap.size ∧ j ≠ w.heap.size + 1 := by
        rcases hj with rfl | ⟨u, e, h0, rfl⟩
        · exact ⟨by omega, by omega⟩
        · obtain ⟨b', off', e', _⟩ := HX.out.at_ (k := 0) h0
          have := HX.out.old b' off' e' h0
          rw [e] at e'
          cases e'
          exact ⟨by show b' < _; omega, by show b' ≠ _; omega⟩
      rw [hV3]
      exact (Below.heap_setCell _ _ _ _ (by show j ≠ w.heap.size + 1; exact hj2.2)).trans (hdb.block j hj2.1)
    rw [← hV3] at k0 k1 k2
    have HP3 : Hid ((V3w.cell? ⟨w.heap.size, 0, none⟩ = some (.slice (some ⟨b, off, none⟩) m c) ∧ V3w.cell? ⟨b, off + k, none⟩ = some (.int .i64 (q : Int))) ∧ V3w.cell? ⟨w.heap.size + 2, 0, none⟩ = some (.int .i64 (L : Int)) ∧ V3w.frozen? ⟨w.heap.size + 2, 0, none⟩ = false ∧
        ((V3w.setCell ⟨w.heap.size + 2, 0, none⟩ (.int .i64 (l2 : Int))).cell? ⟨w.heap.size, 0, none⟩ = some (.slice (some ⟨b, off, none⟩) m c) ∧ (V3w.setCell ⟨w.heap.size + 2, 0, none⟩ (.int .i64 (l2 : Int))).cell? ⟨b, off + k, none⟩ = some (.int .i64 (q : Int))) ∧
        (KeepsOthers W (V3w.setCell ⟨w.heap.size + 2, 0, none⟩ (.int .i64 (l2 : Int))).drew ∧ (∀ j, RdB (w.heap.size + 3) m B j → (V3w.setCell ⟨w.heap.size + 2, 0, none⟩ (.int .i64 (l2 : Int))).drew.heap[j]? = W.heap[j]?) ∧ DialI w zs xs (some ⟨b, off, none⟩) m c k (V3w.setCell ⟨w.heap.size + 2, 0, none⟩ (.int .i64 (l2 : Int))).drew)) := by
      have k0' := boxed_setO (C := w.heap.size + 2) k0 (by omega) (.int .i64 (l2 : Int))
      have k1' := boxed_setO (C := w.heap.size + 2) k1 (by omega) (.int .i64 (l2 : Int))
      refine ⟨⟨k0.cell, kcell⟩, k2.cell, k2.frozen, ⟨k0'.cell, ?_⟩, (kk.trans (KeepsOthers.setCell _ _ _)).trans (KeepsOthers.drew _), fun j hj => ?_, ?_⟩
      · exact (World.cell?_of_block (a := ⟨b, off + k, none⟩) (Below.heap_setCell _ _ _ _ (by show b ≠ w.heap.size + 2; omega))).trans kcell
      · refine (Below.heap_setCell _ _ _ _ ?_).trans (kr j hj)
        show j ≠ w.heap.size + 2
        rcases hj with rfl | ⟨u, e, h0, rfl⟩
        · omega
        · obtain ⟨b', off', e', _⟩ := HX.out.at_ (k := 0) h0
          have := HX.out.old b' off' e' h0
          rw [e] at e'
          cases e'
          show b' ≠ _; omega
      · refine ⟨Nat.le_trans kz (KeepsWalks.setCell V3w _ _).size, (kb.setCell (p := ⟨w.heap.size + 2, 0, none⟩) (by show w.heap.size ≤ w.heap.size + 2; omega) _).drew, k0', ?_, ?_⟩
        · rw [HS2.out]; exact k1'
        · rw [HL2.out]; exact k2.set _
    have HV3 := Lib.hid hV3
    clear hV3 k0 k1 k2 kcell kb kz kk kr g0 g1 g2 hcellV hbV hzV hdc hdb hdk hi hi1 hi2 hcell hal ha2 ha2l hs2 hl2 hp1
    have f2 : (k : Int) < (m : Int) := by omega
    rw [show xs[k]?.getD 0 = (y : Int) from hy]
    clear hy hq
    have v1 := V1.out
    have v2 := V2.out
    have v3 := V3.out
    have w1 := W1.out
    have w2 := W2.out
    have w3 := W3.out
    refine wpIn_block (wpIn_seq ?_)
    refine wpIn_region_round (fun V => V.cell? ⟨w.heap.size + 2, 0, none⟩ = some (.int .i64 (L : Int))) (by kernel_rfl) (by rfl) (fun ⟨_, _, h⟩ => by cases h.1) c2 (fun hHeld => ?_)
    simp only [List.length_cons, List.length_nil, Nat.reduceAdd, Array.replicate_succ, Array.replicate_zero, List.push_toArray, List.nil_append, List.cons_append]
    refine wpAnyH_takeX (i := 0) (v := ?_) (by simp only [↓List.getElem?_toArray, ↓List.getElem?_cons_zero]; rfl) (by kernel_rfl) (by kernel_rfl) (by kernel_rfl) (by assumption) ?_ ?_ ?_
    rotate_left
    · exact fun _ _ _ h => (nomatch h.1)
    · exact Or.inl ⟨by rfl, by (intro V hV; (try dsimp only at hV); go_simp; try with_reducible rfl)⟩
    simp only [Act.put, List.setIfInBounds_toArray, List.set_cons_zero, List.set_cons_succ]
    refine wpAnyH_takeX (i := 1) (v := ?_) (by simp only [↓List.getElem?_toArray, ↓List.getElem?_cons_succ, ↓List.getElem?_cons_zero]; rfl) (by kernel_rfl) (by kernel_rfl) (by kernel_rfl) (by assumption) ?_ ?_ ?_
    rotate_left
    · exact fun _ _ _ h => (nomatch h.1)
    · exact Or.inl ⟨by rfl, by (intro V hV; (try dsimp only at hV); go_simp; try with_reducible rfl)⟩
    simp only [Act.put, List.setIfInBounds_toArray, List.set_cons_zero, List.set_cons_succ]
    refine wpAnyH_takeX (i := 2) (v := ?_) (by simp only [↓List.getElem?_toArray, ↓List.getElem?_cons_succ, ↓List.getElem?_cons_zero]; rfl) (by kernel_rfl) (by kernel_rfl) (by kernel_rfl) (by assumption) ?_ ?_ ?_
    rotate_left
    · exact fun _ _ _ h => (nomatch h.1)
    · exact Or.inl ⟨by rfl, by (intro V hV; (try dsimp only at hV); go_simp; try with_reducible rfl)⟩
    simp only [Act.put, List.setIfInBounds_toArray, List.set_cons_zero, List.set_cons_succ]
    refine wpAnyH_takeX (i := 3) (v := ?_) (by simp only [↓List.getElem?_toArray, ↓List.getElem?_cons_succ, ↓List.getElem?_cons_zero]; rfl) (by kernel_rfl) (by kernel_rfl) (by kernel_rfl) (by assumption) ?_ ?_ ?_
    rotate_left
    · exact fun _ _ _ h => (nomatch h.1)
    · exact Or.inl ⟨by rfl, by (intro V hV; (try dsimp only at hV); go_simp; try with_reducible rfl)⟩
    simp only [Act.put, List.setIfInBounds_toArray, List.set_cons_zero, List.set_cons_succ]
    refine wpAnyH_takeX (i := 4) (v := ?_) (by simp only [↓List.getElem?_toArray, ↓List.getElem?_cons_succ, ↓List.getElem?_cons_zero]; rfl) (by kernel_rfl) (by kernel_rfl) (by kernel_rfl) (by assumption) ?_ ?_ ?_
    rotate_left
    · exact fun _ _ _ h => (nomatch h.1)
    · exact Or.inl ⟨by rfl, by (intro V hV; (try dsimp only at hV); go_simp; try with_reducible rfl)⟩
    simp only [Act.put, List.setIfInBounds_toArray, List.set_cons_zero, List.set_cons_succ]
    refine wpAnyH_ready (rs := [5, 6]) (by kernel_rfl) (by simp) ?_
    refine AllReadyH.cons rfl (fun K hK => ?_) ?_
    · go_simp
      go_wp2_with (go_at_call 86; (with_reducible refine HBH.out.mono ?_); rintro e v1 ⟨rfl, rfl⟩)
      refine hK.out _ _ HE2.out (fun hHeld => ?_)
      clear hK K
      try simp only [List.setIfInBounds_toArray, List.set_cons_zero, List.set_cons_succ]
      refine wpAnyH_ready (rs := [6]) (by kernel_rfl) (by simp) ?_
      refine AllReadyH.cons rfl (fun K hK => ?_) ?_
      · go_simp
        refine hK.out _ _ (by assumption) (fun hHeld => ?_)
        clear hK K
        try simp only [List.setIfInBounds_toArray, List.set_cons_zero, List.set_cons_succ]
        refine wpAnyH_ready (rs := [7]) (by kernel_rfl) (by simp) ?_
        refine AllReadyH.cons rfl (fun K hK => ?_) ?_
        · go_simp
          go_wp2_with (go_at_call 89; (with_reducible refine HCL.out.mono ?_); rintro e v1 ⟨rfl, rfl⟩)
          refine hK.out _ _ (by assumption) (fun hHeld => ?_)
          clear hK K
          try simp only [List.setIfInBounds_toArray, List.set_cons_zero, List.set_cons_succ]
          refine wpAnyH_takeX (i := 8) (v := ?_) (by simp only [↓List.getElem?_toArray, ↓List.getElem?_cons_succ, ↓List.getElem?_cons_zero]; rfl) (by kernel_rfl) (by kernel_rfl) (by kernel_rfl) (by assumption) ?_ ?_ ?_
          rotate_left
          · exact fun _ _ _ h => (nomatch h.1)
          · exact Or.inl ⟨by rfl, by (intro V hV; (try dsimp only at hV); go_simp; try with_reducible rfl)⟩
          simp only [Act.put, List.setIfInBounds_toArray, List.set_cons_zero, List.set_cons_succ]
          refine wpAnyH_ready (rs := [9]) (by kernel_rfl) (by simp) ?_
          refine AllReadyH.cons rfl (fun K hK => ?_) ?_
          · go_simp
            refine hK.out _ _ HS5.out (fun hHeld => ?_)
            clear hK K
            try simp only [List.setIfInBounds_toArray, List.set_cons_zero, List.set_cons_succ]
            refine wpAnyH_done (by kernel_rfl) ?_ _
            simp only [Exit.then]
            rw [← HV3.out]
            refine wpIn_region_round (fun V => V.cell? ⟨w.heap.size, 0, none⟩ = some (.slice (some ⟨b, off, none⟩) m c) ∧ V.cell? ⟨b, off + k, none⟩ = some (.int .i64 (q : Int))) (by kernel_rfl) (by rfl) (fun ⟨_, _, h⟩ => by cases h.1) HP3.out.1 (fun hHeld => ?_)
            simp only [List.length_cons, List.length_nil, Nat.reduceAdd, Array.replicate_succ, Array.replicate_zero, List.push_toArray, List.nil_append, List.cons_append]
            have hc2 := HP3.out.2.1
            have hf2 := HP3.out.2.2.1
            have HS6 := Lib.hid HP3.out.2.2.2.1
            have HFIN := Lib.hid HP3.out.2.2.2.2
            clear e1 c1 c2 HE2 HS5
            refine wpAnyH_takeX (i := 1) (v := ?_) (by simp only [↓List.getElem?_toArray, ↓List.getElem?_cons_succ, ↓List.getElem?_cons_zero]; rfl) (by kernel_rfl) (by kernel_rfl) (by kernel_rfl) (by assumption) ?_ ?_ ?_
            rotate_left
            · exact fun _ _ _ h => (nomatch h.1)
            · exact Or.inl ⟨by rfl, by (intro V hV; (try dsimp only at hV); go_simp; try with_reducible rfl)⟩
            simp only [Act.put, List.setIfInBounds_toArray, List.set_cons_zero, List.set_cons_succ]
            refine wpAnyH_takeX (i := 2) (v := ?_) (by simp only [↓List.getElem?_toArray, ↓List.getElem?_cons_succ, ↓List.getElem?_cons_zero]; rfl) (by kernel_rfl) (by kernel_rfl) (by kernel_rfl) (by assumption) ?_ ?_ ?_
            rotate_left
            · exact fun _ _ _ h => (nomatch h.1)
            · exact Or.inl ⟨by rfl, by (intro V hV; (try dsimp only at hV); go_simp; try with_reducible rfl)⟩
            simp only [Act.put, List.setIfInBounds_toArray, List.set_cons_zero, List.set_cons_succ]
            refine wpAnyH_takeX (i := 3) (v := ?_) (by simp only [↓List.getElem?_toArray, ↓List.getElem?_cons_succ, ↓List.getElem?_cons_zero]; rfl) (by kernel_rfl) (by kernel_rfl) (by kernel_rfl) (by assumption) ?_ ?_ ?_
            rotate_left
            · exact fun _ _ _ h => (nomatch h.1)
            · exact Or.inl ⟨by rfl, by (intro V hV; (try dsimp only at hV); go_simp; try with_reducible rfl)⟩
            simp only [Act.put, List.setIfInBounds_toArray, List.set_cons_zero, List.set_cons_succ]
            refine wpAnyH_takeX (i := 4) (v := ?_) (by simp only [↓List.getElem?_toArray, ↓List.getElem?_cons_succ, ↓List.getElem?_cons_zero]; rfl) (by kernel_rfl) (by kernel_rfl) (by kernel_rfl) (by assumption) ?_ ?_ ?_
            rotate_left
            · exact fun _ _ _ h => (nomatch h.1)
            · exact Or.inl ⟨by rfl, by (intro V hV; (try dsimp only at hV); go_simp; try with_reducible rfl)⟩
            simp only [Act.put, List.setIfInBounds_toArray, List.set_cons_zero, List.set_cons_succ]
            refine wpAnyH_ready (rs := [0]) (by kernel_rfl) (by simp) ?_
            refine AllReadyH.cons rfl (fun K hK => ?_) ?_
            · go_simp
              refine hK.out _ _ (by assumption) (fun hHeld => ?_)
              clear hK K
              try simp only [List.setIfInBounds_toArray, List.set_cons_zero]
              refine wpAnyH_takeX (i := 5) (v := ?_) (by simp only [↓List.getElem?_toArray, ↓List.getElem?_cons_succ, ↓List.getElem?_cons_zero]; rfl) (by kernel_rfl) (by kernel_rfl) (by kernel_rfl) (by assumption) ?_ ?_ ?_
              rotate_left
              · exact fun _ _ _ h => (nomatch h.1)
              · exact Or.inl ⟨by rfl, by (intro V hV; (try dsimp only at hV); go_simp; try with_reducible rfl)⟩
              simp only [Act.put, List.setIfInBounds_toArray, List.set_cons_zero, List.set_cons_succ]
              refine wpAnyH_ready (rs := [6]) (by kernel_rfl) (by simp) ?_
              refine AllReadyH.cons rfl (fun K hK => ?_) ?_
              · go_simp
                refine hK.out _ _ HS6.out (fun hHeld => ?_)
                clear hK K
                try simp only [List.setIfInBounds_toArray, List.set_cons_zero, List.set_cons_succ]
                refine wpAnyH_done (by kernel_rfl) ?_ _
                exact And.intro (Eq.refl Exit.normal) HFIN.out
              exact AllReadyH.nil
            exact AllReadyH.nil
          exact AllReadyH.nil
        exact AllReadyH.nil
      exact AllReadyH.nil
    refine AllReadyH.cons rfl (fun K hK => ?_) ?_
    · go_simp
      refine hK.out _ _ (by assumption) (fun hHeld => ?_)
      clear hK K
      try simp only [List.setIfInBounds_toArray, List.set_cons_zero, List.set_cons_succ]
      refine wpAnyH_ready (rs := [5]) (by kernel_rfl) (by simp) ?_
      refine AllReadyH.cons rfl (fun K hK => ?_) ?_
      · go_simp
        go_wp2_with (go_at_call 86; (with_reducible refine HBH.out.mono ?_); rintro e v1 ⟨rfl, rfl⟩)
        refine hK.out _ _ HE2.out (fun hHeld => ?_)
        clear hK K
        try simp only [List.setIfInBounds_toArray, List.set_cons_zero, List.set_cons_succ]
        refine wpAnyH_ready (rs := [7]) (by kernel_rfl) (by simp) ?_
        refine AllReadyH.cons rfl (fun K hK => ?_) ?_
        · go_simp
          go_wp2_with (go_at_call 89; (with_reducible refine HCL.out.mono ?_); rintro e v1 ⟨rfl, rfl⟩)
          refine hK.out _ _ (by assumption) (fun hHeld => ?_)
          clear hK K
          try simp only [List.setIfInBounds_toArray, List.set_cons_zero, List.set_cons_succ]
          refine wpAnyH_takeX (i := 8) (v := ?_) (by simp only [↓List.getElem?_toArray, ↓List.getElem?_cons_succ, ↓List.getElem?_cons_zero]; rfl) (by kernel_rfl) (by kernel_rfl) (by kernel_rfl) (by assumption) ?_ ?_ ?_
          rotate_left
          · exact fun _ _ _ h => (nomatch h.1)
          · exact Or.inl ⟨by rfl, by (intro V hV; (try dsimp only at hV); go_simp; try with_reducible rfl)⟩
          simp only [Act.put, List.setIfInBounds_toArray, List.set_cons_zero, List.set_cons_succ]
          refine wpAnyH_ready (rs := [9]) (by kernel_rfl) (by simp) ?_
          refine AllReadyH.cons rfl (fun K hK => ?_) ?_
          · go_simp
            refine hK.out _ _ HS5.out (fun hHeld => ?_)
            clear hK K
            try simp only [List.setIfInBounds_toArray, List.set_cons_zero, List.set_cons_succ]
            refine wpAnyH_done (by kernel_rfl) ?_ _
            simp only [Exit.then]
            rw [← HV3.out]
            refine wpIn_region_round (fun V => V.cell? ⟨w.heap.size, 0, none⟩ = some (.slice (some ⟨b, off, none⟩) m c) ∧ V.cell? ⟨b, off + k, none⟩ = some (.int .i64 (q : Int))) (by kernel_rfl) (by rfl) (fun ⟨_, _, h⟩ => by cases h.1) HP3.out.1 (fun hHeld => ?_)
            simp only [List.length_cons, List.length_nil, Nat.reduceAdd, Array.replicate_succ, Array.replicate_zero, List.push_toArray, List.nil_append, List.cons_append]
            have hc2 := HP3.out.2.1
            have hf2 := HP3.out.2.2.1
            have HS6 := Lib.hid HP3.out.2.2.2.1
            have HFIN := Lib.hid HP3.out.2.2.2.2
            clear e1 c1 c2 HE2 HS5
            refine wpAnyH_takeX (i := 1) (v := ?_) (by simp only [↓List.getElem?_toArray, ↓List.getElem?_cons_succ, ↓List.getElem?_cons_zero]; rfl) (by kernel_rfl) (by kernel_rfl) (by kernel_rfl) (by assumption) ?_ ?_ ?_
            rotate_left
            · exact fun _ _ _ h => (nomatch h.1)
            · exact Or.inl ⟨by rfl, by (intro V hV; (try dsimp only at hV); go_simp; try with_reducible rfl)⟩
            simp only [Act.put, List.setIfInBounds_toArray, List.set_cons_zero, List.set_cons_succ]
            refine wpAnyH_takeX (i := 2) (v := ?_) (by simp only [↓List.getElem?_toArray, ↓List.getElem?_cons_succ, ↓List.getElem?_cons_zero]; rfl) (by kernel_rfl) (by kernel_rfl) (by kernel_rfl) (by assumption) ?_ ?_ ?_
            rotate_left
            · exact fun _ _ _ h => (nomatch h.1)
            · exact Or.inl ⟨by rfl, by (intro V hV; (try dsimp only at hV); go_simp; try with_reducible rfl)⟩
            simp only [Act.put, List.setIfInBounds_toArray, List.set_cons_zero, List.set_cons_succ]
            refine wpAnyH_takeX (i := 3) (v := ?_) (by simp only [↓List.getElem?_toArray, ↓List.getElem?_cons_succ, ↓List.getElem?_cons_zero]; rfl) (by kernel_rfl) (by kernel_rfl) (by kernel_rfl) (by assumption) ?_ ?_ ?_
            rotate_left
            · exact fun _ _ _ h => (nomatch h.1)
            · exact Or.inl ⟨by rfl, by (intro V hV; (try dsimp only at hV); go_simp; try with_reducible rfl)⟩
            simp only [Act.put, List.setIfInBounds_toArray, List.set_cons_zero, List.set_cons_succ]
            refine wpAnyH_takeX (i := 4) (v := ?_) (by simp only [↓List.getElem?_toArray, ↓List.getElem?_cons_succ, ↓List.getElem?_cons_zero]; rfl) (by kernel_rfl) (by kernel_rfl) (by kernel_rfl) (by assumption) ?_ ?_ ?_
            rotate_left
            · exact fun _ _ _ h => (nomatch h.1)
            · exact Or.inl ⟨by rfl, by (intro V hV; (try dsimp only at hV); go_simp; try with_reducible rfl)⟩
            simp only [Act.put, List.setIfInBounds_toArray, List.set_cons_zero, List.set_cons_succ]
            refine wpAnyH_ready (rs := [0]) (by kernel_rfl) (by simp) ?_
            refine AllReadyH.cons rfl (fun K hK => ?_) ?_
            · go_simp
              refine hK.out _ _ (by assumption) (fun hHeld => ?_)
              clear hK K
              try simp only [List.setIfInBounds_toArray, List.set_cons_zero]
              refine wpAnyH_takeX (i := 5) (v := ?_) (by simp only [↓List.getElem?_toArray, ↓List.getElem?_cons_succ, ↓List.getElem?_cons_zero]; rfl) (by kernel_rfl) (by kernel_rfl) (by kernel_rfl) (by assumption) ?_ ?_ ?_
              rotate_left
              · exact fun _ _ _ h => (nomatch h.1)
              · exact Or.inl ⟨by rfl, by (intro V hV; (try dsimp only at hV); go_simp; try with_reducible rfl)⟩
              simp only [Act.put, List.setIfInBounds_toArray, List.set_cons_zero, List.set_cons_succ]
              refine wpAnyH_ready (rs := [6]) (by kernel_rfl) (by simp) ?_
              refine AllReadyH.cons rfl (fun K hK => ?_) ?_
              · go_simp
                refine hK.out _ _ HS6.out (fun hHeld => ?_)
                clear hK K
                try simp only [List.setIfInBounds_toArray, List.set_cons_zero, List.set_cons_succ]
                refine wpAnyH_done (by kernel_rfl) ?_ _
                exact And.intro (Eq.refl Exit.normal) HFIN.out
              exact AllReadyH.nil
            exact AllReadyH.nil
          exact AllReadyH.nil
        exact AllReadyH.nil
      exact AllReadyH.nil
    exact AllReadyH.nil
  case done =>
    clear q0 q1 q2 q3 hb0 hx0 hen hen2 z0
    rintro D W hD hi hd
    have HI := Lib.hid hi
    have c1 := hi.b1.cell
    rw [List.drop_zero, List.drop_zero] at c1
    have HD : Hid (w.heap.size ≤ D) := by have := HZ0.out; rw [Hid]; omega
    have HDD := Lib.hid hd
    clear hi hd
    gi_wp2
    refine ⟨by simp, .inl ⟨_, _, rfl, run_takeDeferred HDD.out, ?_⟩⟩
    refine ⟨_, results_tmp rfl _ _ _, ?_⟩
    rw [HRR.out]
    exact ⟨rfl, HI.out.below.trans (below_putO _ HD.out _)⟩
end Go.Proofs.Ytfeohcknopdamaa
