import Derived.Test.YtieaolihdbcekaaT33
import Derived.Test.YtieaolihdbcekaaT22
import Derived.Test.YtieaolihdbcekaaT27
import Derived.Test.YtieaolihdbcekaaT19
import Derived.Deep.RegionHeldLaw
import Derived.Deep.DrawnRows
/- Layer 6: the walk of LoopsSubs. -/
namespace Go.Proofs.Ytieaolihdbcekaa
open Go.RowKit
set_option linter.unusedVariables false
attribute [local go_sem ↓] Go.wp_at_zero Go.wp_at_succ

theorem wpAnyH_weak {P : Program} {md : Region.Mode} {ops : Array Oper} {Q : Exit → Act → World → Prop} {S S' : World → Prop} (h : ∀ w, S' w → S w) : ∀ (fuel : Nat) (listed : Array Bool) (a : Act) (w : World), wpAnyH P md ops Q S' fuel listed a w → wpAnyH P md ops Q S fuel listed a w
  | 0, _, _, _, hw => hw
  | fuel + 1, _, _, _, hw => ⟨hw.1, fun i hi => wpOp_mono (fun a' w' h' => ⟨h w' h'.1, wpAnyH_weak h fuel _ a' w' h'.2⟩) (hw.2 i hi)⟩
theorem wpAnyH_takeX {P : Program} {md : Region.Mode} {ops : Array Oper} {Q : Exit → Act → World → Prop} {S : World → Prop} {i : Nat} {oi : Oper} {v : Value} {fuel : Nat} {listed : Array Bool} {a : Act} {w : World} (hi : ops[i]? = some oi)
    (hs : Region.noSelect ops = true) (hf : Region.free md ops listed i = true) (hr : (Region.ready md ops listed).contains i = true) (hS : S w)
    (hQ : ∀ c a w, Q (.panic c) (a.put oi.dst v) w → Q (.panic c) a w) (hy : YieldsIf P ops S oi v a)
    (h : wpAnyH P md ops Q S fuel (listed.setIfInBounds i true) (a.put oi.dst v) w) : wpAnyH P md ops Q S (fuel + 1) listed a w :=
  wpAnyH_take hi hs hf hr hQ hy hS h
theorem bad2_or (xs : List Ty) (i j : Int) : (bad2 xs i j ∧ badB xs i j = true) ∨ (valB xs = true ∧ badB xs i j = false ∧ ∃ p q : Nat, i = (p : Int) ∧ j = (q : Int) ∧ p < xs.length ∧ q < xs.length) := by
  unfold bad2 badB
  rcases h : (valB xs && (inB xs.length i && inB xs.length j)) with _ | _
  · exact .inl ⟨rfl, rfl⟩
  · rw [Bool.and_eq_true, Bool.and_eq_true, inB_iff, inB_iff] at h
    exact .inr ⟨h.1, rfl, i.toNat, j.toNat, by omega, by omega, by omega, by omega⟩
set_option maxRecDepth 100000 in
set_option maxHeartbeats 12800000 in
theorem subs_walk (zs : List Ty) (A : Option Addr) (len cap : Nat) (x0 x1 : Int) (w : World) (hT : Tl w A len cap zs) :
    Calls Try.prog 3 #[.slice A len cap, .agg #[.int .i64 x0, .int .i64 x1]] w fun e w' => e = .returned (.bool true) ∧ Below w.heap.size w w' := by
  obtain ⟨W, hW⟩ : ∃ W, W = w.alloc (.cells #[.int .i64 x0, .int .i64 x1] 23) := ⟨_, rfl⟩
  have hb : Below w.heap.size w W := by rw [hW]; exact (Below.refl _ w).alloc (Nat.le_refl _) _
  have hbx : W.heap[w.heap.size]? = some (.cells #[.int .i64 x0, .int .i64 x1] 23 (0, 0)) := by rw [hW]; exact heap_alloc_new _ _
  have hsz : w.heap.size < W.heap.size := by rw [hW]; simp
  have HOWN := Lib.hid (own_any zs A len cap W (hT.below hb (Nat.le_refl _)))
  have HB := Lib.hid hb
  have HW := Lib.hid hW
  have HBX := Lib.hid hbx
  clear hb hW hbx hT
  go_enter Try.func3, Try.ntmps3
  go_wp2_with (go_at_call 15; rw [← HW.out]; refine HOWN.out.mono ?_; rintro e w1 ⟨⟨Y, k, c, rfl, hk25, htl⟩, hb1⟩)
  have hbx1 := (hb1.block _ hsz).trans HBX.out
  have k0 := cell_in hbx1 (i := 0) rfl
  have k1 := cell_in hbx1 (i := 1) rfl
  have HB1 := Lib.hid (HB.out.trans (hb1.mono HB.out.size))
  have HTL := Lib.hid htl
  clear hb1 htl hbx1 HOWN HB HW HBX hsz
  go_quiet (fail)
  clear k0 k1
  have HBQ : Hid (Below w.heap.size w (w1.drewN nq)) := below_dn HB1.out _
  have HTQ : Hid (Tl (w1.drewN nq) Y k c (cutT zs)) := HTL.out.dr ⟨nq, rfl⟩
  generalize w1.drewN nq = w2 at *
  clear HB1 HTL
  generalize cutT zs = xs at *
  have HLX : Hid (xs.length = k) := HTQ.out.len
  have HBAD := Lib.hid (fun W h => bad_any xs Y k c x0 x1 W (HTQ.out.below h (Nat.le_refl w2.heap.size)))
  rcases bad2_or xs x0 x1 with ⟨hbad, hbb⟩ | ⟨hv, hbb, p, q, rfl, rfl, hp, hq⟩
  · have HSB := Lib.hid (sub_bad xs Y k c x0 x1 w2 HTQ.out hbad)
    have HCB := Lib.hid (fun b X m d t W h => check_bad xs Y k c x0 x1 b X m d t W (HTQ.out.below h (Nat.le_refl w2.heap.size)) hbad)
    rw [hbb] at HBAD
    clear hbad hbb
    go_wp2_with (first
      | (go_at_call 16; refine HSB.out.mono ?_; rintro e w3 ⟨rfl, hb3⟩; have HB3 : Hid (∀ o, Below w2.heap.size w2 (w3.alloc o)) := (fun o => hb3.alloc hb3.size o); have HN3 : Hid (∀ o, (w3.alloc (.cells o 27)).heap[w3.heap.size]? = some (.cells o 27 (0, 0))) := (fun o => heap_alloc_new w3 _); clear hb3)
      | (go_at_call 17; refine (HBAD.out _ (HB3.out _)).mono ?_; rintro e w4 ⟨rfl, hb4⟩; have hf := (hb4.block _ (by simp)).trans (HN3.out _); have e0 := cell_in hf (i := 0) rfl; have e1 := cell_in hf (i := 1) rfl; have e2 := cell_in hf (i := 2) rfl; have HB4 := Lib.hid ((HB3.out _).trans (hb4.mono (HB3.out _).size)); clear hb4 hf)
      | (go_at_call 18; refine (HCB.out _ _ _ _ _ _ HB4.out).mono ?_; rintro e w5 ⟨rfl, hb5⟩; have HB5 := Lib.hid (HB4.out.trans (hb5.mono HB4.out.size)); clear hb5)
      | (go_at_call 19; refine (awake_here _).mono ?_; rintro e w9 ⟨rfl, hb9⟩))
    go_ret
    exact ⟨rfl, HBQ.out.trans ((HB5.out.trans (hb9.mono HB5.out.size)).mono HBQ.out.size)⟩
  · have hk24 : k ≤ 24 := by have := (valB_len hv).2; have := HLX.out; omega
    rw [HLX.out] at hp hq
    have HSB := Lib.hid (sub_any xs Y k c p q w2 HTQ.out hv hp hq)
    have HNL := Lib.hid (HTQ.out.nl hv)
    have HOK := Lib.hid (valB_ok hv)
    have HLN : Hid ((toN xs).length = k) := by rw [Hid, toN_len]; exact HLX.out
    have HST : Hid (∀ W, Below w2.heap.size w2 W → Calls Try.prog 20 #[.slice Y k c] W fun e w' => (∃ g vs, e = .returned (.slice (some ⟨g, 0, none⟩) (k * k) (k * k)) ∧ vs.length = k * k ∧ Owl w' W.heap.size (.slice (some ⟨g, 0, none⟩) (k * k) (k * k)) vs ∧ ∀ p, inP k p → (tb k vs p = true ↔ SubT (toN xs) p)) ∧ Below W.heap.size W w') := fun W h => subtypes_any (toN xs) Y k c W (HNL.out.below h (Nat.le_refl _)) HOK.out (by omega)
    have HCK : Hid (∀ W b X m d ps t, Below w2.heap.size w2 W → Plr W X m d ps → t.size ≤ 1099511627776 → prB (toN xs) (p, q) b ps t = true → Calls Try.prog 18 #[.slice Y k c, .int .i64 (p : Int), .int .i64 (q : Int), .agg #[.bool b, .slice X m d, .string t]] W fun e w' => e = .returned (.int .i64 0) ∧ Below W.heap.size W w') := fun W b X m d ps t hW hP ht hr => check_any xs Y k c p q b X m d ps t W (HTQ.out.below hW (Nat.le_refl _)) hv hp hq hP ht true hr
    have HRT : Hid (∀ W b X m d ps t, Below w2.heap.size w2 W → Plr W X m d ps → t.size ≤ 1099511627776 → prB (toN xs) (p, q) b ps t = true → Calls Try.prog 21 #[.slice Y k c, .int .i64 (p : Int), .int .i64 (q : Int), .agg #[.bool b, .slice X m d, .string t]] W fun e w' => e = .returned (.bool true) ∧ Below W.heap.size W w') := fun W b X m d ps t hW hP ht hr => right_any (toN xs) Y k c p q b X m d ps t W (HNL.out.below hW (Nat.le_refl _)) HOK.out hp hq (by omega) hP ht true hr
    rw [hbb] at HBAD
    clear hbb hv
    go_wp2_with (first
      | (go_at_call 16; refine HSB.out.mono ?_; rintro e w3 ⟨⟨b, X, m, d, t, rfl, hfd⟩, hb3⟩; obtain ⟨ps, hps, hpr⟩ := prB_right hfd (by rw [HLN.out]; exact hk24); have HPS := Lib.hid hps; have HPR := Lib.hid hpr; have HTS : Hid (t.size ≤ 1099511627776) := hfd.short (by rw [HLN.out]; exact hk24); have HHO := Lib.hid hfd.holds; have HB3 : Hid (∀ o, Below w2.heap.size w2 (w3.alloc o)) := (fun o => hb3.alloc hb3.size o); have HN3 : Hid (∀ o, (w3.alloc (.cells o 27)).heap[w3.heap.size]? = some (.cells o 27 (0, 0))) := (fun o => heap_alloc_new w3 _); clear hb3 hps hpr hfd)
      | (go_at_call 17; refine (HBAD.out _ (HB3.out _)).mono ?_; rintro e w4 ⟨rfl, hb4⟩; have hf := (hb4.block _ (by simp)).trans (HN3.out _); have HB4 := Lib.hid ((HB3.out _).trans (hb4.mono (HB3.out _).size)); have HP4 := Lib.hid ((HPS.out.below ((Below.refl _ w3).alloc (Nat.le_refl _) _) (Nat.le_refl _)).below hb4 (Nat.le_refl _)); have HF4 := Lib.hid hf; clear hb4 hf))
    obtain ⟨mm, hmm, hmi⟩ : ∃ mm, mm = k * p ∧ (k : Int) * (p : Int) = (mm : Int) := ⟨k * p, rfl, by simp⟩
    obtain ⟨qq, hqq⟩ : ∃ qq, qq = k * k := ⟨_, rfl⟩
    have hlt : mm + q < qq := by rw [hmm, hqq]; exact tix_lt (p := (p, q)) ⟨hp, hq⟩
    have hqb : qq ≤ 1000000 := by rw [hqq]; have := Nat.mul_le_mul hk24 hk24; omega
    have HKM : Hid (∀ V, Below w4.heap.size w4 V → Below w2.heap.size w2 V) := fun V h => HB4.out.trans (h.mono HB4.out.size)
    have HSTV : Hid (∀ V, Below w4.heap.size w4 V → Calls Try.prog 20 #[.slice Y k c] V fun e w' => (∃ g, e = .returned (.slice (some ⟨g, 0, none⟩) qq qq) ∧ w'.cell? ⟨g, mm + q, none⟩ = some (.bool b)) ∧ Below w4.heap.size w4 w') := fun V h => by
      refine (HST.out V (HKM.out V h)).mono ?_
      rintro e w' ⟨⟨g, vs, rfl, hl, ho, hif⟩, hb⟩
      rw [hqq]
      obtain ⟨hc, _⟩ := ho.tb_at hl rfl (i := p) (j := q) (m := mm) hp hq hmm
      have e : tb k vs (p, q) = b := by rw [Bool.eq_iff_iff, hif (p, q) ⟨hp, hq⟩, HHO.out]
      rw [e] at hc
      exact ⟨⟨g, rfl, hc⟩, h.trans (hb.mono h.size)⟩
    have HRTV : Hid (∀ V, Below w4.heap.size w4 V → Calls Try.prog 21 #[.slice Y k c, .int .i64 (p : Int), .int .i64 (q : Int), .agg #[.bool b, .slice X m d, .string t]] V fun e w' => e = .returned (.bool true) ∧ Below V.heap.size V w') := fun V h => (HRT.out V b X m d ps t (HKM.out V h) (HP4.out.below h (Nat.le_refl _)) HTS.out HPR.out)
    have HCKV : Hid (∀ V, Below w4.heap.size w4 V → Calls Try.prog 18 #[.slice Y k c, .int .i64 (p : Int), .int .i64 (q : Int), .agg #[.bool b, .slice X m d, .string t]] V fun e w' => e = .returned (.int .i64 0) ∧ Below V.heap.size V w') := fun V h => (HCK.out V b X m d ps t (HKM.out V h) (HP4.out.below h (Nat.le_refl _)) HTS.out HPR.out)
    have HAWV : Hid (∀ V, Below w4.heap.size w4 V → Calls Try.prog 19 #[] V fun e w' => e = .returned (.bool true) ∧ Below V.heap.size V w') := fun V h => (awake_here V)
    have HCE : Hid (∀ V, Below w4.heap.size w4 V → V.cell? ⟨w3.heap.size, 0, none⟩ = some (.bool b) ∧ V.cell? ⟨w3.heap.size, 1, none⟩ = some (.slice X m d) ∧ V.cell? ⟨w3.heap.size, 2, none⟩ = some (.string t)) := fun V h => by
      have hf := (h.block _ (Array.getElem?_eq_some_iff.1 HF4.out).1).trans HF4.out
      exact ⟨cell_in hf (i := 0) rfl, cell_in hf (i := 1) rfl, cell_in hf (i := 2) rfl⟩
    have HK4 : Hid (Below w4.heap.size w4 w4) := Below.refl _ _
    have HBF : Hid (Below w.heap.size w w4) := HBQ.out.trans (HB4.out.mono HBQ.out.size)
    have hbb : (b == b) = true := by simp
    have hw1 : IntKind.i64.wrap (mm : Int) = (mm : Int) := IntWalk.i64_in _ (by omega)
    have hw2 : IntKind.i64.wrap ((mm : Int) + (q : Int)) = (mm : Int) + (q : Int) := IntWalk.i64_in _ (by omega)
    have ht1 : ((mm : Int) + (q : Int)).toNat = mm + q := by omega
    have ht2 : (0 : Int) ≤ (mm : Int) + (q : Int) := by omega
    have ht3 : (mm : Int) + (q : Int) < (qq : Int) := by omega
    clear hmm hqq HSB HST HCK HRT HPS HPR HTS HHO HB3 HN3 HP4 HF4 HB4 HKM HBQ HTQ HNL HOK HLN HBAD HLX hp hq hlt hqb hk24 hk25
    refine wp_region_held_drew (S := fun V => V.cell? ⟨w3.heap.size, 0, none⟩ = some (.bool b) ∧ V.cell? ⟨w3.heap.size, 1, none⟩ = some (.slice X m d) ∧ V.cell? ⟨w3.heap.size, 2, none⟩ = some (.string t)) (by kernel_rfl) (HCE.out _ HK4.out.drew) (fun hHeld => ?_)
    refine wpAnyH_takeX (i := 0) (v := ?_) (by simp only [↓List.getElem?_toArray, ↓List.getElem?_cons_succ, ↓List.getElem?_cons_zero]; rfl) (by kernel_rfl) (by kernel_rfl) (by kernel_rfl) (by assumption) ?_ ?_ ?_
    rotate_left
    · exact fun _ _ _ h => h
    · exact Or.inl ⟨by rfl, by (intro V hV; (try dsimp only at hV); go_simp; try with_reducible rfl)⟩
    simp only [Act.put, List.setIfInBounds_toArray, List.set_cons_zero, List.set_cons_succ]
    refine wpAnyH_takeX (i := 1) (v := ?_) (by simp only [↓List.getElem?_toArray, ↓List.getElem?_cons_succ, ↓List.getElem?_cons_zero]; rfl) (by kernel_rfl) (by kernel_rfl) (by kernel_rfl) (by assumption) ?_ ?_ ?_
    rotate_left
    · exact fun _ _ _ h => h
    · exact Or.inl ⟨by rfl, by (intro V hV; (try dsimp only at hV); go_simp; try with_reducible rfl)⟩
    simp only [Act.put, List.setIfInBounds_toArray, List.set_cons_zero, List.set_cons_succ]
    refine wpAnyH_takeX (i := 2) (v := ?_) (by simp only [↓List.getElem?_toArray, ↓List.getElem?_cons_succ, ↓List.getElem?_cons_zero]; rfl) (by kernel_rfl) (by kernel_rfl) (by kernel_rfl) (by assumption) ?_ ?_ ?_
    rotate_left
    · exact fun _ _ _ h => h
    · exact Or.inl ⟨by rfl, by (intro V hV; (try dsimp only at hV); go_simp; try with_reducible rfl)⟩
    simp only [Act.put, List.setIfInBounds_toArray, List.set_cons_zero, List.set_cons_succ]
    refine wpAnyH_takeX (i := 3) (v := ?_) (by simp only [↓List.getElem?_toArray, ↓List.getElem?_cons_succ, ↓List.getElem?_cons_zero]; rfl) (by kernel_rfl) (by kernel_rfl) (by kernel_rfl) (by assumption) ?_ ?_ ?_
    rotate_left
    · exact fun _ _ _ h => h
    · exact Or.inl ⟨by rfl, by (intro V hV; (try dsimp only at hV); go_simp; try with_reducible rfl)⟩
    simp only [Act.put, List.setIfInBounds_toArray, List.set_cons_zero, List.set_cons_succ]
    refine wpAnyH_takeX (i := 4) (v := ?_) (by simp only [↓List.getElem?_toArray, ↓List.getElem?_cons_succ, ↓List.getElem?_cons_zero]; rfl) (by kernel_rfl) (by kernel_rfl) (by kernel_rfl) (by assumption) ?_ ?_ ?_
    rotate_left
    · exact fun _ _ _ h => h
    · exact Or.inl ⟨by rfl, by (intro V hV; (try dsimp only at hV); go_simp; try with_reducible rfl)⟩
    simp only [Act.put, List.setIfInBounds_toArray, List.set_cons_zero, List.set_cons_succ]
    refine wpAnyH_takeX (i := 5) (v := ?_) (by simp only [↓List.getElem?_toArray, ↓List.getElem?_cons_succ, ↓List.getElem?_cons_zero]; rfl) (by kernel_rfl) (by kernel_rfl) (by kernel_rfl) (by assumption) ?_ ?_ ?_
    rotate_left
    · exact fun _ _ _ h => h
    · exact Or.inl ⟨by rfl, by (intro V hV; (try dsimp only at hV); go_simp; try with_reducible rfl)⟩
    simp only [Act.put, List.setIfInBounds_toArray, List.set_cons_zero, List.set_cons_succ]
    refine wpAnyH_takeX (i := 7) (v := ?_) (by simp only [↓List.getElem?_toArray, ↓List.getElem?_cons_succ, ↓List.getElem?_cons_zero]; rfl) (by kernel_rfl) (by kernel_rfl) (by kernel_rfl) (by assumption) ?_ ?_ ?_
    rotate_left
    · exact fun _ _ _ h => h
    · exact Or.inl ⟨by rfl, by (intro V hV; (try dsimp only at hV); go_simp; try with_reducible rfl)⟩
    simp only [Act.put, List.setIfInBounds_toArray, List.set_cons_zero, List.set_cons_succ]
    refine wpAnyH_takeX (i := 8) (v := ?_) (by simp only [↓List.getElem?_toArray, ↓List.getElem?_cons_succ, ↓List.getElem?_cons_zero]; rfl) (by kernel_rfl) (by kernel_rfl) (by kernel_rfl) (by assumption) ?_ ?_ ?_
    rotate_left
    · exact fun _ _ _ h => h
    · exact Or.inl ⟨by rfl, by (intro V hV; (try dsimp only at hV); go_simp; try with_reducible rfl)⟩
    simp only [Act.put, List.setIfInBounds_toArray, List.set_cons_zero, List.set_cons_succ]
    refine wpAnyH_takeX (i := 9) (v := ?_) (by simp only [↓List.getElem?_toArray, ↓List.getElem?_cons_succ, ↓List.getElem?_cons_zero]; rfl) (by kernel_rfl) (by kernel_rfl) (by kernel_rfl) (by assumption) ?_ ?_ ?_
    rotate_left
    · exact fun _ _ _ h => h
    · exact Or.inl ⟨by rfl, by (intro V hV; (try dsimp only at hV); go_simp; try with_reducible rfl)⟩
    simp only [Act.put, List.setIfInBounds_toArray, List.set_cons_zero, List.set_cons_succ]
    refine wpAnyH_takeX (i := 10) (v := ?_) (by simp only [↓List.getElem?_toArray, ↓List.getElem?_cons_succ, ↓List.getElem?_cons_zero]; rfl) (by kernel_rfl) (by kernel_rfl) (by kernel_rfl) (by assumption) ?_ ?_ ?_
    rotate_left
    · exact fun _ _ _ h => h
    · exact Or.inl ⟨by rfl, by (intro V hV; (try dsimp only at hV); go_simp; try with_reducible rfl)⟩
    simp only [Act.put, List.setIfInBounds_toArray, List.set_cons_zero, List.set_cons_succ]
    refine wpAnyH_takeX (i := 11) (v := ?_) (by simp only [↓List.getElem?_toArray, ↓List.getElem?_cons_succ, ↓List.getElem?_cons_zero]; rfl) (by kernel_rfl) (by kernel_rfl) (by kernel_rfl) (by assumption) ?_ ?_ ?_
    rotate_left
    · exact fun _ _ _ h => h
    · exact Or.inl ⟨by rfl, by (intro V hV; (try dsimp only at hV); go_simp; try with_reducible rfl)⟩
    simp only [Act.put, List.setIfInBounds_toArray, List.set_cons_zero, List.set_cons_succ]
    refine wpAnyH_takeX (i := 12) (v := ?_) (by simp only [↓List.getElem?_toArray, ↓List.getElem?_cons_succ, ↓List.getElem?_cons_zero]; rfl) (by kernel_rfl) (by kernel_rfl) (by kernel_rfl) (by assumption) ?_ ?_ ?_
    rotate_left
    · exact fun _ _ _ h => h
    · exact Or.inl ⟨by rfl, by (intro V hV; (try dsimp only at hV); go_simp; try with_reducible rfl)⟩
    simp only [Act.put, List.setIfInBounds_toArray, List.set_cons_zero, List.set_cons_succ]
    refine wpAnyH_ready (rs := [6]) (by kernel_rfl) (by simp) ?_
    refine AllReadyH.cons rfl (fun K hK => ?_) AllReadyH.nil
    go_simp
    go_wp2_with (go_at_call 20; refine (HSTV.out _ (by first | exact HK4.out | exact HK4.out.drew)).mono ?_; rintro e w5 ⟨⟨g5, rfl, hc5⟩, hb5⟩; have HK5 := Lib.hid hb5; clear hb5)
    refine hK.out _ _ ?_ (fun hHeld => ?_)
    · exact HCE.out _ HK5.out
    clear hK K
    have HTC : Hid (∀ V, Below w5.heap.size w5 V → V.cell? ⟨g5, mm + q, none⟩ = some (.bool b)) := fun V h => (h.cell (lt_of_cell hc5)).trans hc5
    refine wpAnyH_weak (S' := fun V => V.cell? ⟨g5, mm + q, none⟩ = some (.bool b) ∧ V.cell? ⟨w3.heap.size, 0, none⟩ = some (.bool b) ∧ V.cell? ⟨w3.heap.size, 1, none⟩ = some (.slice X m d) ∧ V.cell? ⟨w3.heap.size, 2, none⟩ = some (.string t)) (fun V h => h.2) _ _ _ _ ?_
    replace hHeld := And.intro hc5 hHeld
    clear hc5
    refine wpAnyH_takeX (i := 13) (v := ?_) (by simp only [↓List.getElem?_toArray, ↓List.getElem?_cons_succ, ↓List.getElem?_cons_zero]; rfl) (by kernel_rfl) (by kernel_rfl) (by kernel_rfl) (by assumption) ?_ ?_ ?_
    rotate_left
    · exact fun _ _ _ h => h
    · exact Or.inl ⟨by rfl, by (intro V hV; (try dsimp only at hV); go_simp; try with_reducible rfl)⟩
    simp only [Act.put, List.setIfInBounds_toArray, List.set_cons_zero, List.set_cons_succ]
    refine wpAnyH_takeX (i := 14) (v := ?_) (by simp only [↓List.getElem?_toArray, ↓List.getElem?_cons_succ, ↓List.getElem?_cons_zero]; rfl) (by kernel_rfl) (by kernel_rfl) (by kernel_rfl) (by assumption) ?_ ?_ ?_
    rotate_left
    · exact fun _ _ _ h => h
    · exact Or.inl ⟨by rfl, by (intro V hV; (try dsimp only at hV); go_simp; try with_reducible rfl)⟩
    simp only [Act.put, List.setIfInBounds_toArray, List.set_cons_zero, List.set_cons_succ]
    refine wpAnyH_takeX (i := 15) (v := ?_) (by simp only [↓List.getElem?_toArray, ↓List.getElem?_cons_succ, ↓List.getElem?_cons_zero]; rfl) (by kernel_rfl) (by kernel_rfl) (by kernel_rfl) (by assumption) ?_ ?_ ?_
    rotate_left
    · exact fun _ _ _ h => h
    · exact Or.inl ⟨by rfl, by (intro V hV; (try dsimp only at hV); go_simp; try with_reducible rfl)⟩
    simp only [Act.put, List.setIfInBounds_toArray, List.set_cons_zero, List.set_cons_succ]
    refine wpAnyH_takeX (i := 16) (v := ?_) (by simp only [↓List.getElem?_toArray, ↓List.getElem?_cons_succ, ↓List.getElem?_cons_zero]; rfl) (by kernel_rfl) (by kernel_rfl) (by kernel_rfl) (by assumption) ?_ ?_ ?_
    rotate_left
    · exact fun _ _ _ h => h
    · exact Or.inl ⟨by rfl, by (intro V hV; (try dsimp only at hV); go_simp; try with_reducible rfl)⟩
    simp only [Act.put, List.setIfInBounds_toArray, List.set_cons_zero, List.set_cons_succ]
    refine wpAnyH_takeX (i := 17) (v := ?_) (by simp only [↓List.getElem?_toArray, ↓List.getElem?_cons_succ, ↓List.getElem?_cons_zero]; rfl) (by kernel_rfl) (by kernel_rfl) (by kernel_rfl) (by assumption) ?_ ?_ ?_
    rotate_left
    · exact fun _ _ _ h => h
    · exact Or.inl ⟨by rfl, by (intro V hV; (try dsimp only at hV); go_simp; try with_reducible rfl)⟩
    simp only [Act.put, List.setIfInBounds_toArray, List.set_cons_zero, List.set_cons_succ]
    refine wpAnyH_takeX (i := 18) (v := ?_) (by simp only [↓List.getElem?_toArray, ↓List.getElem?_cons_succ, ↓List.getElem?_cons_zero]; rfl) (by kernel_rfl) (by kernel_rfl) (by kernel_rfl) (by assumption) ?_ ?_ ?_
    rotate_left
    · exact fun _ _ _ h => h
    · exact Or.inl ⟨by rfl, by (intro V hV; (try dsimp only at hV); go_simp; try with_reducible rfl)⟩
    simp only [Act.put, List.setIfInBounds_toArray, List.set_cons_zero, List.set_cons_succ]
    refine wpAnyH_takeX (i := 19) (v := ?_) (by simp only [↓List.getElem?_toArray, ↓List.getElem?_cons_succ, ↓List.getElem?_cons_zero]; rfl) (by kernel_rfl) (by kernel_rfl) (by kernel_rfl) (by assumption) ?_ ?_ ?_
    rotate_left
    · exact fun _ _ _ h => h
    · exact Or.inl ⟨by rfl, by (intro V hV; (try dsimp only at hV); go_simp; try with_reducible rfl)⟩
    simp only [Act.put, List.setIfInBounds_toArray, List.set_cons_zero, List.set_cons_succ]
    refine wpAnyH_takeX (i := 20) (v := ?_) (by simp only [↓List.getElem?_toArray, ↓List.getElem?_cons_succ, ↓List.getElem?_cons_zero]; rfl) (by kernel_rfl) (by kernel_rfl) (by kernel_rfl) (by assumption) ?_ ?_ ?_
    rotate_left
    · exact fun _ _ _ h => h
    · exact Or.inl ⟨by rfl, by (intro V hV; (try dsimp only at hV); go_simp; try with_reducible rfl)⟩
    simp only [Act.put, List.setIfInBounds_toArray, List.set_cons_zero, List.set_cons_succ]
    refine wpAnyH_takeX (i := 21) (v := ?_) (by simp only [↓List.getElem?_toArray, ↓List.getElem?_cons_succ, ↓List.getElem?_cons_zero]; rfl) (by kernel_rfl) (by kernel_rfl) (by kernel_rfl) (by assumption) ?_ ?_ ?_
    rotate_left
    · exact fun _ _ _ h => h
    · exact Or.inl ⟨by rfl, by (intro V hV; (try dsimp only at hV); go_simp; try with_reducible rfl)⟩
    simp only [Act.put, List.setIfInBounds_toArray, List.set_cons_zero, List.set_cons_succ]
    refine wpAnyH_ready (rs := [22]) (by kernel_rfl) (by simp) ?_
    refine AllReadyH.cons rfl (fun K hK => ?_) AllReadyH.nil
    go_simp
    go_wp2_with (go_at_call 21; refine (HRTV.out _ HK5.out).mono ?_; rintro e w6 ⟨rfl, hb6⟩; have HK6 := Lib.hid (HK5.out.trans (hb6.mono HK5.out.size)); have HT6 := Lib.hid hb6; clear hb6)
    refine hK.out _ _ ?_ (fun hHeld => ?_)
    · exact ⟨HTC.out _ HT6.out, HCE.out _ HK6.out⟩
    clear hK K
    refine wpAnyH_takeX (i := 23) (v := ?_) (by simp only [↓List.getElem?_toArray, ↓List.getElem?_cons_succ, ↓List.getElem?_cons_zero]; rfl) (by kernel_rfl) (by kernel_rfl) (by kernel_rfl) (by assumption) ?_ ?_ ?_
    rotate_left
    · exact fun _ _ _ h => h
    · exact Or.inl ⟨by rfl, by (intro V hV; (try dsimp only at hV); go_simp; try with_reducible rfl)⟩
    simp only [Act.put, List.setIfInBounds_toArray, List.set_cons_zero, List.set_cons_succ]
    refine wpAnyH_takeX (i := 24) (v := ?_) (by simp only [↓List.getElem?_toArray, ↓List.getElem?_cons_succ, ↓List.getElem?_cons_zero]; rfl) (by kernel_rfl) (by kernel_rfl) (by kernel_rfl) (by assumption) ?_ ?_ ?_
    rotate_left
    · exact fun _ _ _ h => h
    · exact Or.inl ⟨by rfl, by (intro V hV; (try dsimp only at hV); go_simp; try with_reducible rfl)⟩
    simp only [Act.put, List.setIfInBounds_toArray, List.set_cons_zero, List.set_cons_succ]
    refine wpAnyH_takeX (i := 25) (v := ?_) (by simp only [↓List.getElem?_toArray, ↓List.getElem?_cons_succ, ↓List.getElem?_cons_zero]; rfl) (by kernel_rfl) (by kernel_rfl) (by kernel_rfl) (by assumption) ?_ ?_ ?_
    rotate_left
    · exact fun _ _ _ h => h
    · exact Or.inl ⟨by rfl, by (intro V hV; (try dsimp only at hV); go_simp; try with_reducible rfl)⟩
    simp only [Act.put, List.setIfInBounds_toArray, List.set_cons_zero, List.set_cons_succ]
    refine wpAnyH_takeX (i := 26) (v := ?_) (by simp only [↓List.getElem?_toArray, ↓List.getElem?_cons_succ, ↓List.getElem?_cons_zero]; rfl) (by kernel_rfl) (by kernel_rfl) (by kernel_rfl) (by assumption) ?_ ?_ ?_
    rotate_left
    · exact fun _ _ _ h => h
    · exact Or.inl ⟨by rfl, by (intro V hV; (try dsimp only at hV); go_simp; try with_reducible rfl)⟩
    simp only [Act.put, List.setIfInBounds_toArray, List.set_cons_zero, List.set_cons_succ]
    refine wpAnyH_takeX (i := 27) (v := ?_) (by simp only [↓List.getElem?_toArray, ↓List.getElem?_cons_succ, ↓List.getElem?_cons_zero]; rfl) (by kernel_rfl) (by kernel_rfl) (by kernel_rfl) (by assumption) ?_ ?_ ?_
    rotate_left
    · exact fun _ _ _ h => h
    · exact Or.inl ⟨by rfl, by (intro V hV; (try dsimp only at hV); go_simp; try with_reducible rfl)⟩
    simp only [Act.put, List.setIfInBounds_toArray, List.set_cons_zero, List.set_cons_succ]
    refine wpAnyH_takeX (i := 28) (v := ?_) (by simp only [↓List.getElem?_toArray, ↓List.getElem?_cons_succ, ↓List.getElem?_cons_zero]; rfl) (by kernel_rfl) (by kernel_rfl) (by kernel_rfl) (by assumption) ?_ ?_ ?_
    rotate_left
    · exact fun _ _ _ h => h
    · exact Or.inl ⟨by rfl, by (intro V hV; (try dsimp only at hV); go_simp; try with_reducible rfl)⟩
    simp only [Act.put, List.setIfInBounds_toArray, List.set_cons_zero, List.set_cons_succ]
    refine wpAnyH_ready (rs := [29]) (by kernel_rfl) (by simp) ?_
    refine AllReadyH.cons rfl (fun K hK => ?_) AllReadyH.nil
    go_simp
    go_wp2_with (go_at_call 18; refine (HCKV.out _ HK6.out).mono ?_; rintro e w7 ⟨rfl, hb7⟩; have HK7 := Lib.hid (HK6.out.trans (hb7.mono HK6.out.size)); have HT7 := Lib.hid (HT6.out.trans (hb7.mono HT6.out.size)); clear hb7)
    refine hK.out _ _ ?_ (fun hHeld => ?_)
    · exact ⟨HTC.out _ HT7.out, HCE.out _ HK7.out⟩
    clear hK K
    refine wpAnyH_takeX (i := 30) (v := ?_) (by simp only [↓List.getElem?_toArray, ↓List.getElem?_cons_succ, ↓List.getElem?_cons_zero]; rfl) (by kernel_rfl) (by kernel_rfl) (by kernel_rfl) (by assumption) ?_ ?_ ?_
    rotate_left
    · exact fun _ _ _ h => h
    · exact Or.inl ⟨by rfl, by (intro V hV; (try dsimp only at hV); go_simp; try with_reducible rfl)⟩
    simp only [Act.put, List.setIfInBounds_toArray, List.set_cons_zero, List.set_cons_succ]
    refine wpAnyH_takeX (i := 31) (v := ?_) (by simp only [↓List.getElem?_toArray, ↓List.getElem?_cons_succ, ↓List.getElem?_cons_zero]; rfl) (by kernel_rfl) (by kernel_rfl) (by kernel_rfl) (by assumption) ?_ ?_ ?_
    rotate_left
    · exact fun _ _ _ h => h
    · exact Or.inl ⟨by rfl, by (intro V hV; (try dsimp only at hV); go_simp; try with_reducible rfl)⟩
    simp only [Act.put, List.setIfInBounds_toArray, List.set_cons_zero, List.set_cons_succ]
    refine wpAnyH_takeX (i := 32) (v := ?_) (by simp only [↓List.getElem?_toArray, ↓List.getElem?_cons_succ, ↓List.getElem?_cons_zero]; rfl) (by kernel_rfl) (by kernel_rfl) (by kernel_rfl) (by assumption) ?_ ?_ ?_
    rotate_left
    · exact fun _ _ _ h => h
    · exact Or.inl ⟨by rfl, by (intro V hV; (try dsimp only at hV); go_simp; try with_reducible rfl)⟩
    simp only [Act.put, List.setIfInBounds_toArray, List.set_cons_zero, List.set_cons_succ]
    refine wpAnyH_ready (rs := [33]) (by kernel_rfl) (by simp) ?_
    refine AllReadyH.cons rfl (fun K hK => ?_) AllReadyH.nil
    go_simp
    go_wp2_with (go_at_call 19; refine (HAWV.out _ HK7.out).mono ?_; rintro e w8 ⟨rfl, hb8⟩; have HK8 := Lib.hid (HK7.out.trans (hb8.mono HK7.out.size)); have HT8 := Lib.hid (HT7.out.trans (hb8.mono HT7.out.size)); clear hb8)
    refine hK.out _ _ ?_ (fun hHeld => ?_)
    · exact ⟨HTC.out _ HT8.out, HCE.out _ HK8.out⟩
    clear hK K
    refine wpAnyH_takeX (i := 34) (v := ?_) (by simp only [↓List.getElem?_toArray, ↓List.getElem?_cons_succ, ↓List.getElem?_cons_zero]; rfl) (by kernel_rfl) (by kernel_rfl) (by kernel_rfl) (by assumption) ?_ ?_ ?_
    rotate_left
    · exact fun _ _ _ h => h
    · exact Or.inl ⟨by rfl, by (intro V hV; (try dsimp only at hV); go_simp; try with_reducible rfl)⟩
    simp only [Act.put, List.setIfInBounds_toArray, List.set_cons_zero, List.set_cons_succ]
    refine wpAnyH_takeX (i := 35) (v := ?_) (by simp only [↓List.getElem?_toArray, ↓List.getElem?_cons_succ, ↓List.getElem?_cons_zero]; rfl) (by kernel_rfl) (by kernel_rfl) (by kernel_rfl) (by assumption) ?_ ?_ ?_
    rotate_left
    · exact fun _ _ _ h => h
    · exact Or.inl ⟨by rfl, by (intro V hV; (try dsimp only at hV); go_simp; try with_reducible rfl)⟩
    simp only [Act.put, List.setIfInBounds_toArray, List.set_cons_zero, List.set_cons_succ]
    refine wpAnyH_done (by kernel_rfl) ?_ _
    go_wp2
    go_ret
    exact ⟨rfl, HBF.out.trans (HK8.out.mono HBF.out.size)⟩
end Go.Proofs.Ytieaolihdbcekaa
