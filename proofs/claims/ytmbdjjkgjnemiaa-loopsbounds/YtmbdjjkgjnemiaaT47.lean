import Derived.Test.YtmbdjjkgjnemiaaT46
import Derived.Test.YtmbdjjkgjnemiaaT43
import Derived.Test.YtmbdjjkgjnemiaaT22
/- Layer 6: the walk of LoopsBounds. -/
namespace Go.Proofs.Ytmbdjjkgjnemiaa
open Go.RowKit
set_option linter.unusedVariables false

theorem bad2_orQ (xs : List Ty) (i j : Int) : (bad2 xs i j ∧ badB xs i j = true) ∨ (valB xs = true ∧ badB xs i j = false ∧ ∃ p q : Nat, i = (p : Int) ∧ j = (q : Int) ∧ p < xs.length ∧ q < xs.length) := by
  unfold bad2 badB
  rcases h : (valB xs && (inB xs.length i && inB xs.length j)) with _ | _
  · exact .inl ⟨rfl, rfl⟩
  · rw [Bool.and_eq_true, Bool.and_eq_true, inB_iff, inB_iff] at h
    exact .inr ⟨h.1, rfl, i.toNat, j.toNat, by omega, by omega, by omega, by omega⟩
theorem goC_nl {N : List Nd} (hok : OkN N) {g : Tri} (hg : OkG N.length g) (hn : N.length ≤ 24) {can : List Nd} (h : GoC N g can) {w : World} {B : Nat} {y : Value} (ho : Ow3 w B y can) : ∃ Y m d, y = .slice Y m d ∧ Nl w Y m d can := by
  obtain ⟨R, _, _, hoc, _, hlen⟩ := h.rep hok hg
  have hm := Nat.mul_le_mul hn hn
  obtain ⟨Y, d, rfl, hnl⟩ := ho.nl (n := can.length) rfl hoc.pos (by omega)
  exact ⟨Y, _, d, rfl, hnl⟩
theorem boundR_at (N : List Nd) (A : Option Addr) (n c u p q : Nat) (b : Bool) (can : List Nd) (w : World) (hN : Nl w A n c N) (hok : OkN N) (hu : u ≤ 1) (hp : p < n) (hq : q < n) (hn : n ≤ 24) (hb : decide (u = 0) = b) (hc : GoC N (u, p, q) can) :
    Calls Try.prog 30 #[.slice A n c, .int .i64 (p : Int), .int .i64 (q : Int), .bool b] w fun e w' => (∃ Y m d, e = .returned (.slice Y m d) ∧ Nl w' Y m d can) ∧ Below w.heap.size w w' := by
  have hl := hN.len
  have hg : OkG N.length ((u, p, q) : Tri) := ⟨hu, by rw [hl]; exact hp, by rw [hl]; exact hq⟩
  have h := boundR_any N A n c (u, p, q) w hN hok ⟨hu, hp, hq⟩ hn
  dsimp only at h
  rw [hb] at h
  refine h.mono ?_
  rintro e w' ⟨⟨y, can', rfl, hg', ho⟩, hb'⟩
  have e := hc.uniq hg' hok hg
  subst e
  obtain ⟨Y, m, d, rfl, hnl⟩ := goC_nl hok hg (by omega) hg' ho
  exact ⟨⟨Y, m, d, rfl, hnl⟩, hb'⟩
set_option maxRecDepth 100000 in
set_option maxHeartbeats 12800000 in
theorem bounds_walk (zs : List Ty) (A : Option Addr) (len cap : Nat) (x0 x1 : Int) (w : World) (hT : Tl w A len cap zs) :
    Calls Try.prog 6 #[.slice A len cap, .agg #[.int .i64 x0, .int .i64 x1]] w fun e w' => e = .returned (.bool true) ∧ Below w.heap.size w w' := by
  obtain ⟨W, hW⟩ : ∃ W, W = w.alloc (.cells #[.int .i64 x0, .int .i64 x1] 23) := ⟨_, rfl⟩
  have hb : Below w.heap.size w W := by rw [hW]; exact (Below.refl _ w).alloc (Nat.le_refl _) _
  have hbx : W.heap[w.heap.size]? = some (.cells #[.int .i64 x0, .int .i64 x1] 23 (0, 0)) := by rw [hW]; exact heap_alloc_new _ _
  have hsz : w.heap.size < W.heap.size := by rw [hW]; simp
  have HOWN := Lib.hid (own_any zs A len cap W (hT.below hb (Nat.le_refl _)))
  have HB := Lib.hid hb
  have HW := Lib.hid hW
  have HBX := Lib.hid hbx
  clear hb hW hbx hT
  go_enter Try.func6, Try.ntmps6
  go_wp2_with (go_at_call 15; rw [← HW.out]; refine HOWN.out.mono ?_; rintro e w1 ⟨⟨Y, k, c, rfl, hk25, htl⟩, hb1⟩)
  have hbx1 := (hb1.block _ hsz).trans HBX.out
  have k0 := cell_in hbx1 (i := 0) rfl
  have k1 := cell_in hbx1 (i := 1) rfl
  have HB1 := Lib.hid (HB.out.trans (hb1.mono HB.out.size))
  have HTL := Lib.hid htl
  clear hb1 htl hbx1 HOWN HB HW HBX hsz
  go_quiet (fail)
  clear k0 k1
  have HBQ : Hid (Below w.heap.size w (w1.drewN nq)) := below_dn HB1.out _
  have HTQ : Hid (Tl (w1.drewN nq) Y k c (cutT zs)) := HTL.out.dr ⟨nq, rfl⟩
  generalize w1.drewN nq = w2 at *
  clear HB1 HTL
  generalize cutT zs = xs at *
  have HLX : Hid (xs.length = k) := HTQ.out.len
  have HBAD := Lib.hid (fun W h => bad_any xs Y k c x0 x1 W (HTQ.out.below h (Nat.le_refl w2.heap.size)))
  have HAW := Lib.hid (fun W => awake_here W)
  rcases bad2_orQ xs x0 x1 with ⟨hbad, hbb⟩ | ⟨hv, hbb, p, q, rfl, rfl, hp, hq⟩
  · have HJB := Lib.hid (join_bad xs Y k c x0 x1 w2 HTQ.out hbad)
    have HMB := Lib.hid (fun W h => meet_bad xs Y k c x0 x1 W (HTQ.out.below h (Nat.le_refl w2.heap.size)) hbad)
    rw [hbb] at HBAD
    clear hbad hbb HTQ
    go_wp2_with (first
      | (go_at_call 28; (with_reducible refine HJB.out.mono ?_); rintro e w3 ⟨rfl, hb3⟩; have HB3 := Lib.hid hb3; clear hb3)
      | (go_at_call 29; (with_reducible refine (HMB.out _ HB3.out).mono ?_); rintro e w4 ⟨rfl, hb4⟩; have HB4 := Lib.hid (HB3.out.trans (hb4.mono HB3.out.size)); clear hb4)
      | (go_at_call 17; (with_reducible refine (HBAD.out _ HB4.out).mono ?_); rintro e w5 ⟨rfl, hb5⟩; have HB5 := Lib.hid (HB4.out.trans (hb5.mono HB4.out.size)); clear hb5)
      | (go_at_call 19; refine (HAW.out _).mono ?_; rintro e w9 ⟨rfl, hb9⟩))
    go_ret
    exact ⟨rfl, HBQ.out.trans ((HB5.out.trans (hb9.mono HB5.out.size)).mono HBQ.out.size)⟩
  · have hk24 : k ≤ 24 := by have := (valB_len hv).2; have := HLX.out; omega
    rw [HLX.out] at hp hq
    have hNL := HTQ.out.nl hv
    have hOK := valB_ok hv
    have hln := hNL.len
    obtain ⟨N, hNe⟩ : ∃ N, N = toN xs := ⟨_, rfl⟩
    have hj := join_any xs Y k c p q w2 HTQ.out hv hp hq
    have hm : ∀ W, Below w2.heap.size w2 W → _ := fun W h => meet_any xs Y k c p q W (HTQ.out.below h (Nat.le_refl w2.heap.size)) hv hp hq
    rw [← hNe] at hNL hOK hln hj
    have hgj : OkG N.length ((0, p, q) : Tri) := ⟨Nat.zero_le _, by rw [hln]; exact hp, by rw [hln]; exact hq⟩
    have hgm : OkG N.length ((1, p, q) : Tri) := ⟨Nat.le_refl _, by rw [hln]; exact hp, by rw [hln]; exact hq⟩
    have HJ : Hid (Calls Try.prog 28 #[.slice Y k c, .int .i64 (p : Int), .int .i64 (q : Int)] w2 fun e w' => (∃ Z m d can, e = .returned (.tuple #[.slice Z m d, .int .i64 0]) ∧ GoC N (0, p, q) can ∧ Nl w' Z m d can) ∧ Below w2.heap.size w2 w') := by
      refine hj.mono ?_
      rintro e w' ⟨⟨y, can, rfl, hg, ho⟩, hb⟩
      obtain ⟨Z, m, d, rfl, hnl⟩ := goC_nl hOK hgj (by omega) hg ho
      exact ⟨⟨Z, m, d, can, rfl, hg, hnl⟩, hb⟩
    have HM : Hid (∀ W, Below w2.heap.size w2 W → Calls Try.prog 29 #[.slice Y k c, .int .i64 (p : Int), .int .i64 (q : Int)] W fun e w' => (∃ Z m d can, e = .returned (.tuple #[.slice Z m d, .int .i64 0]) ∧ GoC N (1, p, q) can ∧ Nl w' Z m d can) ∧ Below W.heap.size W w') := fun W h => by
      refine (hm W h).mono ?_
      rintro e w' ⟨⟨y, can, rfl, hg, ho⟩, hb⟩
      rw [← hNe] at hg
      obtain ⟨Z, m, d, rfl, hnl⟩ := goC_nl hOK hgm (by omega) hg ho
      exact ⟨⟨Z, m, d, can, rfl, hg, hnl⟩, hb⟩
    have HNL := Lib.hid hNL
    have HOK := Lib.hid hOK
    have HB1 := Lib.hid (fun can W (h : Below w2.heap.size w2 W) hc => boundR_at N Y k c 0 p q true can W (hNL.below h (Nat.le_refl w2.heap.size)) hOK (Nat.zero_le _) hp hq hk24 rfl hc)
    have HB2 := Lib.hid (fun can W (h : Below w2.heap.size w2 W) hc => boundR_at N Y k c 1 p q false can W (hNL.below h (Nat.le_refl w2.heap.size)) hOK (Nat.le_refl _) hp hq hk24 rfl hc)
    rw [hbb] at HBAD
    clear hj hm hNL hOK hgj hgm hNe hbb hv HTQ
    go_wp2_with (first
      | (go_at_call 28; (with_reducible refine HJ.out.mono ?_); rintro e w3 ⟨⟨Z1, m1, d1, c1, rfl, hg1, hn1⟩, hb3⟩; have HB3 := Lib.hid hb3; have HG1 := Lib.hid hg1; have HN1 := Lib.hid hn1; clear hb3 hg1 hn1)
      | (go_at_call 29; (with_reducible refine (HM.out _ HB3.out).mono ?_); rintro e w4 ⟨⟨Z2, m2, d2, c2, rfl, hg2, hn2⟩, hb4⟩; have HB4 := Lib.hid (HB3.out.trans (hb4.mono HB3.out.size)); have HG2 := Lib.hid hg2; have HN2 := Lib.hid hn2; have HN14 := Lib.hid (HN1.out.below hb4 (Nat.le_refl _)); clear hb4 hg2 hn2)
      | (go_at_call 17; (with_reducible refine (HBAD.out _ HB4.out).mono ?_); rintro e w5 ⟨rfl, hb5⟩; have HB5 := Lib.hid (HB4.out.trans (hb5.mono HB4.out.size)); have HN15 := Lib.hid (HN14.out.below hb5 (Nat.le_refl _)); have HN25 := Lib.hid (HN2.out.below hb5 (Nat.le_refl _)); clear hb5)
      | (go_at_call 30; (with_reducible refine (HB1.out c1 _ HB5.out HG1.out).mono ?_); rintro e w6 ⟨⟨Z3, m3, d3, rfl, hn3⟩, hb6⟩; have HB6 := Lib.hid (HB5.out.trans (hb6.mono HB5.out.size)); have HTS := Lib.hid (types_same c1 Z1 Z3 m1 d1 m3 d3 _ (HN15.out.below hb6 (Nat.le_refl _)) hn3); have HN26 := Lib.hid (HN25.out.below hb6 (Nat.le_refl _)); clear hb6 hn3)
      | (go_at_call 25; (with_reducible refine HTS.out.mono ?_); rintro e w7 ⟨rfl, hb7⟩; have HB7 := Lib.hid (HB6.out.trans (hb7.mono HB6.out.size)); have HN27 := Lib.hid (HN26.out.below hb7 (Nat.le_refl _)); clear hb7)
      | (go_at_call 30; (with_reducible refine (HB2.out c2 _ HB7.out HG2.out).mono ?_); rintro e w8 ⟨⟨Z4, m4, d4, rfl, hn4⟩, hb8⟩; have HB8 := Lib.hid (HB7.out.trans (hb8.mono HB7.out.size)); have HTT := Lib.hid (types_same c2 Z2 Z4 m2 d2 m4 d4 _ (HN27.out.below hb8 (Nat.le_refl _)) hn4); clear hb8 hn4)
      | (go_at_call 25; (with_reducible refine HTT.out.mono ?_); rintro e w9 ⟨rfl, hb9⟩; have HB9 := Lib.hid (HB8.out.trans (hb9.mono HB8.out.size)); clear hb9)
      | (go_at_call 19; refine (HAW.out _).mono ?_; rintro e wg ⟨rfl, hbg⟩))
    go_ret
    exact ⟨rfl, HBQ.out.trans ((HB9.out.trans (hbg.mono HB9.out.size)).mono HBQ.out.size)⟩
end Go.Proofs.Ytmbdjjkgjnemiaa
