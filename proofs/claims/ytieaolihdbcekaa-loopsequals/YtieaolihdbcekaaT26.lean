import Derived.Test.YtieaolihdbcekaaT25
import Derived.Test.YtieaolihdbcekaaT22
import Derived.Test.YtieaolihdbcekaaT10
/- Layer 6: the walk of LoopsEquals. -/
namespace Go.Proofs.Ytieaolihdbcekaa
open Go.RowKit
set_option linter.unusedVariables false

theorem bad1_or (xs : List Ty) (i : Int) : ((valB xs && inB xs.length i) = false ∧ badB xs i i = true ∧ ∀ j, bad2 xs i j) ∨ (valB xs = true ∧ badB xs i i = false ∧ ∃ p : Nat, i = (p : Int) ∧ p < xs.length) := by
  unfold bad2 badB
  rcases h : (valB xs && inB xs.length i) with _ | _
  · refine .inl ⟨rfl, ?_, fun j => ?_⟩
    · cases hv : valB xs
      · rfl
      · rw [hv] at h
        rw [show inB xs.length i = false from h]; rfl
    · cases hv : valB xs
      · rfl
      · rw [hv] at h
        rw [show inB xs.length i = false from h]; rfl
  · rw [Bool.and_eq_true] at h
    have h2 := inB_iff.1 h.2
    exact .inr ⟨h.1, by rw [h.1, h.2]; rfl, i.toNat, by omega, by omega⟩
theorem bad2_at (xs : List Ty) (p : Nat) (j : Int) (hv : valB xs = true) (hp : p < xs.length) : (bad2 xs (p : Int) j ∧ badB xs (p : Int) j = true) ∨ (badB xs (p : Int) j = false ∧ ∃ q : Nat, j = (q : Int) ∧ q < xs.length) := by
  unfold bad2 badB
  rw [hv, inB_nat hp]
  rcases h : inB xs.length j with _ | _
  · exact .inl ⟨rfl, rfl⟩
  · have h2 := inB_iff.1 h
    exact .inr ⟨rfl, j.toNat, by omega, by omega⟩
set_option maxRecDepth 100000 in
set_option maxHeartbeats 12800000 in
theorem equals_walk (zs : List Ty) (A : Option Addr) (len cap : Nat) (x0 x1 : Int) (w : World) (hT : Tl w A len cap zs) :
    Calls Try.prog 5 #[.slice A len cap, .agg #[.int .i64 x0, .int .i64 x1]] w fun e w' => e = .returned (.bool true) ∧ Below w.heap.size w w' := by
  obtain ⟨W, hW⟩ : ∃ W, W = w.alloc (.cells #[.int .i64 x0, .int .i64 x1] 23) := ⟨_, rfl⟩
  have hb : Below w.heap.size w W := by rw [hW]; exact (Below.refl _ w).alloc (Nat.le_refl _) _
  have hbx : W.heap[w.heap.size]? = some (.cells #[.int .i64 x0, .int .i64 x1] 23 (0, 0)) := by rw [hW]; exact heap_alloc_new _ _
  have hsz : w.heap.size < W.heap.size := by rw [hW]; simp
  have HOWN := Lib.hid (own_any zs A len cap W (hT.below hb (Nat.le_refl _)))
  have HB := Lib.hid hb
  have HW := Lib.hid hW
  have HBX := Lib.hid hbx
  clear hb hW hbx hT
  go_enter Try.func5, Try.ntmps5
  go_wp2_with (go_at_call 15; rw [← HW.out]; refine HOWN.out.mono ?_; rintro e w1 ⟨⟨Y, k, c, rfl, hk25, htl⟩, hb1⟩)
  have hbx1 := (hb1.block _ hsz).trans HBX.out
  have k0 := cell_in hbx1 (i := 0) rfl
  have k1 := cell_in hbx1 (i := 1) rfl
  have HB1 := Lib.hid (HB.out.trans (hb1.mono HB.out.size))
  have HTL := Lib.hid htl
  clear hb1 htl hbx1 HOWN HB HW HBX hsz
  go_quiet (fail)
  clear k0 k1
  have HBQ : Hid (Below w.heap.size w (w1.drewN nq)) := below_dn HB1.out _
  have HTQ : Hid (Tl (w1.drewN nq) Y k c (cutT zs)) := HTL.out.dr ⟨nq, rfl⟩
  generalize w1.drewN nq = w2 at *
  clear HB1 HTL
  generalize cutT zs = xs at *
  have HLX : Hid (xs.length = k) := HTQ.out.len
  have HBAD := Lib.hid (fun i j W h => bad_any xs Y k c i j W (HTQ.out.below h (Nat.le_refl w2.heap.size)))
  rcases bad1_or xs x0 with ⟨hbad, hbb, hb2⟩ | ⟨hv, hbb, p, rfl, hp⟩
  · have HE := Lib.hid (equal_bad xs Y k c x0 x1 w2 HTQ.out (hb2 x1))
    have HC := Lib.hid (fun W h => canon_bad xs Y k c x0 W (HTQ.out.below h (Nat.le_refl w2.heap.size)) hbad)
    have HBD := Lib.hid (HBAD.out x0 x0)
    rw [hbb] at HBD
    clear hbad hbb hb2 HBAD
    go_wp2_with (first
      | (go_at_call 23; refine HE.out.mono ?_; rintro e w3 ⟨rfl, hb3⟩; have HB3 := Lib.hid hb3; clear hb3)
      | (go_at_call 24; refine (HC.out _ HB3.out).mono ?_; rintro e w4 ⟨rfl, hb4⟩; have HB4 := Lib.hid (HB3.out.trans (hb4.mono HB3.out.size)); clear hb4)
      | (go_at_call 17; refine (HBD.out _ HB4.out).mono ?_; rintro e w5 ⟨rfl, hb5⟩; have HB5 := Lib.hid (HB4.out.trans (hb5.mono HB4.out.size)); clear hb5)
      | (go_at_call 19; refine (awake_here _).mono ?_; rintro e w9 ⟨rfl, hb9⟩))
    go_ret
    exact ⟨rfl, HBQ.out.trans ((HB5.out.trans (hb9.mono HB5.out.size)).mono HBQ.out.size)⟩
  · have hk24 : k ≤ 24 := by have := (valB_len hv).2; have := HLX.out; omega
    have hpx := hp
    rw [HLX.out] at hp
    have HNL := Lib.hid (HTQ.out.nl hv)
    have HOK := Lib.hid (valB_ok hv)
    have HLN : Hid ((toN xs).length = k) := by rw [Hid, toN_len]; exact HLX.out
    have HC : Hid (∀ W, Below w2.heap.size w2 W → Calls Try.prog 24 #[.slice Y k c, .int .i64 (p : Int)] W fun e w' => (∃ B n d out, e = .returned (.tuple #[.slice B n d, .int .i64 0]) ∧ IsCan (toN xs) p out ∧ Nl w' B n d out) ∧ Below W.heap.size W w') := fun W h => by
      refine (canon_any xs Y k c p W (HTQ.out.below h (Nat.le_refl _)) hv hp).mono ?_
      rintro e w' ⟨⟨u, out, rfl, hu, ho⟩, hb⟩
      obtain ⟨B, d, rfl, hn⟩ := ho.nl (n := out.length) rfl (can_pos hu) (Nat.le_trans (can_len hu HOK.out (by rw [HLN.out]; exact hp)) (by rw [HLN.out]; omega))
      exact ⟨⟨B, _, d, out, rfl, hu, hn⟩, hb⟩
    have HCR : Hid (∀ W, Below w2.heap.size w2 W → Calls Try.prog 26 #[.slice Y k c, .int .i64 (p : Int)] W fun e w' => (∃ B n d out, e = .returned (.slice B n d) ∧ IsCan (toN xs) p out ∧ Nl w' B n d out) ∧ Below W.heap.size W w') := fun W h => by
      refine (canonR_any (toN xs) Y k c p W (HNL.out.below h (Nat.le_refl _)) HOK.out hp (by omega)).mono ?_
      rintro e w' ⟨⟨u, out, rfl, hu, ho⟩, hb⟩
      obtain ⟨B, d, rfl, hn⟩ := ho.nl (n := out.length) rfl (can_pos hu) (Nat.le_trans (can_len hu HOK.out (by rw [HLN.out]; exact hp)) (by rw [HLN.out]; omega))
      exact ⟨⟨B, _, d, out, rfl, hu, hn⟩, hb⟩
    have HTY : Hid (∀ W A B n c m d N M, Nl W A n c N → Nl W B m d M → IsCan (toN xs) p N → IsCan (toN xs) p M → Calls Try.prog 25 #[.slice A n c, .slice B m d] W fun e w' => e = .returned (.bool true) ∧ Dr W w') := fun W A B n c m d N M h1 h2 h3 h4 => by
      have e := h3.uniq HOK.out (by rw [HLN.out]; exact hp) h4
      have := types_any N M A B n c m d W h1 h2
      rw [e] at this
      have e2 : eqN M M = true := by unfold eqN; rw [decide_eq_true rfl]
      rw [e2] at this
      exact this
    have HBD0 := Lib.hid (HBAD.out (p : Int) (p : Int))
    rw [hbb] at HBD0
    have HBD1 := Lib.hid (HBAD.out (p : Int) x1)
    rcases bad2_at xs p x1 hv hpx with ⟨hb2, hbb2⟩ | ⟨hbb2, q, rfl, hq⟩
    · have HE := Lib.hid (equal_bad xs Y k c (p : Int) x1 w2 HTQ.out hb2)
      rw [hbb2] at HBD1
      clear hbb hv hbb2 hb2 HBAD hpx
      go_wp2_with (first
        | (go_at_call 23; refine HE.out.mono ?_; rintro e w3 ⟨rfl, hb3⟩; have HB3 := Lib.hid hb3; clear hb3)
        | (go_at_call 24; refine (HC.out _ HB3.out).mono ?_; rintro e w4 ⟨⟨B4, n4, d4, o4, rfl, hc4, hl4⟩, hb4⟩; have HC4 := Lib.hid hc4; have HL4 := Lib.hid hl4; have HB4 := Lib.hid (HB3.out.trans (hb4.mono HB3.out.size)); clear hb4 hc4 hl4)
        | (go_at_call 17; (with_reducible refine (HBD0.out _ HB4.out).mono ?_); rintro e w5 ⟨rfl, hb5⟩; have HB5 := Lib.hid (HB4.out.trans (hb5.mono HB4.out.size)); have HL5 := Lib.hid (HL4.out.below hb5 (Nat.le_refl _)); clear hb5)
        | (go_at_call 26; refine (HCR.out _ HB5.out).mono ?_; rintro e w6 ⟨⟨B6, n6, d6, o6, rfl, hc6, hl6⟩, hb6⟩; have HC6 := Lib.hid hc6; have HL6 := Lib.hid hl6; have HL46 := Lib.hid (HL5.out.below hb6 (Nat.le_refl _)); have HB6 := Lib.hid (HB5.out.trans (hb6.mono HB5.out.size)); clear hb6 hc6 hl6)
        | (go_at_call 25; refine (HTY.out _ _ _ _ _ _ _ _ _ HL46.out HL6.out HC4.out HC6.out).mono ?_; rintro e w7 ⟨rfl, hd7⟩; have HB7 : Hid (Below w2.heap.size w2 w7) := HB6.out.trans ((hd7.below w6.heap.size).mono HB6.out.size); clear hd7)
        | (go_at_call 17; (with_reducible refine (HBD1.out _ HB7.out).mono ?_); rintro e w8 ⟨rfl, hb8⟩; have HB8 := Lib.hid (HB7.out.trans (hb8.mono HB7.out.size)); clear hb8)
        | (go_at_call 19; refine (awake_here _).mono ?_; rintro e w9 ⟨rfl, hb9⟩))
      go_ret
      exact ⟨rfl, HBQ.out.trans ((HB8.out.trans (hb9.mono HB8.out.size)).mono HBQ.out.size)⟩
    · rw [HLX.out] at hq
      have HE := Lib.hid (equal_any xs Y k c p q w2 HTQ.out hv hp hq)
      have HER : Hid (∀ W b, Below w2.heap.size w2 W → (b = true ↔ EqT (toN xs) (p, q)) → Calls Try.prog 27 #[.slice Y k c] W fun e w' => (∃ (g m qq : Nat), e = .returned (.slice (some ⟨g, 0, none⟩) qq qq) ∧ (k : Int) * (p : Int) = (m : Int) ∧ m + q < qq ∧ qq ≤ 1000000 ∧ w'.cell? ⟨g, m + q, none⟩ = some (.bool b)) ∧ Below W.heap.size W w') := fun W b h hb => by
        refine (equalsR_any (toN xs) Y k c W (HNL.out.below h (Nat.le_refl _)) HOK.out (by omega)).mono ?_
        rintro e w' ⟨⟨g, vs, rfl, hl, ho, hif⟩, hb'⟩
        obtain ⟨hc, hlt⟩ := ho.tb_at hl rfl (i := p) (j := q) (m := k * p) hp hq rfl
        have e : tb k vs (p, q) = b := by
          have := hif (p, q) ⟨hp, hq⟩
          rw [Bool.eq_iff_iff, this, hb]
        rw [e] at hc
        exact ⟨⟨g, k * p, k * k, rfl, by simp, hlt, (by have := Nat.mul_le_mul hk24 hk24; omega), hc⟩, hb'⟩
      rw [hbb2] at HBD1
      clear hbb hv hbb2 HBAD hpx
      go_wp2_with (first
        | (go_at_call 23; refine HE.out.mono ?_; rintro e w3 ⟨⟨b3, rfl, hb3i⟩, hb3⟩; have HB3 := Lib.hid hb3; have HI3 := Lib.hid hb3i; clear hb3 hb3i)
        | (go_at_call 24; refine (HC.out _ HB3.out).mono ?_; rintro e w4 ⟨⟨B4, n4, d4, o4, rfl, hc4, hl4⟩, hb4⟩; have HC4 := Lib.hid hc4; have HL4 := Lib.hid hl4; have HB4 := Lib.hid (HB3.out.trans (hb4.mono HB3.out.size)); clear hb4 hc4 hl4)
        | (go_at_call 17; (with_reducible refine (HBD0.out _ HB4.out).mono ?_); rintro e w5 ⟨rfl, hb5⟩; have HB5 := Lib.hid (HB4.out.trans (hb5.mono HB4.out.size)); have HL5 := Lib.hid (HL4.out.below hb5 (Nat.le_refl _)); clear hb5)
        | (go_at_call 26; refine (HCR.out _ HB5.out).mono ?_; rintro e w6 ⟨⟨B6, n6, d6, o6, rfl, hc6, hl6⟩, hb6⟩; have HC6 := Lib.hid hc6; have HL6 := Lib.hid hl6; have HL46 := Lib.hid (HL5.out.below hb6 (Nat.le_refl _)); have HB6 := Lib.hid (HB5.out.trans (hb6.mono HB5.out.size)); clear hb6 hc6 hl6)
        | (go_at_call 25; refine (HTY.out _ _ _ _ _ _ _ _ _ HL46.out HL6.out HC4.out HC6.out).mono ?_; rintro e w7 ⟨rfl, hd7⟩; have HB7 : Hid (Below w2.heap.size w2 w7) := HB6.out.trans ((hd7.below w6.heap.size).mono HB6.out.size); clear hd7)
        | (go_at_call 17; (with_reducible refine (HBD1.out _ HB7.out).mono ?_); rintro e w8 ⟨rfl, hb8⟩; have HB8 := Lib.hid (HB7.out.trans (hb8.mono HB7.out.size)); clear hb8)
        | (go_at_call 27; refine (HER.out _ b3 HB8.out HI3.out).mono ?_; rintro e w9 ⟨⟨g9, m9, q9, rfl, hm9, hlt9, hqb9, hc9⟩, hb9⟩; have HB9 := Lib.hid (HB8.out.trans (hb9.mono HB8.out.size)); have heq9 : (b3 == b3) = true := (by simp); clear hb9)
        | (go_at_call 19; refine (awake_here _).mono ?_; rintro e w10 ⟨rfl, hb10⟩))
      go_ret
      exact ⟨rfl, HBQ.out.trans ((HB9.out.trans (hb10.mono HB9.out.size)).mono HBQ.out.size)⟩
end Go.Proofs.Ytieaolihdbcekaa
