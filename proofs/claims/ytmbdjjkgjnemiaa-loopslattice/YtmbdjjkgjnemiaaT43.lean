import Derived.Test.YtmbdjjkgjnemiaaT42
import Derived.Test.YtmbdjjkgjnemiaaT30
import Derived.Test.YtmbdjjkgjnemiaaT19
import Derived.Test.YtmbdjjkgjnemiaaT10
import Derived.Deep.Cut
/- Layer 6: the walk of LoopsAbsorbs. -/
namespace Go.Proofs.Ytmbdjjkgjnemiaa
open Go.RowKit
set_option linter.unusedVariables false

theorem typesR_at (out : List Nd) (C : Option Addr) (m d most : Nat) (W : World) (h : Nl W C m d out) (hok : OkN out) (hm : m ≤ most) (hmm : most ≤ 1000000) : Calls Try.prog 33 #[.slice C m d, .int .i64 (most : Int)] W fun e w' => e = .returned (.bool true) ∧ Below W.heap.size W w' := by
  have h' := typesR_any (upN out) C m d most W (h.tl (by rw [← h.len]; exact hok.pos)) hmm
  rw [typB_up hok (by rw [h.len]; exact hm)] at h'
  exact h'
theorem types_same (o : List Nd) (A B : Option Addr) (n c m d : Nat) (W : World) (h1 : Nl W A n c o) (h2 : Nl W B m d o) : Calls Try.prog 25 #[.slice A n c, .slice B m d] W fun e w' => e = .returned (.bool true) ∧ Below W.heap.size W w' := by
  refine (types_any o o A B n c m d W h1 h2).mono ?_
  have e2 : eqN o o = true := by unfold eqN; rw [decide_eq_true rfl]
  rw [e2]
  rintro e w' ⟨rfl, hd⟩
  exact ⟨rfl, hd.below _⟩
set_option maxRecDepth 100000 in
set_option maxHeartbeats 12800000 in
theorem absorbs_walk (zs : List Ty) (A : Option Addr) (len cap : Nat) (x0 x1 : Int) (w : World) (hT : Tl w A len cap zs) :
    Calls Try.prog 12 #[.slice A len cap, .agg #[.int .i64 x0, .int .i64 x1]] w fun e w' => e = .returned (.bool true) ∧ Below w.heap.size w w' := by
  obtain ⟨W, hW⟩ : ∃ W, W = w.alloc (.cells #[.int .i64 x0, .int .i64 x1] 23) := ⟨_, rfl⟩
  have hb : Below w.heap.size w W := by rw [hW]; exact (Below.refl _ w).alloc (Nat.le_refl _) _
  have hbx : W.heap[w.heap.size]? = some (.cells #[.int .i64 x0, .int .i64 x1] 23 (0, 0)) := by rw [hW]; exact heap_alloc_new _ _
  have hsz : w.heap.size < W.heap.size := by rw [hW]; simp
  have HTM : Hid (Calls Try.prog 36 #[.slice A len cap, .int .i64 4] W fun e w' => (∃ B n c N, e = .returned (.slice B n c) ∧ 1 ≤ n ∧ n ≤ 4 ∧ OkN N ∧ Nl w' B n c N ∧ Ow3 w' W.heap.size (.slice B n c) N) ∧ Below W.heap.size W w') := tame_any zs A len cap 4 W (hT.below hb (Nat.le_refl _)) (by omega) (by omega)
  have HB := Lib.hid hb
  have HBX := Lib.hid hbx
  have HW := Lib.hid hW
  clear hW hb hbx hT
  go_enter Try.func12, Try.ntmps12
  go_wp2_with (go_at_call 36; rw [← HW.out]; refine HTM.out.mono ?_; rintro e w1 ⟨⟨B, n, c, N, rfl, hn1, hn2, hok, hnl, ho⟩, hb1⟩)
  have hbx1 := (hb1.block _ hsz).trans HBX.out
  have k0 := cell_in hbx1 (i := 0) rfl
  have k1 := cell_in hbx1 (i := 1) rfl
  obtain ⟨p, hp, hmp⟩ := mod_is x0 n hn1 (by omega)
  obtain ⟨q, hq, hmq⟩ := mod_is x1 n hn1 (by omega)
  have HM1 := Lib.hid hmp
  have HM2 := Lib.hid hmq
  have HB1 := Lib.hid (HB.out.trans (hb1.mono HB.out.size))
  have HOK := Lib.hid hok
  have HNL := Lib.hid hnl
  clear hmp hmq hb1 hok hnl ho hbx1 HTM HB HBX HW hsz
  go_quiet (first | (go_at_call 37; (with_reducible exact quiet_same (HM1.out _))) | (go_at_call 37; (with_reducible exact quiet_same (HM2.out _))))
  have HBQ : Hid (Below w.heap.size w (w1.drewN nq)) := below_dn HB1.out _
  have HNQ : Hid (Nl (w1.drewN nq) B n c N) := HNL.out.below (below_dn (Below.refl _ w1) nq) (Nat.le_refl _)
  generalize w1.drewN nq = w2 at *
  clear k0 k1 HB1 HNL HM1 HM2
  have HLN : Hid (N.length = n) := HNQ.out.len
  have hnn : 2 * (n * n) ≤ 32 := by have := Nat.mul_le_mul hn2 hn2; omega
  have HCI := Lib.hid (canon_at N B n c p w2 HNQ.out HOK.out (by omega) hp)
  have HJ1 := Lib.hid (fun W h => join_at N B n c p q W (HNQ.out.below h (Nat.le_refl w2.heap.size)) HOK.out (by omega) hp hq)
  have HM1 := Lib.hid (fun W h => meet_at N B n c p q W (HNQ.out.below h (Nat.le_refl w2.heap.size)) HOK.out (by omega) hp hq)
  have HJ2 := Lib.hid (fun W h => join_at N B n c p p W (HNQ.out.below h (Nat.le_refl w2.heap.size)) HOK.out (by omega) hp hp)
  go_upto_region 8 with (first
    | (go_at_call 24; (with_reducible refine HCI.out.mono ?_); rintro e w3 ⟨⟨C, mc, dc, co, rfl, hci, hnlc, how⟩, hb3⟩; have HB3 := Lib.hid hb3; have HCAN := Lib.hid hci; have HNC := Lib.hid hnlc; clear hb3 hci hnlc how)
    | (go_at_call 28; (with_reducible refine (HJ1.out _ HB3.out).mono ?_); rintro e w4 ⟨⟨Y1, m1, d1, c1, rfl, hg1, ho1, hl1, hn1'⟩, hb4⟩; have HB4 := Lib.hid (HB3.out.trans (hb4.mono HB3.out.size)); have HG1 := Lib.hid hg1; have HO1 := Lib.hid ho1; have HN1 := Lib.hid hn1'; have HL1 := Lib.hid hl1; have HC4 := Lib.hid (HNC.out.below hb4 (Nat.le_refl _)); clear hb4 hg1 ho1 hl1 hn1')
    | (go_at_call 29; (with_reducible refine (HM1.out _ HB4.out).mono ?_); rintro e w5 ⟨⟨Y2, m2, d2, c2, rfl, hg2, ho2, hl2, hn2'⟩, hb5⟩; have HB5 := Lib.hid (HB4.out.trans (hb5.mono HB4.out.size)); have HG2 := Lib.hid hg2; have HO2 := Lib.hid ho2; have HN2 := Lib.hid hn2'; have HL2 := Lib.hid hl2; have HC5 := Lib.hid (HC4.out.below hb5 (Nat.le_refl _)); have HN15 := Lib.hid (HN1.out.below hb5 (Nat.le_refl _)); clear hb5 hg2 ho2 hl2 hn2')
    | (go_at_call 28; (with_reducible refine (HJ2.out _ HB5.out).mono ?_); rintro e w6 ⟨⟨Y3, m3, d3, c3, rfl, hg3, ho3, hl3, hn3'⟩, hb6⟩; have HB6 := Lib.hid (HB5.out.trans (hb6.mono HB5.out.size)); have HG3 := Lib.hid hg3; have HN3 := Lib.hid hn3'; have HC6 := Lib.hid (HC5.out.below hb6 (Nat.le_refl _)); have HN16 := Lib.hid (HN15.out.below hb6 (Nat.le_refl _)); have HN26 := Lib.hid (HN2.out.below hb6 (Nat.le_refl _)); clear hb6 hg3 ho3 hl3 hn3'))
  clear HCI HJ1 HM1 HJ2 HNC HN1 HC4 HC5 HN15 HN2 HB3 HB4 HB5
  have hpN : p < N.length := by rw [HLN.out]; exact hp
  have hqN : q < N.length := by rw [HLN.out]; exact hq
  have e3 : c3 = co := HG3.out.up_is HOK.out hpN hpN HCAN.out (subT_refl N p)
  subst e3
  have hm1 : m1 = c1.length := HN16.out.len.symm
  have hm2 : m2 = c2.length := HN26.out.len.symm
  have hm1b : m1 ≤ 32 := by have := HL1.out; omega
  have hm2b : m2 ≤ 32 := by have := HL2.out; omega
  have HTS := Lib.hid (types_same c3 Y3 C m3 d3 mc dc w6 HN3.out HC6.out)
  have HTA : Hid (∀ W, Below w6.heap.size w6 W → Calls Try.prog 33 #[.slice Y1 m1 d1, .int .i64 1000] W fun e w' => e = .returned (.bool true) ∧ Below W.heap.size W w') := fun W h => typesR_at c1 Y1 m1 d1 1000 W (HN16.out.below h (Nat.le_refl w6.heap.size)) HO1.out (by omega) (by omega)
  have HTB : Hid (∀ W, Below w6.heap.size w6 W → Calls Try.prog 33 #[.slice Y2 m2 d2, .int .i64 1000] W fun e w' => e = .returned (.bool true) ∧ Below W.heap.size W w') := fun W h => typesR_at c2 Y2 m2 d2 1000 W (HN26.out.below h (Nat.le_refl w6.heap.size)) HO2.out (by omega) (by omega)
  have HM1E := Lib.hid hm1
  have HM2E := Lib.hid hm2
  clear hm1 hm2 HN3 HG3
  go_upto_region 10 with (first
    | (go_at_call 25; (with_reducible refine HTS.out.mono ?_); rintro e w7 ⟨rfl, hb7⟩; have HB7 := Lib.hid hb7; clear hb7)
    | (go_at_call 33; (with_reducible refine (HTA.out _ HB7.out).mono ?_); rintro e w8 ⟨rfl, hb8⟩; have HB8 := Lib.hid (HB7.out.trans (hb8.mono HB7.out.size)); clear hb8)
    | (go_at_call 33; (with_reducible refine (HTB.out _ HB8.out).mono ?_); rintro e w9 ⟨rfl, hb9⟩; have HB9 := Lib.hid (HB8.out.trans (hb9.mono HB8.out.size)); clear hb9))
  clear HTS HTA HTB HB7 HB8
  have HBF : Hid (Below w.heap.size w w9) := HBQ.out.trans ((HB6.out.trans (HB9.out.mono HB6.out.size)).mono HBQ.out.size)
  have v1 : IntKind.i64.wrap ((n : Int) + (m1 : Int)) = ((n + m1 : Nat) : Int) := by rw [IntWalk.i64_in _ (by omega)]; omega
  have v2 : IntKind.i64.wrap ((n : Int) + (m2 : Int)) = ((n + m2 : Nat) : Int) := by rw [IntWalk.i64_in _ (by omega)]; omega
  by_cases h1 : n + m1 ≤ 24
  · have g1 : (n : Int) + (m1 : Int) ≤ 24 := by omega
    by_cases h2 : n + m2 ≤ 24
    · have g2 : (n : Int) + (m2 : Int) ≤ 24 := by omega
      have HNQ9 : Hid (Nl w9 B n c N) := HNQ.out.below (HB6.out.trans (HB9.out.mono HB6.out.size)) (Nat.le_refl _)
      have HN19 : Hid (Nl w9 Y1 m1 d1 c1) := HN16.out.below HB9.out (Nat.le_refl _)
      have HN29 : Hid (Nl w9 Y2 m2 d2 c2) := HN26.out.below HB9.out (Nat.le_refl _)
      have HC9 : Hid (Nl w9 C mc dc c3) := HC6.out.below HB9.out (Nat.le_refl _)
      have HJA := Lib.hid (joined_any N c1 B Y1 n c m1 d1 w9 HNQ9.out HN19.out HOK.out HO1.out (by omega) (by omega))
      have HJB := Lib.hid (fun W h => joined_any N c2 B Y2 n c m2 d2 W (HNQ9.out.below h (Nat.le_refl w9.heap.size)) (HN29.out.below h (Nat.le_refl w9.heap.size)) HOK.out HO2.out (by omega) (by omega))
      have HME : Hid (∀ W Y k, Nl W Y (n + m1) k (joinN N c1) → Calls Try.prog 29 #[.slice Y (n + m1) k, .int .i64 (p : Int), .int .i64 (n : Int)] W fun e w' => (∃ Z m d, e = .returned (.tuple #[.slice Z m d, .int .i64 0]) ∧ Nl w' Z m d c3) ∧ Below W.heap.size W w') := fun W Y k h => by
        have hpos := HO1.out.pos
        refine (meet_at (joinN N c1) Y (n + m1) k p n W h (joinN_ok HOK.out HO1.out) h1 (by omega) (by have := HM1E.out; omega)).mono ?_
        rintro e w' ⟨⟨Z, m, d, can, rfl, hg, _, _, hn⟩, hb⟩
        have hg' := hg
        rw [← HLN.out] at hg'
        have e := HG1.out.absorb_up HOK.out hpN hqN HCAN.out hg'
        rw [e] at hn
        exact ⟨⟨Z, m, d, rfl, hn⟩, hb⟩
      have HJE : Hid (∀ W Y k, Nl W Y (n + m2) k (joinN N c2) → Calls Try.prog 28 #[.slice Y (n + m2) k, .int .i64 (p : Int), .int .i64 (n : Int)] W fun e w' => (∃ Z m d, e = .returned (.tuple #[.slice Z m d, .int .i64 0]) ∧ Nl w' Z m d c3) ∧ Below W.heap.size W w') := fun W Y k h => by
        have hpos := HO2.out.pos
        refine (join_at (joinN N c2) Y (n + m2) k p n W h (joinN_ok HOK.out HO2.out) h2 (by omega) (by have := HM2E.out; omega)).mono ?_
        rintro e w' ⟨⟨Z, m, d, can, rfl, hg, _, _, hn⟩, hb⟩
        have hg' := hg
        rw [← HLN.out] at hg'
        have e := HG2.out.absorb_down HOK.out hpN hqN HCAN.out hg'
        rw [e] at hn
        exact ⟨⟨Z, m, d, rfl, hn⟩, hb⟩
      have HTP := Lib.hid (fun W Z m d (h : Below w9.heap.size w9 W) hn => types_same c3 Z C m d mc dc W hn (HC9.out.below h (Nat.le_refl w9.heap.size)))
      clear HNQ HNQ9 HN16 HN26 HC6 HC9 HN19 HN29 HB6 HB9 HBQ h1 h2 hm1b hm2b hnn
      go_wp2_with (first
        | (go_at_call 39; (with_reducible refine HJA.out.mono ?_); rintro e wa ⟨⟨Ya, ka, rfl, hna⟩, hba⟩; have HBA := Lib.hid hba; have HNA := Lib.hid hna; clear hba hna)
        | (go_at_call 29; (with_reducible refine (HME.out _ _ _ HNA.out).mono ?_); rintro e wb ⟨⟨Zb, mb, db, rfl, hnb⟩, hbb⟩; have HBB := Lib.hid (HBA.out.trans (hbb.mono HBA.out.size)); have HNB := Lib.hid hnb; clear hbb hnb)
        | (go_at_call 39; (with_reducible refine (HJB.out _ HBB.out).mono ?_); rintro e wc ⟨⟨Yc, kc, rfl, hnc⟩, hbc⟩; have HBC := Lib.hid (HBB.out.trans (hbc.mono HBB.out.size)); have HNCC := Lib.hid hnc; have HNBC := Lib.hid (HNB.out.below hbc (Nat.le_refl _)); clear hbc hnc)
        | (go_at_call 28; (with_reducible refine (HJE.out _ _ _ HNCC.out).mono ?_); rintro e wd ⟨⟨Zd, md, dd, rfl, hnd⟩, hbd⟩; have HBD := Lib.hid (HBC.out.trans (hbd.mono HBC.out.size)); have HND := Lib.hid hnd; have HNBD := Lib.hid (HNBC.out.below hbd (Nat.le_refl _)); clear hbd hnd)
        | (go_at_call 25; (with_reducible refine (HTP.out _ _ _ _ HBD.out HNBD.out).mono ?_); rintro e we ⟨rfl, hbe⟩; have HBE := Lib.hid (HBD.out.trans (hbe.mono HBD.out.size)); have HNDE := Lib.hid (HND.out.below hbe (Nat.le_refl _)); clear hbe)
        | (go_at_call 25; (with_reducible refine (HTP.out _ _ _ _ HBE.out HNDE.out).mono ?_); rintro e wf ⟨rfl, hbf⟩; have HBFF := Lib.hid (HBE.out.trans (hbf.mono HBE.out.size)); clear hbf)
        | (go_at_call 19; refine (awake_here _).mono ?_; rintro e wg ⟨rfl, hbg⟩))
      go_ret
      exact ⟨rfl, HBF.out.trans ((HBFF.out.trans (hbg.mono HBFF.out.size)).mono HBF.out.size)⟩
    · have g2 : ¬ (n : Int) + (m2 : Int) ≤ 24 := by omega
      clear HNQ HN16 HN26 HC6 HB6 HB9 HBQ h1 h2 hm1b hm2b hnn
      go_wp2_with (go_at_call 19; refine (awake_here _).mono ?_; rintro e wg ⟨rfl, hbg⟩)
      go_ret
      exact ⟨rfl, HBF.out.trans (hbg.mono HBF.out.size)⟩
  · have g1 : ¬ (n : Int) + (m1 : Int) ≤ 24 := by omega
    clear HNQ HN16 HN26 HC6 HB6 HB9 HBQ h1 hm1b hm2b hnn
    go_wp2_with (go_at_call 19; refine (awake_here _).mono ?_; rintro e wg ⟨rfl, hbg⟩)
    go_ret
    exact ⟨rfl, HBF.out.trans (hbg.mono HBF.out.size)⟩
end Go.Proofs.Ytmbdjjkgjnemiaa
