import Derived.Test.YtmbdjjkgjnemiaaT43
import Derived.Test.YtmbdjjkgjnemiaaT15
/- Layer 6: the walk of LoopsLattice. -/
namespace Go.Proofs.Ytmbdjjkgjnemiaa
open Go.RowKit
set_option linter.unusedVariables false

set_option maxRecDepth 400000 in
set_option maxHeartbeats 25600000 in
theorem lattice_walk (zs : List Ty) (A : Option Addr) (len cap : Nat) (x0 x1 x2 : Int) (w : World) (hT : Tl w A len cap zs) :
    Calls Try.prog 11 #[.slice A len cap, .agg #[.int .i64 x0, .int .i64 x1, .int .i64 x2]] w fun e w' => e = .returned (.bool true) ∧ Below w.heap.size w w' := by
  obtain ⟨W, hW⟩ : ∃ W, W = w.alloc (.cells #[.int .i64 x0, .int .i64 x1, .int .i64 x2] 57) := ⟨_, rfl⟩
  have hb : Below w.heap.size w W := by rw [hW]; exact (Below.refl _ w).alloc (Nat.le_refl _) _
  have hbx : W.heap[w.heap.size]? = some (.cells #[.int .i64 x0, .int .i64 x1, .int .i64 x2] 57 (0, 0)) := by rw [hW]; exact heap_alloc_new _ _
  have hsz : w.heap.size < W.heap.size := by rw [hW]; simp
  have HTM : Hid (Calls Try.prog 36 #[.slice A len cap, .int .i64 4] W fun e w' => (∃ B n c N, e = .returned (.slice B n c) ∧ 1 ≤ n ∧ n ≤ 4 ∧ OkN N ∧ Nl w' B n c N ∧ Ow3 w' W.heap.size (.slice B n c) N) ∧ Below W.heap.size W w') := tame_any zs A len cap 4 W (hT.below hb (Nat.le_refl _)) (by omega) (by omega)
  have HB := Lib.hid hb
  have HBX := Lib.hid hbx
  have HW := Lib.hid hW
  clear hW hb hbx hT
  go_enter Try.func11, Try.ntmps11
  go_wp2_with (go_at_call 36; rw [← HW.out]; refine HTM.out.mono ?_; rintro e w1 ⟨⟨B, n, c, N, rfl, hn1, hn2, hok, hnl, ho⟩, hb1⟩)
  have hbx1 := (hb1.block _ hsz).trans HBX.out
  have k0 := cell_in hbx1 (i := 0) rfl
  have k1 := cell_in hbx1 (i := 1) rfl
  have k2 := cell_in hbx1 (i := 2) rfl
  obtain ⟨p, hp, hmp⟩ := mod_is x0 n hn1 (by omega)
  obtain ⟨q, hq, hmq⟩ := mod_is x1 n hn1 (by omega)
  obtain ⟨r, hr, hmr⟩ := mod_is x2 n hn1 (by omega)
  have HM1 := Lib.hid hmp
  have HM2 := Lib.hid hmq
  have HM3 := Lib.hid hmr
  have HB1 := Lib.hid (HB.out.trans (hb1.mono HB.out.size))
  have HOK := Lib.hid hok
  have HNL := Lib.hid hnl
  clear hmp hmq hmr hb1 hok hnl ho hbx1 HTM HB HBX HW hsz
  go_quiet (first | (go_at_call 37; (with_reducible exact quiet_same (HM1.out _))) | (go_at_call 37; (with_reducible exact quiet_same (HM2.out _))) | (go_at_call 37; (with_reducible exact quiet_same (HM3.out _))))
  have HBQ : Hid (Below w.heap.size w (w1.drewN nq)) := below_dn HB1.out _
  have HNQ : Hid (Nl (w1.drewN nq) B n c N) := HNL.out.below (below_dn (Below.refl _ w1) nq) (Nat.le_refl _)
  generalize w1.drewN nq = w2 at *
  clear k0 k1 k2 HB1 HNL HM1 HM2 HM3
  have HLN : Hid (N.length = n) := HNQ.out.len
  have hnn : 2 * (n * n) ≤ 32 := by have := Nat.mul_le_mul hn2 hn2; omega
  have HJ1 := Lib.hid (join_at N B n c p q w2 HNQ.out HOK.out (by omega) hp hq)
  have HJ2 := Lib.hid (fun W h => join_at N B n c q p W (HNQ.out.below h (Nat.le_refl w2.heap.size)) HOK.out (by omega) hq hp)
  have HM1 := Lib.hid (fun W h => meet_at N B n c p q W (HNQ.out.below h (Nat.le_refl w2.heap.size)) HOK.out (by omega) hp hq)
  have HM2 := Lib.hid (fun W h => meet_at N B n c q p W (HNQ.out.below h (Nat.le_refl w2.heap.size)) HOK.out (by omega) hq hp)
  go_upto_region 8 with (first
    | (go_at_call 28; (with_reducible refine HJ1.out.mono ?_); rintro e w3 ⟨⟨Y1, m1, d1, c1, rfl, hg1, ho1, hl1, hn1'⟩, hb3⟩; have HB3 := Lib.hid hb3; have HG1 := Lib.hid hg1; have HO1 := Lib.hid ho1; have HN1 := Lib.hid hn1'; have HL1 := Lib.hid hl1; clear hb3 hg1 ho1 hl1 hn1')
    | (go_at_call 28; (with_reducible refine (HJ2.out _ HB3.out).mono ?_); rintro e w4 ⟨⟨Y2, m2, d2, c2, rfl, hg2, ho2, hl2, hn2'⟩, hb4⟩; have HB4 := Lib.hid (HB3.out.trans (hb4.mono HB3.out.size)); have HG2 := Lib.hid hg2; have HN2 := Lib.hid hn2'; have HN14 := Lib.hid (HN1.out.below hb4 (Nat.le_refl _)); clear hb4 hg2 ho2 hl2 hn2')
    | (go_at_call 29; (with_reducible refine (HM1.out _ HB4.out).mono ?_); rintro e w5 ⟨⟨Y3, m3, d3, c3, rfl, hg3, ho3, hl3, hn3'⟩, hb5⟩; have HB5 := Lib.hid (HB4.out.trans (hb5.mono HB4.out.size)); have HG3 := Lib.hid hg3; have HO3 := Lib.hid ho3; have HN3 := Lib.hid hn3'; have HL3 := Lib.hid hl3; have HN15 := Lib.hid (HN14.out.below hb5 (Nat.le_refl _)); have HN25 := Lib.hid (HN2.out.below hb5 (Nat.le_refl _)); clear hb5 hg3 ho3 hl3 hn3')
    | (go_at_call 29; (with_reducible refine (HM2.out _ HB5.out).mono ?_); rintro e w6 ⟨⟨Y4, m4, d4, c4, rfl, hg4, ho4, hl4, hn4'⟩, hb6⟩; have HB6 := Lib.hid (HB5.out.trans (hb6.mono HB5.out.size)); have HG4 := Lib.hid hg4; have HN4 := Lib.hid hn4'; have HN16 := Lib.hid (HN15.out.below hb6 (Nat.le_refl _)); have HN26 := Lib.hid (HN25.out.below hb6 (Nat.le_refl _)); have HN36 := Lib.hid (HN3.out.below hb6 (Nat.le_refl _)); clear hb6 hg4 ho4 hl4 hn4'))
  clear HJ1 HJ2 HM1 HM2 HN1 HN2 HN14 HN15 HN25 HN3 HB3 HB4 HB5
  have hpN : p < N.length := by rw [HLN.out]; exact hp
  have hqN : q < N.length := by rw [HLN.out]; exact hq
  have e2 : c1 = c2 := HG1.out.swap HG2.out HOK.out ⟨Nat.zero_le _, hpN, hqN⟩
  have e4 : c3 = c4 := HG3.out.swap HG4.out HOK.out ⟨Nat.le_refl _, hpN, hqN⟩
  subst e2
  subst e4
  have hm1 : m1 = c1.length := HN16.out.len.symm
  have hm3 : m3 = c3.length := HN36.out.len.symm
  have hm1b : m1 ≤ 32 := by have := HL1.out; omega
  have hm3b : m3 ≤ 32 := by have := HL3.out; omega
  have HTS := Lib.hid (types_same c1 Y1 Y2 m1 d1 m2 d2 w6 HN16.out HN26.out)
  have HTT := Lib.hid (fun W h => types_same c3 Y3 Y4 m3 d3 m4 d4 W (HN36.out.below h (Nat.le_refl w6.heap.size)) (HN4.out.below h (Nat.le_refl w6.heap.size)))
  have HM1E := Lib.hid hm1
  have HM3E := Lib.hid hm3
  clear hm1 hm3 HG2 HG4
  go_upto_region 10 with (first
    | (go_at_call 25; (with_reducible refine HTS.out.mono ?_); rintro e w7 ⟨rfl, hb7⟩; have HB7 := Lib.hid hb7; clear hb7)
    | (go_at_call 25; (with_reducible refine (HTT.out _ HB7.out).mono ?_); rintro e w8 ⟨rfl, hb8⟩; have HB8 := Lib.hid (HB7.out.trans (hb8.mono HB7.out.size)); clear hb8))
  clear HTS HTT HB7 HN26 HN4
  have HB28 : Hid (Below w2.heap.size w2 w8) := HB6.out.trans (HB8.out.mono HB6.out.size)
  have HBF : Hid (Below w.heap.size w w8) := HBQ.out.trans (HB28.out.mono HBQ.out.size)
  have HN18 : Hid (Nl w8 Y1 m1 d1 c1) := HN16.out.below HB8.out (Nat.le_refl _)
  have HN38 : Hid (Nl w8 Y3 m3 d3 c3) := HN36.out.below HB8.out (Nat.le_refl _)
  have HNQ8 : Hid (Nl w8 B n c N) := HNQ.out.below HB28.out (Nat.le_refl _)
  have v1 : IntKind.i64.wrap ((n : Int) + (m1 : Int)) = ((n + m1 : Nat) : Int) := by rw [IntWalk.i64_in _ (by omega)]; omega
  have v2 : IntKind.i64.wrap ((n : Int) + (m3 : Int)) = ((n + m3 : Nat) : Int) := by rw [IntWalk.i64_in _ (by omega)]; omega
  have HTA : Hid (Calls Try.prog 33 #[.slice Y1 m1 d1, .int .i64 1000] w8 fun e w' => e = .returned (.bool true) ∧ Below w8.heap.size w8 w') := typesR_at c1 Y1 m1 d1 1000 w8 HN18.out HO1.out (by omega) (by omega)
  have HTB : Hid (∀ W, Below w8.heap.size w8 W → Calls Try.prog 33 #[.slice Y3 m3 d3, .int .i64 1000] W fun e w' => e = .returned (.bool true) ∧ Below W.heap.size W w') := fun W h => typesR_at c3 Y3 m3 d3 1000 W (HN38.out.below h (Nat.le_refl _)) HO3.out (by omega) (by omega)
  have HAW := Lib.hid (fun W => awake_here W)
  clear HNQ HN16 HN36 HB6 HB8 HB28 HBQ hnn
  by_cases h1 : n + m1 ≤ 24
  · have g1 : (n : Int) + (m1 : Int) ≤ 24 := by omega
    by_cases h2 : n + m3 ≤ 24
    · have g2 : (n : Int) + (m3 : Int) ≤ 24 := by omega
      have HSA : Hid (Calls Try.prog 33 #[.slice Y1 m1 d1, .int .i64 24] w8 fun e w' => e = .returned (.bool true) ∧ Below w8.heap.size w8 w') := typesR_at c1 Y1 m1 d1 24 w8 HN18.out HO1.out (by omega) (by omega)
      have HSB : Hid (∀ W, Below w8.heap.size w8 W → Calls Try.prog 33 #[.slice Y3 m3 d3, .int .i64 24] W fun e w' => e = .returned (.bool true) ∧ Below W.heap.size W w') := fun W h => typesR_at c3 Y3 m3 d3 24 W (HN38.out.below h (Nat.le_refl _)) HO3.out (by omega) (by omega)
      have HJA := Lib.hid (fun W h => joined_any N c1 B Y1 n c m1 d1 W (HNQ8.out.below h (Nat.le_refl w8.heap.size)) (HN18.out.below h (Nat.le_refl w8.heap.size)) HOK.out HO1.out (by omega) (by omega))
      have HJB := Lib.hid (fun W h => joined_any N c3 B Y3 n c m3 d3 W (HNQ8.out.below h (Nat.le_refl w8.heap.size)) (HN38.out.below h (Nat.le_refl w8.heap.size)) HOK.out HO3.out (by omega) (by omega))
      have hu := HG1.out.up HOK.out hpN hqN
      have hd := HG3.out.down HOK.out hpN hqN
      rw [HLN.out] at hu hd
      obtain ⟨hu1, hu2, hu3, hu4⟩ := hu
      obtain ⟨hd1, hd2, hd3, _⟩ := hd
      have hrN : r < N.length := by rw [HLN.out]; exact hr
      have hp1 := HO1.out.pos
      have hp3 := HO3.out.pos
      have hnm1 : n < n + m1 := by have := HM1E.out; omega
      have hnm3 : n < n + m3 := by have := HM3E.out; omega
      have HOJ1 := Lib.hid (joinN_ok HOK.out HO1.out)
      have HOJ3 := Lib.hid (joinN_ok HOK.out HO3.out)
      obtain ⟨bik, hik⟩ := exB (SubT N (p, r))
      obtain ⟨bjk, hjk⟩ := exB (SubT N (q, r))
      obtain ⟨bki, hki⟩ := exB (SubT N (r, p))
      obtain ⟨bkj, hkj⟩ := exB (SubT N (r, q))
      obtain ⟨bij, hij⟩ := exB (SubT N (p, q))
      have HU1 : Hid (∀ W Y k, Nl W Y (n + m1) k (joinN N c1) → Calls Try.prog 38 #[.slice Y (n + m1) k, .int .i64 (p : Int), .int .i64 (n : Int)] W fun e w' => e = .returned (.tuple #[.bool true, .bool true]) ∧ Below W.heap.size W w') := fun W Y k h => lsub_is (joinN N c1) Y (n + m1) k p n true W h HOJ1.out h1 (by omega) hnm1 ⟨fun _ => hu1, fun _ => rfl⟩
      have HU2 : Hid (∀ W Y k, Nl W Y (n + m1) k (joinN N c1) → Calls Try.prog 38 #[.slice Y (n + m1) k, .int .i64 (q : Int), .int .i64 (n : Int)] W fun e w' => e = .returned (.tuple #[.bool true, .bool true]) ∧ Below W.heap.size W w') := fun W Y k h => lsub_is (joinN N c1) Y (n + m1) k q n true W h HOJ1.out h1 (by omega) hnm1 ⟨fun _ => hu2, fun _ => rfl⟩
      have HU3 : Hid (∀ W Y k, Nl W Y (n + m1) k (joinN N c1) → Calls Try.prog 38 #[.slice Y (n + m1) k, .int .i64 (n : Int), .int .i64 (r : Int)] W fun e w' => e = .returned (.tuple #[.bool (bik && bjk), .bool true]) ∧ Below W.heap.size W w') := fun W Y k h => lsub_is (joinN N c1) Y (n + m1) k n r (bik && bjk) W h HOJ1.out h1 hnm1 (by omega) (by rw [Bool.and_eq_true, hik, hjk]; exact (hu3 r hr).symm)
      have HD1 : Hid (∀ W Y k, Nl W Y (n + m3) k (joinN N c3) → Calls Try.prog 38 #[.slice Y (n + m3) k, .int .i64 (n : Int), .int .i64 (p : Int)] W fun e w' => e = .returned (.tuple #[.bool true, .bool true]) ∧ Below W.heap.size W w') := fun W Y k h => lsub_is (joinN N c3) Y (n + m3) k n p true W h HOJ3.out h2 hnm3 (by omega) ⟨fun _ => hd1, fun _ => rfl⟩
      have HD2 : Hid (∀ W Y k, Nl W Y (n + m3) k (joinN N c3) → Calls Try.prog 38 #[.slice Y (n + m3) k, .int .i64 (n : Int), .int .i64 (q : Int)] W fun e w' => e = .returned (.tuple #[.bool true, .bool true]) ∧ Below W.heap.size W w') := fun W Y k h => lsub_is (joinN N c3) Y (n + m3) k n q true W h HOJ3.out h2 hnm3 (by omega) ⟨fun _ => hd2, fun _ => rfl⟩
      have HD3 : Hid (∀ W Y k, Nl W Y (n + m3) k (joinN N c3) → Calls Try.prog 38 #[.slice Y (n + m3) k, .int .i64 (r : Int), .int .i64 (n : Int)] W fun e w' => e = .returned (.tuple #[.bool (bki && bkj), .bool true]) ∧ Below W.heap.size W w') := fun W Y k h => lsub_is (joinN N c3) Y (n + m3) k r n (bki && bkj) W h HOJ3.out h2 (by omega) hnm3 (by rw [Bool.and_eq_true, hki, hkj]; exact (hd3 r hr).symm)
      have HS1 := Lib.hid (fun W h => lsub_is N B n c p r bik W (HNQ8.out.below h (Nat.le_refl w8.heap.size)) HOK.out (by omega) hp hr hik)
      have HS2 := Lib.hid (fun W h => lsub_is N B n c q r bjk W (HNQ8.out.below h (Nat.le_refl w8.heap.size)) HOK.out (by omega) hq hr hjk)
      have HS3 := Lib.hid (fun W h => lsub_is N B n c r p bki W (HNQ8.out.below h (Nat.le_refl w8.heap.size)) HOK.out (by omega) hr hp hki)
      have HS4 := Lib.hid (fun W h => lsub_is N B n c r q bkj W (HNQ8.out.below h (Nat.le_refl w8.heap.size)) HOK.out (by omega) hr hq hkj)
      have HS5 := Lib.hid (fun W h => lsub_is N B n c p q bij W (HNQ8.out.below h (Nat.le_refl w8.heap.size)) HOK.out (by omega) hp hq hij)
      have HCJ := Lib.hid (fun W h => canon_at N B n c q W (HNQ8.out.below h (Nat.le_refl w8.heap.size)) HOK.out (by omega) hq)
      have HEI : Hid (∀ o, IsCan N q o → eqN c1 o = bij) := fun o ho => by
        rw [Bool.eq_iff_iff]
        unfold eqN
        rw [decide_eq_true_iff, hij]
        exact (hu4 o ho).symm
      clear hu1 hu2 hu3 hu4 hd1 hd2 hd3 hik hjk hki hkj hij HTA HTB HOJ1 HOJ3 HO1 HO3 HG1 HG3 HL1 HL3 HNQ8 HN38
      go_upto_region 29 with (first
        | (go_at_call 33; (with_reducible refine HSA.out.mono ?_); rintro e w9 ⟨rfl, hb9⟩; have HB9 := Lib.hid hb9; clear hb9)
        | (go_at_call 33; (with_reducible refine (HSB.out _ HB9.out).mono ?_); rintro e w10 ⟨rfl, hb10⟩; have HB10 := Lib.hid (HB9.out.trans (hb10.mono HB9.out.size)); clear hb10)
        | (go_at_call 39; (with_reducible refine (HJA.out _ HB10.out).mono ?_); rintro e w11 ⟨⟨Ya, ka, rfl, hna⟩, hb11⟩; have HB11 := Lib.hid (HB10.out.trans (hb11.mono HB10.out.size)); have HA11 := Lib.hid hna; clear hb11 hna)
        | (go_at_call 39; (with_reducible refine (HJB.out _ HB11.out).mono ?_); rintro e w12 ⟨⟨Yc, kc, rfl, hnc⟩, hb12⟩; have HB12 := Lib.hid (HB11.out.trans (hb12.mono HB11.out.size)); have HC12 := Lib.hid hnc; have HA12 := Lib.hid (HA11.out.below hb12 (Nat.le_refl _)); clear hb12 hnc)
        | (go_at_call 38; (with_reducible refine (HU1.out _ _ _ HA12.out).mono ?_); rintro e w13 ⟨rfl, hb⟩; have HB13 := Lib.hid (HB12.out.trans (hb.mono HB12.out.size)); have HA13 := Lib.hid (HA12.out.below hb (Nat.le_refl _)); have HC13 := Lib.hid (HC12.out.below hb (Nat.le_refl _)); clear hb)
        | (go_at_call 38; (with_reducible refine (HU2.out _ _ _ HA13.out).mono ?_); rintro e w14 ⟨rfl, hb⟩; have HB14 := Lib.hid (HB13.out.trans (hb.mono HB13.out.size)); have HA14 := Lib.hid (HA13.out.below hb (Nat.le_refl _)); have HC14 := Lib.hid (HC13.out.below hb (Nat.le_refl _)); clear hb)
        | (go_at_call 38; (with_reducible refine (HD1.out _ _ _ HC14.out).mono ?_); rintro e w15 ⟨rfl, hb⟩; have HB15 := Lib.hid (HB14.out.trans (hb.mono HB14.out.size)); have HA15 := Lib.hid (HA14.out.below hb (Nat.le_refl _)); have HC15 := Lib.hid (HC14.out.below hb (Nat.le_refl _)); clear hb)
        | (go_at_call 38; (with_reducible refine (HD2.out _ _ _ HC15.out).mono ?_); rintro e w16 ⟨rfl, hb⟩; have HB16 := Lib.hid (HB15.out.trans (hb.mono HB15.out.size)); have HA16 := Lib.hid (HA15.out.below hb (Nat.le_refl _)); have HC16 := Lib.hid (HC15.out.below hb (Nat.le_refl _)); clear hb)
        | (go_at_call 38; (with_reducible refine (HS1.out _ HB16.out).mono ?_); rintro e w17 ⟨rfl, hb⟩; have HB17 := Lib.hid (HB16.out.trans (hb.mono HB16.out.size)); have HA17 := Lib.hid (HA16.out.below hb (Nat.le_refl _)); have HC17 := Lib.hid (HC16.out.below hb (Nat.le_refl _)); clear hb)
        | (go_at_call 38; (with_reducible refine (HS2.out _ HB17.out).mono ?_); rintro e w18 ⟨rfl, hb⟩; have HB18 := Lib.hid (HB17.out.trans (hb.mono HB17.out.size)); have HA18 := Lib.hid (HA17.out.below hb (Nat.le_refl _)); have HC18 := Lib.hid (HC17.out.below hb (Nat.le_refl _)); clear hb)
        | (go_at_call 38; (with_reducible refine (HS3.out _ HB18.out).mono ?_); rintro e w19 ⟨rfl, hb⟩; have HB19 := Lib.hid (HB18.out.trans (hb.mono HB18.out.size)); have HA19 := Lib.hid (HA18.out.below hb (Nat.le_refl _)); have HC19 := Lib.hid (HC18.out.below hb (Nat.le_refl _)); clear hb)
        | (go_at_call 38; (with_reducible refine (HS4.out _ HB19.out).mono ?_); rintro e w20 ⟨rfl, hb⟩; have HB20 := Lib.hid (HB19.out.trans (hb.mono HB19.out.size)); have HA20 := Lib.hid (HA19.out.below hb (Nat.le_refl _)); have HC20 := Lib.hid (HC19.out.below hb (Nat.le_refl _)); clear hb)
        | (go_at_call 38; (with_reducible refine (HU3.out _ _ _ HA20.out).mono ?_); rintro e w21 ⟨rfl, hb⟩; have HB21 := Lib.hid (HB20.out.trans (hb.mono HB20.out.size)); have HA21 := Lib.hid (HA20.out.below hb (Nat.le_refl _)); have HC21 := Lib.hid (HC20.out.below hb (Nat.le_refl _)); clear hb)
        | (go_at_call 38; (with_reducible refine (HD3.out _ _ _ HC21.out).mono ?_); rintro e w22 ⟨rfl, hb⟩; have HB22 := Lib.hid (HB21.out.trans (hb.mono HB21.out.size)); have HA22 := Lib.hid (HA21.out.below hb (Nat.le_refl _)); have HC22 := Lib.hid (HC21.out.below hb (Nat.le_refl _)); clear hb)
        | (go_at_call 38; (with_reducible refine (HS5.out _ HB22.out).mono ?_); rintro e w23 ⟨rfl, hb⟩; have HB23 := Lib.hid (HB22.out.trans (hb.mono HB22.out.size)); have HA23 := Lib.hid (HA22.out.below hb (Nat.le_refl _)); have HC23 := Lib.hid (HC22.out.below hb (Nat.le_refl _)); clear hb)
        | (go_at_call 24; (with_reducible refine (HCJ.out _ HB23.out).mono ?_); rintro e w24 ⟨⟨Z, mz, dz, oz, rfl, hcz, hnz, hoz⟩, hb⟩; have HB24 := Lib.hid (HB23.out.trans (hb.mono HB23.out.size)); have HZN := Lib.hid hnz; have HEE := Lib.hid (HEI.out oz hcz); clear hb hcz hnz hoz))
      have HTY : Hid (Calls Try.prog 25 #[.slice Y1 m1 d1, .slice Z mz dz] w24 fun e w' => e = .returned (.bool bij) ∧ Below w24.heap.size w24 w') := by
        refine (types_any c1 oz Y1 Z m1 d1 mz dz w24 (HN18.out.below HB24.out (Nat.le_refl _)) HZN.out).mono ?_
        rw [HEE.out]
        rintro e w' ⟨rfl, hd⟩
        exact ⟨rfl, hd.below _⟩
      clear HU1 HU2 HU3 HD1 HD2 HD3 HS1 HS2 HS3 HS4 HS5 HCJ HEI HJA HJB HSA HSB HN18 HZN HEE HB9 HB10 HB11 HB12 HB13 HB14 HB15 HB16 HB17 HB18 HB19 HB20 HB21 HB22 HB23 HA11 HA12 HA13 HA14 HA15 HA16 HA17 HA18 HA19 HA20 HA21 HA22 HA23 HC12 HC13 HC14 HC15 HC16 HC17 HC18 HC19 HC20 HC21 HC22 HC23 g1 g2 h1 h2 v1 v2
      cases bik <;> cases bjk <;> cases bki <;> cases bkj <;> cases bij
      all_goals (
        go_wp2_with (first
          | (go_at_call 25; (with_reducible refine HTY.out.mono ?_); rintro e w25 ⟨rfl, hb25⟩; have HB25 := Lib.hid (HB24.out.trans (hb25.mono HB24.out.size)); clear hb25)
          | (go_at_call 19; refine (HAW.out _).mono ?_; rintro e w26 ⟨rfl, hb26⟩))
        go_ret
        exact ⟨rfl, HBF.out.trans ((HB25.out.trans (hb26.mono HB25.out.size)).mono HBF.out.size)⟩)
    · have g2 : ¬ (n : Int) + (m3 : Int) ≤ 24 := by omega
      clear HNQ8 HN18 HN38 h1 h2 HG1 HG3
      go_wp2_with (first
        | (go_at_call 33; (with_reducible refine HTA.out.mono ?_); rintro e w9 ⟨rfl, hb9⟩; have HB9 := Lib.hid hb9; clear hb9)
        | (go_at_call 33; (with_reducible refine (HTB.out _ HB9.out).mono ?_); rintro e w10 ⟨rfl, hb10⟩; have HB10 := Lib.hid (HB9.out.trans (hb10.mono HB9.out.size)); clear hb10)
        | (go_at_call 19; refine (HAW.out _).mono ?_; rintro e wg ⟨rfl, hbg⟩))
      go_ret
      exact ⟨rfl, HBF.out.trans ((HB10.out.trans (hbg.mono HB10.out.size)).mono HBF.out.size)⟩
  · have g1 : ¬ (n : Int) + (m1 : Int) ≤ 24 := by omega
    clear HNQ8 HN18 HN38 h1 HG1 HG3
    go_wp2_with (first
      | (go_at_call 33; (with_reducible refine HTA.out.mono ?_); rintro e w9 ⟨rfl, hb9⟩; have HB9 := Lib.hid hb9; clear hb9)
      | (go_at_call 33; (with_reducible refine (HTB.out _ HB9.out).mono ?_); rintro e w10 ⟨rfl, hb10⟩; have HB10 := Lib.hid (HB9.out.trans (hb10.mono HB9.out.size)); clear hb10)
      | (go_at_call 19; refine (HAW.out _).mono ?_; rintro e wg ⟨rfl, hbg⟩))
    go_ret
    exact ⟨rfl, HBF.out.trans ((HB10.out.trans (hbg.mono HB10.out.size)).mono HBF.out.size)⟩
end Go.Proofs.Ytmbdjjkgjnemiaa
