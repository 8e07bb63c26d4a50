import Derived.Test.YtmbdjjkgjnemiaaT14
import Derived.Test.YtmbdjjkgjnemiaaT12
/- Layer 6: the walk of LoopsLaws. -/
namespace Go.Proofs.Ytmbdjjkgjnemiaa
open Go.RowKit
set_option linter.unusedVariables false

theorem exB (P : Prop) : ∃ b : Bool, (b = true ↔ P) := ⟨@decide P (Classical.propDecidable P), by simp⟩
set_option maxRecDepth 100000 in
set_option maxHeartbeats 6400000 in
theorem laws_walk (zs : List Ty) (A : Option Addr) (len cap : Nat) (x0 x1 x2 : Int) (w : World) (hT : Tl w A len cap zs) :
    Calls Try.prog 9 #[.slice A len cap, .agg #[.int .i64 x0, .int .i64 x1, .int .i64 x2]] w fun e w' => e = .returned (.bool true) ∧ Below w.heap.size w w' := by
  obtain ⟨W, hW⟩ : ∃ W, W = w.alloc (.cells #[.int .i64 x0, .int .i64 x1, .int .i64 x2] 57) := ⟨_, rfl⟩
  have hb : Below w.heap.size w W := by rw [hW]; exact (Below.refl _ w).alloc (Nat.le_refl _) _
  have hbx : W.heap[w.heap.size]? = some (.cells #[.int .i64 x0, .int .i64 x1, .int .i64 x2] 57 (0, 0)) := by rw [hW]; exact heap_alloc_new _ _
  have hsz : w.heap.size < W.heap.size := by rw [hW]; simp
  have HTM : Hid (Calls Try.prog 36 #[.slice A len cap, .int .i64 12] W fun e w' => (∃ B n c N, e = .returned (.slice B n c) ∧ 1 ≤ n ∧ n ≤ 12 ∧ OkN N ∧ Nl w' B n c N ∧ Ow3 w' W.heap.size (.slice B n c) N) ∧ Below W.heap.size W w') := tame_any zs A len cap 12 W (hT.below hb (Nat.le_refl _)) (by omega) (by omega)
  have HB := Lib.hid hb
  have HBX := Lib.hid hbx
  have HW := Lib.hid hW
  obtain ⟨ti, hi, hz0, hz1, hz2⟩ := info_parts Try.infoTy
  have HI : Hid (Try.prog.info? 59 = some ti ∧ ti.zero = some (.agg #[.int .i64 0, .int .i64 0, .int .i64 0]) ∧ ti.size = 3 ∧ ti.bytes = 24) := ⟨hi, hz0, hz1, hz2⟩
  clear hW hb hbx hT hi hz0 hz1 hz2
  go_enter Try.func9, Try.ntmps9
  go_wp2_with (first
    | (go_at_call 36; rw [← HW.out]; refine HTM.out.mono ?_; rintro e w1 ⟨⟨B, n, c, N, rfl, hn1, hn2, hok, hnl, ho⟩, hb1⟩; have HO := Lib.hid ho; have HNL := Lib.hid hnl; have HOK := Lib.hid hok; have HB1 := Lib.hid hb1; have HLE : Hid (N.length ≤ 1099511627776) := (by rw [Hid, hnl.len]; omega); clear hb1 hok hnl ho)
    | (at_builtin; go_must (refine push3two_at _ rfl (.tmp 27) (.tmp 30) 22 rfl W.heap.size ti Try.underlying22 HI.out _ N _ rfl rfl rfl HO.out HLE.out HB1.out.size ?_); intro v2 w2 hv2 hg2; obtain ⟨m, hm⟩ : ∃ m, m = n + 2 := ⟨_, rfl⟩; obtain ⟨B2, c2, rfl, hnl2⟩ := hv2.nl (n := m) (by rw [List.length_append, HNL.out.len, hm]; rfl) (by omega) (by omega); have HV2 := Lib.hid hnl2; have HG2 := Lib.hid hg2; have HMM := Lib.hid hm; have hm1 : n + 1 < m := (by omega); have hm14 : m ≤ 14 := (by omega); clear hv2 hg2 hnl2 hm))
  obtain ⟨hokM, hk0, hk1⟩ := two_ok HOK.out
  rw [HNL.out.len] at hk0 hk1
  have hln := HV2.out.len
  obtain ⟨M, hM⟩ : ∃ M, M = N ++ [⟨0, 0, 0⟩, ⟨1, 0, 0⟩] := ⟨_, rfl⟩
  rw [← hM] at hokM hk0 hk1 hln
  have HVM : Hid (Nl w2 B2 m c2 M) := by rw [hM]; exact HV2.out
  have hb2 : Below W.heap.size W w2 := HB1.out.trans ⟨HG2.out.os, HG2.out.tape, HG2.out.output, HG2.out.size, fun k hk => HG2.out.block k (by have := HB1.out.size; omega) (fun e => by have := (HO.out.lt e.symm).1; omega)⟩
  have hbx2 := (hb2.block _ hsz).trans HBX.out
  have k0 := cell_in hbx2 (i := 0) rfl
  have k1 := cell_in hbx2 (i := 1) rfl
  have k2 := cell_in hbx2 (i := 2) rfl
  obtain ⟨p, hp, hmp⟩ := mod_is x0 m (by omega) (by omega)
  obtain ⟨q, hq, hmq⟩ := mod_is x1 m (by omega) (by omega)
  obtain ⟨r, hr, hmr⟩ := mod_is x2 m (by omega) (by omega)
  have HM1 := Lib.hid hmp
  have HM2 := Lib.hid hmq
  have HM3 := Lib.hid hmr
  have HB2 := Lib.hid (HB.out.trans (hb2.mono HB.out.size))
  have HOM := Lib.hid hokM
  clear hmp hmq hmr hokM hbx2 hb2 HV2 HG2 HO HNL HOK HB1 HLE
  go_quiet (first | (go_at_call 37; (with_reducible exact quiet_same (HM1.out _))) | (go_at_call 37; (with_reducible exact quiet_same (HM2.out _))) | (go_at_call 37; (with_reducible exact quiet_same (HM3.out _))))
  have HBQ : Hid (Below w2.heap.size w2 (w2.drewN nq)) := below_dn (Below.refl _ _) _
  generalize w2.drewN nq = w3 at *
  obtain ⟨b1, hb1⟩ := exB (SubT M (p, q))
  obtain ⟨b2, hb2⟩ := exB (SubT M (q, r))
  obtain ⟨b3, hb3⟩ := exB (SubT M (p, r))
  obtain ⟨b4, hb4⟩ := exB (SubT M (q, p))
  have HSB : Hid (∀ i j b W, (b = true ↔ SubT M (i, j)) → i < m → j < m → Below w2.heap.size w2 W → Calls Try.prog 38 #[.slice B2 m c2, .int .i64 (i : Int), .int .i64 (j : Int)] W fun e w' => e = .returned (.tuple #[.bool b, .bool true]) ∧ Below W.heap.size W w') := fun i j b W hb hi hj hW => lsub_is M B2 m c2 i j b W (HVM.out.below hW (Nat.le_refl _)) HOM.out (by omega) hi hj hb
  have HS1 := Lib.hid (fun W hW => HSB.out p q b1 W hb1 hp hq hW)
  have HS2 := Lib.hid (fun W hW => HSB.out q r b2 W hb2 hq hr hW)
  have HS3 := Lib.hid (fun W hW => HSB.out p r b3 W hb3 hp hr hW)
  have HS4 := Lib.hid (fun W hW => HSB.out q p b4 W hb4 hq hp hW)
  have HS5 := Lib.hid (fun W hW => HSB.out p p true W ⟨fun _ => subT_refl M p, fun _ => rfl⟩ hp hp hW)
  have HS6 := Lib.hid (fun W hW => HSB.out n p true W ⟨fun _ => subT_none hk0, fun _ => rfl⟩ (by omega) hp hW)
  have HS7 : Hid (∀ W, Below w2.heap.size w2 W → Calls Try.prog 38 #[.slice B2 m c2, .int .i64 (p : Int), .int .i64 ((n : Int) + 1)] W fun e w' => e = .returned (.tuple #[.bool true, .bool true]) ∧ Below W.heap.size W w') := fun W hW => HSB.out p (n + 1) true W ⟨fun _ => subT_all hk1, fun _ => rfl⟩ hp (by omega) hW
  have hbe : (b1 && b4) = true ↔ EqT M (p, q) := by
    rw [Bool.and_eq_true, hb1, hb4]
    exact ⟨fun h => eqT_of_sub h.1 h.2, fun h => ⟨subT_of_eq h, subT_of_eq (eqT_symm h)⟩⟩
  have hb123 : b1 = true → b2 = true → b3 = true := fun h1 h2 => hb3.2 (subT_trans (hb1.1 h1) (hb2.1 h2))
  have HEQ : Hid (∀ W, Below w2.heap.size w2 W → Calls Try.prog 23 #[.slice B2 m c2, .int .i64 (p : Int), .int .i64 (q : Int)] W fun e w' => e = .returned (.tuple #[.bool (b1 && b4), .int .i64 0]) ∧ Below W.heap.size W w') := fun W hW => equal_is M B2 m c2 p q (b1 && b4) W (HVM.out.below hW (Nat.le_refl _)) HOM.out (by omega) hp hq hbe
  have HAW := Lib.hid (fun W => awake_here W)
  have e1 : (m : Int) - 2 = (n : Int) := by have := HMM.out; omega
  have e2 : (m : Int) - 1 = (n : Int) + 1 := by have := HMM.out; omega
  clear hb1 hb2 hb3 hb4 HSB HOM HVM k0 k1 k2 HM1 HM2 HM3 hbe hM
  go_upto_region 12 with (first
    | (go_at_call 38; (with_reducible refine (HS1.out _ HBQ.out).mono ?_); rintro e w4 ⟨rfl, hb⟩; have HB4 := Lib.hid (HBQ.out.trans (hb.mono HBQ.out.size)); clear hb)
    | (go_at_call 38; (with_reducible refine (HS2.out _ HB4.out).mono ?_); rintro e w5 ⟨rfl, hb⟩; have HB5 := Lib.hid (HB4.out.trans (hb.mono HB4.out.size)); clear hb)
    | (go_at_call 38; (with_reducible refine (HS3.out _ HB5.out).mono ?_); rintro e w6 ⟨rfl, hb⟩; have HB6 := Lib.hid (HB5.out.trans (hb.mono HB5.out.size)); clear hb)
    | (go_at_call 38; (with_reducible refine (HS4.out _ HB6.out).mono ?_); rintro e w7 ⟨rfl, hb⟩; have HB7 := Lib.hid (HB6.out.trans (hb.mono HB6.out.size)); clear hb)
    | (go_at_call 38; (with_reducible refine (HS5.out _ HB7.out).mono ?_); rintro e w8 ⟨rfl, hb⟩; have HB8 := Lib.hid (HB7.out.trans (hb.mono HB7.out.size)); clear hb)
    | (go_at_call 38; (with_reducible refine (HS6.out _ HB8.out).mono ?_); rintro e w9 ⟨rfl, hb⟩; have HB9 := Lib.hid (HB8.out.trans (hb.mono HB8.out.size)); clear hb)
    | (go_at_call 38; (with_reducible refine (HS7.out _ HB9.out).mono ?_); rintro e w10 ⟨rfl, hb⟩; have HB10 := Lib.hid (HB9.out.trans (hb.mono HB9.out.size)); clear hb)
    | (go_at_call 23; refine (HEQ.out _ HB10.out).mono ?_; rintro e w11 ⟨rfl, hb⟩; have HB11 := Lib.hid (HB10.out.trans (hb.mono HB10.out.size)); clear hb))
  clear HS1 HS2 HS3 HS4 HS5 HS6 HS7 HEQ e1 e2
  cases b1 <;> cases b2 <;> cases b3 <;> cases b4
  all_goals first
    | exact absurd (hb123 rfl rfl) (by decide)
    | (clear hb123
       go_wp2_with (go_at_call 19; refine (HAW.out _).mono ?_; rintro e w12 ⟨rfl, hb12⟩)
       go_ret
       exact ⟨rfl, HB2.out.trans ((HB11.out.trans (hb12.mono HB11.out.size)).mono HB2.out.size)⟩)
end Go.Proofs.Ytmbdjjkgjnemiaa
