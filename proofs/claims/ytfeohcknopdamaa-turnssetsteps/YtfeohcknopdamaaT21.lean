import Derived.Test.YtfeohcknopdamaaT20
/- Layer 10: TurnsSetSteps. -/
namespace Go.Proofs.Ytfeohcknopdamaa
open Go.RowKit
set_option linter.unusedVariables false

set_option maxRecDepth 100000 in
set_option maxHeartbeats 6400000 in
theorem setSteps_walk (n0 a0 : Int) (w : World) :
    Calls Try.prog 8 #[.int .i64 n0, .int .i64 a0] w fun e w' => e = .returned (.bool true) ∧ Below w.heap.size w w' := by
  go_enter Try.func8, Try.ntmps8
  go_upto_region 2 with (go_at_call 52; refine (mod_big n0 40 _ (by omega) (by omega)).mono ?_; rintro e w1 ⟨⟨r, rfl, hr⟩, rfl⟩)
  obtain ⟨N, hN⟩ : ∃ N : Nat, N = r + 1 := ⟨_, rfl⟩
  rw [show 1 + (r : Int) = (N : Int) by omega]
  have hN1 : 1 ≤ N := by omega
  have hN40 : N ≤ 40 := by omega
  clear hN hr
  have hsh := shl_nat N hN40
  have hq := two_le hN40
  obtain ⟨q, hqe⟩ : ∃ q, q = 2 ^ N := ⟨_, rfl⟩
  have hq1 : 1 ≤ q := by rw [hqe]; exact Nat.two_pow_pos N
  rw [← hqe] at hsh hq
  have HQE := Lib.hid hqe
  have HMB := Lib.hid (mod_big a0 q w hq1 (Nat.le_trans hq (by decide)))
  clear hqe
  go_upto_region 3 with (go_at_call 52; (with_reducible refine HMB.out.mono ?_); rintro e w1 ⟨⟨a, rfl, ha⟩, rfl⟩)
  clear HMB
  obtain ⟨a2, ha2⟩ : ∃ a2, a2 = (a + 1) % q := ⟨_, rfl⟩
  have ha2l : a2 < q := by rw [ha2]; exact Nat.mod_lt _ hq1
  have D1 : Hid (((a : Int) + 1).tmod (q : Int) = (a2 : Int)) := by
    rw [Hid, Int.tmod_eq_emod_of_nonneg (by omega), show (a : Int) + 1 = ((a + 1 : Nat) : Int) from rfl, ← Int.natCast_emod, ha2]
  have D2 : Hid (((a : Int) + 1) % (q : Int) = (a2 : Int)) := by
    rw [Hid, show (a : Int) + 1 = ((a + 1 : Nat) : Int) from rfl, ← Int.natCast_emod, ha2]
  have D3 : Hid (wrap64 (a2 : Int) = (a2 : Int)) := IntWalk.wrap64_in _ ⟨by omega, by omega⟩
  have HSUM : Hid (cnt (pL expL N N a) (pL expL N N a2) + cnt (pL expL N N a2) (pL expL N N a) = 1) := by
    by_cases h1 : a + 1 < q
    · have e : a2 = a + 1 := by rw [ha2, Nat.mod_eq_of_lt h1]
      rw [Hid, e]
      exact gray N N a (by rw [← HQE.out]; exact h1)
    · have e0 : a + 1 = q := by omega
      have e : a2 = 0 := by rw [ha2, e0, Nat.mod_self]
      obtain ⟨M, rfl⟩ : ∃ M, N = M + 1 := ⟨N - 1, by omega⟩
      rw [Hid, e, show a = 2 ^ (M + 1) - 1 by rw [← HQE.out]; omega]
      exact gray_last M (M + 1)
  have HST1 := Lib.hid (fun V => set_ok N a V hN40 (by rw [← HQE.out]; exact ha))
  have HST2 := Lib.hid (fun V => set_ok N a2 V hN40 (by rw [← HQE.out]; exact ha2l))
  have HSB1 := Lib.hid (pL_set expL N N a)
  have HSB2 := Lib.hid (pL_set expL N N a2)
  have HBK : Hid (plF expL (pL expL N N a) (pL expL N N a).length = a) := set_back N N a (by rw [← HQE.out]; exact ha)
  generalize pL expL N N a = zs1 at *
  generalize pL expL N N a2 = zs2 at *
  clear ha2
  obtain ⟨x, hx⟩ : ∃ x, x = cnt zs1 zs2 := ⟨_, rfl⟩
  obtain ⟨y, hy⟩ : ∃ y, y = cnt zs2 zs1 := ⟨_, rfl⟩
  have hxy : x + y = 1 := by rw [hx, hy]; exact HSUM.out
  have V1 : Hid (IntKind.i64.wrap ((x : Int) + (y : Int)) = 1) := by rw [Hid, show (x : Int) + (y : Int) = 1 by omega]; rfl
  have HXX := Lib.hid hx
  have HYY := Lib.hid hy
  clear hx hy hxy
  have d1 := D1.out
  have d2 := D2.out
  have d3 := D3.out
  have v1 := V1.out
  go_wp2_with (first
    | (go_at_call 17; (with_reducible refine (HST1.out _).mono ?_); rintro e w2 ⟨⟨A1, c1, rfl, hs⟩, hb⟩; have HS1 := Lib.hid hs; have HB2 := Lib.hid hb; clear hs hb)
    | (go_at_call 17; (with_reducible refine (HST2.out w2).mono ?_); rintro e w3 ⟨⟨A2, c2, rfl, hs⟩, hb⟩; have HS2 := Lib.hid hs; have HT1 := Lib.hid (HS1.out.below hb (Nat.le_refl _)); have HB3 := Lib.hid (HB2.out.trans (hb.mono HB2.out.size)); have HAT := Lib.hid (setAt_ok N zs1 A1 zs1.length c1 w3 hN40 HT1.out HSB1.out); clear hs hb)
    | (go_at_call 18; (with_reducible refine HAT.out.mono ?_); rintro e w4 ⟨rfl, hb⟩; rw [HBK.out]; have HU1 := Lib.hid (HT1.out.below hb (Nat.le_refl _)); have HU2 := Lib.hid (HS2.out.below hb (Nat.le_refl _)); have HB4 := Lib.hid (HB3.out.trans (hb.mono HB3.out.size)); have HRS1 := Lib.hid (fun V (hs : Sl V A1 zs1.length c1 zs1) => setsR_any zs1 (N : Int) A1 zs1.length c1 V hs); have HRS2 := Lib.hid (fun V (hs : Sl V A2 zs2.length c2 zs2) => setsR_any zs2 (N : Int) A2 zs2.length c2 V hs); rw [HSB1.out] at HRS1; rw [HSB2.out] at HRS2; clear hb)
    | (go_at_call 22; (with_reducible refine (HRS1.out _ HU1.out).mono ?_); rintro e w5 ⟨rfl, hd⟩; have HB5 := Lib.hid (HB4.out.trans ((hd.below w4.heap.size).mono HB4.out.size)); have HX1 := Lib.hid (HU1.out.dr hd); have HX2 := Lib.hid (HU2.out.dr hd); clear hd)
    | (go_at_call 22; (with_reducible refine (HRS2.out w5 HX2.out).mono ?_); rintro e w6 ⟨rfl, hd⟩; have HB6 := Lib.hid (HB5.out.trans ((hd.below w5.heap.size).mono HB5.out.size)); have HY1 := Lib.hid (HX1.out.dr hd); have HY2 := Lib.hid (HX2.out.dr hd); have HDF := Lib.hid (differ_any zs1 zs2 A1 A2 zs1.length zs2.length c1 c2 w6 HY1.out HY2.out (asc_of HSB1.out) (asc_of HSB2.out)); rw [← HXX.out, ← HYY.out] at HDF; clear hd)
    | (go_at_call 53; (with_reducible refine HDF.out.mono ?_); rintro e w7 ⟨rfl, hd⟩; have HB7 := Lib.hid (HB6.out.trans ((hd.below w6.heap.size).mono HB6.out.size)); clear hd)
    | (go_at_call 19; (with_reducible refine (awake_here _).mono ?_); rintro e w8 ⟨rfl, hb⟩; have HB8 := Lib.hid (HB7.out.trans (hb.mono HB7.out.size)); clear hb))
  go_ret
  exact ⟨rfl, HB8.out⟩
end Go.Proofs.Ytfeohcknopdamaa
