import Derived.Test.YtfeohcknopdamaaT29
import Derived.Deep.Cut
import Derived.Deep.RegionWith
/- Layer 10: the reference's GroupingAt and Grouping. -/
namespace Go.Proofs.Ytfeohcknopdamaa
open Go.RowKit
set_option linter.unusedVariables false

theorem gF_rng {l g a : Nat} (h : a < wy (l + 1) g) : a - min (a / wy l g) g * wy l g < wy l (max g (min (a / wy l g) g + 1)) := by
  have hp := wy_pos l g
  rw [wy] at h
  by_cases hc : a < g * wy l g
  · have h1 : a / wy l g < g := (Nat.div_lt_iff_lt_mul hp).2 hc
    have h2 := Nat.div_add_mod a (wy l g)
    rw [Nat.mul_comm] at h2
    have h3 := Nat.mod_lt a hp
    rw [Nat.min_eq_left (Nat.le_of_lt h1), Nat.max_eq_left h1]
    omega
  · have h1 : g ≤ a / wy l g := (Nat.le_div_iff_mul_le hp).2 (by omega)
    rw [Nat.min_eq_right h1, Nat.max_eq_right (Nat.le_succ g)]
    have h4 : wy l g.succ = wy l (g + 1) := rfl
    omega
theorem min_div {a E g x : Nat} (hE : 1 ≤ E) (h1 : x ≤ g) (h2 : x * E ≤ a) (h3 : x = g ∨ a - x * E < E) : min (a / E) g = x := by
  have h4 : x ≤ a / E := (Nat.le_div_iff_mul_le hE).2 h2
  rcases h3 with rfl | h3
  · exact Nat.min_eq_right h4
  · have h5 : a / E < x + 1 := (Nat.div_lt_iff_lt_mul hE).2 (by rw [Nat.add_mul, Nat.one_mul]; omega)
    have h6 : a / E = x := by omega
    rw [h6]; exact Nat.min_eq_left h1
/-- One step of a grouping. -/
theorem gF_one {l g a x : Nat} (h : a < wy (l + 1) g) (h1 : x ≤ g) (h2 : x * wy l g ≤ a) (h3 : x = g ∨ a - x * wy l g < wy l g) :
    gF (l + 1) g a = (x : Int) :: gF l (max g (x + 1)) (a - x * wy l g) ∧ a - x * wy l g < wy l (max g (x + 1)) := by
  have e := min_div (wy_pos l g) h1 h2 h3
  have h4 := gF_rng h
  rw [e] at h4
  rw [gF, e]
  exact ⟨rfl, h4⟩
theorem wy_up2 {l g : Nat} (h : l + 1 + g ≤ 20) : wy (l + 1) g ≤ 474869816156751 := wy_le (by omega)
theorem gP_drop {zs : List Int} {k u : Nat} (h : k < zs.length) : gP u (zs.drop k) = (atI zs k).toNat * wy (zs.length - 1 - k) u + gP (max u ((atI zs k).toNat + 1)) (zs.drop (k + 1)) := by
  rw [show zs.drop k = atI zs k :: zs.drop (k + 1) from by rw [List.drop_eq_getElem_cons h, atI_get h], gP, List.length_drop, show zs.length - (k + 1) = zs.length - 1 - k by omega]
set_option maxRecDepth 100000 in
set_option maxHeartbeats 3200000 in
theorem groupingAtR_any (zs : List Int) (A : Option Addr) (n c : Nat) (w : World) (h : Sl w A n c zs) (hg : grpB zs = true) :
    Calls Try.prog 44 #[.slice A n c] w fun e w' => e = .returned (.int .i64 ((gP 0 zs : Nat) : Int)) ∧ Below w.heap.size w w' := by
  have HL : Hid (zs.length = n) := h.len
  have HS := Lib.hid (fun V (hV : Below w.heap.size w V) => h.below hV (Nat.le_refl _))
  rw [grpB, Bool.and_eq_true, decide_eq_true_iff, h.len] at hg
  obtain ⟨hn, hgr⟩ := hg
  have htot := gP_lt zs 0 hgr
  rw [h.len] at htot
  have htb : gP 0 zs < 474869816156751 := Nat.lt_of_lt_of_le htot (wy_le (by omega))
  obtain ⟨tot, ht⟩ : ∃ tot, tot = gP 0 zs := ⟨_, rfl⟩
  rw [← ht] at htb ⊢
  have HT := Lib.hid ht
  have HGR := Lib.hid hgr
  clear h htot ht hgr
  go_enter Try.func44, Try.ntmps44
  go_wp2
  go_loopw [3, 4, 5] (fun s v i w' => ∃ k u a : Nat, k ≤ n ∧ u ≤ k ∧ i = .int .i64 (k : Int) ∧ v = .int .i64 (u : Int) ∧ s = .int .i64 (a : Int) ∧ Hid (tot = a + gP u (zs.drop k) ∧ grB u (zs.drop k) = true) ∧ Hid (Below w.heap.size w w')) (fun _ _ i _ => n - (intOf i).toNat)
  case atStart => exact ⟨0, 0, 0, Nat.zero_le _, Nat.le_refl _, by go_num, by go_num, by go_num, ⟨by rw [List.drop_zero, Nat.zero_add]; exact HT.out, by rw [List.drop_zero]; exact HGR.out⟩, Below.refl _ _⟩
  case round =>
    obtain ⟨k, u, a, hk, hu, rfl, rfl, rfl, HK, HB⟩ := hrel
    obtain ⟨wo, rfl⟩ : ∃ wo : World, wo = wr := ⟨_, rfl⟩
    by_cases hlt : k < n
    · have i1 : (k : Int) < (n : Int) := by omega
      obtain ⟨hk1, hk2⟩ := HK.out
      rw [gP_drop (by rw [HL.out]; exact hlt), HL.out] at hk1
      rw [grB_drop (by rw [HL.out]; exact hlt), Bool.and_eq_true, Bool.and_eq_true, decide_eq_true_iff, decide_eq_true_iff] at hk2
      obtain ⟨⟨hz0, hzu⟩, hk2⟩ := hk2
      obtain ⟨b, off, rfl, hcell⟩ := (HS.out wo HB.out).at_ hlt
      rw [show zs[k]?.getD 0 = atI zs k from rfl] at hcell
      generalize atI zs k = z at *
      obtain ⟨x, rfl⟩ : ∃ x : Nat, z = (x : Int) := ⟨z.toNat, by omega⟩
      rw [Int.toNat_natCast] at hk1 hk2
      obtain ⟨l, hl⟩ : ∃ l, l = n - 1 - k := ⟨_, rfl⟩
      rw [← hl] at hk1
      have HG := Lib.hid (fun V => groupsR_any u l V (by omega))
      have V0 : Hid (IntKind.i64.wrap ((n : Int) - 1 - (k : Int)) = (l : Int)) := by rw [Hid, show (n : Int) - 1 - (k : Int) = (l : Int) by omega]; exact IntWalk.i64_in _ (by omega)
      have V1 : Hid (IntKind.i64.wrap ((n : Int) - 1) = (n : Int) - 1) := IntWalk.i64_in _ (by omega)
      generalize wy l u = E at *
      have hxe : a + x * E ≤ tot := by omega
      have V2 : Hid (IntKind.i64.wrap ((x : Int) * (E : Int)) = ((x * E : Nat) : Int)) := by rw [Hid, ← Int.natCast_mul]; exact IntWalk.i64_in _ (by omega)
      have V3 : Hid (IntKind.i64.wrap ((a : Int) + ((x * E : Nat) : Int)) = ((a + x * E : Nat) : Int)) := by rw [Hid, ← Int.natCast_add]; exact IntWalk.i64_in _ (by omega)
      have HX : Hid (tot = a + x * E + gP (max u (x + 1)) (zs.drop (k + 1)) ∧ grB (max u (x + 1)) (zs.drop (k + 1)) = true) := ⟨by omega, hk2⟩
      have hbl := lt_of_cell hcell
      have HBD : Hid (Below w.heap.size w wo.drew) := HB.out.drew
      have hxu : x ≤ u := by omega
      clear hk1 hk2 hl hxe hz0 hzu
      generalize x * E = p at *
      generalize a + p = s2 at *
      by_cases hux : u < x + 1
      all_goals
        first | have m1 : (u : Int) < (x : Int) + 1 := by omega | have m1 : ¬ (u : Int) < (x : Int) + 1 := by omega
        obtain ⟨mx, hmx⟩ : ∃ mx, mx = max u (x + 1) := ⟨_, rfl⟩
        have hmv : mx = (if u < x + 1 then x + 1 else u) := by rw [hmx]; by_cases h : u < x + 1 <;> simp only [h, if_true, if_false] <;> omega
        first | rw [if_pos hux] at hmv | rw [if_neg hux] at hmv
        rw [← hmx] at HX
        have HMV := Lib.hid hmv
        have hmk : mx ≤ k + 1 := by omega
        clear hmx hmv
        have v0 := V0.out
        have v1 := V1.out
        have v2 := V2.out
        have v3 := V3.out
        go_upto_region 5 with (fail)
        go_region_with (go_at_call 41; (with_reducible refine (HG.out _).mono ?_); rintro e w1 ⟨rfl, hb⟩; have hcell1 : w1.cell? ⟨b, off + k, none⟩ = some (.int .i64 (x : Int)) := (hb.cell (p := ⟨b, off + k, none⟩) hbl).trans hcell; have HB1 := Lib.hid (HBD.out.trans (hb.mono HBD.out.size)); clear hb)
        all_goals
          clear v0 v1 v2 v3
          go_wp2
          exact ⟨⟨k + 1, mx, s2, by omega, hmk, by go_num, (by first | (rw [HMV.out]; done) | (rw [HMV.out]; go_num)), rfl, HX.out, HB1.out⟩, by simp [intOf]; omega⟩
    · have hkn : k = n := by omega
      have HX : Hid (tot = a) := by
        have h1 := HK.out.1
        rw [hkn, List.drop_of_length_le (by rw [HL.out]; exact Nat.le_refl _)] at h1
        exact h1
      have i1 : ¬ (k : Int) < (n : Int) := by omega
      clear hkn
      go_wp2
      go_ret
      exact ⟨by rw [HX.out]; rfl, HB.out⟩
set_option maxRecDepth 100000 in
set_option maxHeartbeats 6400000 in
theorem groupingR_any (n a0 : Nat) (w : World) (hn : n ≤ 20) (ha : a0 < wy n 0) :
    Calls Try.prog 42 #[.int .i64 (n : Int), .int .i64 (a0 : Int)] w fun e w' => (∃ v, e = .returned v ∧ Ow w' w.heap.size 3 v (gF n 0 a0)) ∧ Below w.heap.size w w' := by
  obtain ⟨i0, hi0, hz0, hz1, hz2⟩ := info_parts Try.infoInt
  have HI0 : Hid (Try.prog.info? 3 = some i0 ∧ i0.zero = some (.int .i64 0) ∧ i0.size = 1 ∧ i0.bytes = 8) := ⟨hi0, hz0, hz1, hz2⟩
  have HA := Lib.hid ha
  clear hi0 hz0 hz1 hz2 ha
  go_enter Try.func42, Try.ntmps42
  go_wp2
  go_loopw [1, 5, 6, 7] (fun at_ v g i w' => ∃ (k u a : Nat) (cs : List Int) (v' : Value), k ≤ n ∧ u ≤ k ∧ v' = v ∧ i = .int .i64 (k : Int) ∧ g = .int .i64 (u : Int) ∧ at_ = .int .i64 (a : Int) ∧ Hid (cs.length = k ∧ gF n 0 a0 = cs ++ gF (n - k) u a ∧ a < wy (n - k) u) ∧ Hid (Ow w' w.heap.size 3 v' cs) ∧ Hid (Below w.heap.size w w')) (fun _ _ _ i _ => n - (intOf i).toNat)
  case atStart => exact ⟨0, 0, a0, [], _, Nat.zero_le _, Nat.le_refl _, rfl, by go_num, by go_num, rfl, ⟨rfl, rfl, HA.out⟩, Ow.nil _ _ _, Below.refl _ _⟩
  case round =>
    obtain ⟨k, u, a, cs, v, hk, hu, rfl, rfl, rfl, rfl, HK, HO, HB⟩ := hrel
    obtain ⟨wo, rfl⟩ : ∃ wo : World, wo = wr := ⟨_, rfl⟩
    clear HA
    by_cases hlt : k < n
    · have i1 : (k : Int) < (n : Int) := by omega
      obtain ⟨l, hl⟩ : ∃ l, l = n - 1 - k := ⟨_, rfl⟩
      have hnk : n - k = l + 1 := by omega
      have hnk2 : n - (k + 1) = l := by omega
      obtain ⟨hc1, hc2, hc3⟩ := HK.out
      rw [hnk] at hc2 hc3
      have hab : a < 474869816156751 := Nat.lt_of_lt_of_le hc3 (wy_le (by omega))
      have HG := Lib.hid (fun V => groupsR_any u l V (by omega))
      have hEp := wy_pos l u
      have HONE := Lib.hid (fun x (h1 : x ≤ u) (h2 : x * wy l u ≤ a) (h3 : x = u ∨ a - x * wy l u < wy l u) => gF_one (l := l) (g := u) (a := a) hc3 h1 h2 h3)
      have V0 : Hid (IntKind.i64.wrap ((n : Int) - 1 - (k : Int)) = (l : Int)) := by rw [Hid, show (n : Int) - 1 - (k : Int) = (l : Int) by omega]; exact IntWalk.i64_in _ (by omega)
      have HC := Lib.hid (And.intro hc1 hc2)
      have HNK := Lib.hid hnk2
      clear hl hnk hnk2 hc1 hc2 hc3
      generalize wy l u = E at *
      go_wp2
      go_loopw [1, 8] (fun at_ xv w' => ∃ x b : Nat, x ≤ u ∧ xv = .int .i64 (x : Int) ∧ at_ = .int .i64 (b : Int) ∧ b ≤ a ∧ Hid (b = a - x * E ∧ x * E ≤ a) ∧ Hid (Below wo.heap.size wo w')) (fun _ xv _ => u - (intOf xv).toNat)
      case atStart => exact ⟨0, a, Nat.zero_le _, by go_num, rfl, Nat.le_refl _, ⟨by rw [Nat.zero_mul]; rfl, by rw [Nat.zero_mul]; exact Nat.zero_le _⟩, Below.refl _ _⟩
      case round =>
        obtain ⟨x, b, hx, rfl, rfl, hba, HX, HBI⟩ := hrel
        obtain ⟨wi, rfl⟩ : ∃ wi : World, wi = wr := ⟨_, rfl⟩
        by_cases hgo : x < u ∧ E ≤ b
        · obtain ⟨g1, g2⟩ := hgo
          have d1 : decide ((x : Int) < (u : Int)) = true := decide_eq_true (by omega)
          have d1' : decide (x < u) = true := decide_eq_true g1
          have d2 : decide ((b : Int) ≥ (E : Int)) = true := decide_eq_true (by omega)
          have d2' : decide ((E : Int) ≤ (b : Int)) = true := decide_eq_true (by omega)
          have d2'' : decide (E ≤ b) = true := decide_eq_true g2
          obtain ⟨b2, hb2⟩ : ∃ b2, b2 = b - E := ⟨_, rfl⟩
          have HX2 : Hid (b2 = a - (x + 1) * E ∧ (x + 1) * E ≤ a) := by
            have := HX.out
            rw [Hid, Nat.add_mul, Nat.one_mul]; omega
          have V1 : Hid (IntKind.i64.wrap ((b : Int) - (E : Int)) = (b2 : Int)) := by rw [Hid, show (b : Int) - (E : Int) = (b2 : Int) by omega]; exact IntWalk.i64_in _ (by omega)
          have hb2a : b2 ≤ a := by omega
          have v0 := V0.out
          have v1 := V1.out
          clear hb2
          go_wp2_with (first | (go_at_call 41; (with_reducible refine (HG.out wi).mono ?_); rintro e w1 ⟨rfl, hb⟩; have HB1 := Lib.hid (HBI.out.trans (hb.mono HBI.out.size)); clear hb) | (go_at_call 41; (with_reducible refine (HG.out w1).mono ?_); rintro e w2 ⟨rfl, hb⟩; have HB2 := Lib.hid (HB1.out.trans (hb.mono HB1.out.size)); clear hb))
          clear v0 v1
          exact ⟨⟨x + 1, b2, by omega, by go_num, rfl, hb2a, HX2.out, HB2.out⟩, by simp [intOf]; omega⟩
        · have hend : x = u ∨ b < E := by omega
          have HONE2 : Hid (gF (l + 1) u a = (x : Int) :: gF l (max u (x + 1)) b ∧ b < wy l (max u (x + 1))) := by
            have h1 := HX.out
            have := HONE.out x hx h1.2 (by rcases hend with h | h; exact .inl h; exact .inr (by rw [← h1.1]; exact h))
            rw [← h1.1] at this
            exact this
          have HBW : Hid (Below w.heap.size w wi) := HB.out.trans (HBI.out.mono HB.out.size)
          have HO2 : Hid (Ow wi w.heap.size 3 v cs) := HO.out.below HBI.out (Nat.le_refl _)
          have HLN : Hid (cs.length ≤ 1099511627776) := by rw [Hid, HC.out.1]; omega
          obtain ⟨mx, hmx⟩ : ∃ mx, mx = max u (x + 1) := ⟨_, rfl⟩
          rw [← hmx] at HONE2
          have HMX := Lib.hid hmx
          clear hmx hgo HX
          by_cases hxu : x < u
          · have hbE : b < E := by omega
            have d1 : decide ((x : Int) < (u : Int)) = true := decide_eq_true (by omega)
            have d1' : decide (x < u) = true := decide_eq_true hxu
            have d2 : decide ((b : Int) ≥ (E : Int)) = false := decide_eq_false (by omega)
            have d2' : decide ((E : Int) ≤ (b : Int)) = false := decide_eq_false (by omega)
            have d2'' : decide (E ≤ b) = false := decide_eq_false (by omega)
            have m1 : ¬ (u : Int) < (x : Int) + 1 := by omega
            have HMV : Hid (mx = u) := by rw [Hid, HMX.out]; exact Nat.max_eq_left (by omega)
            have v0 := V0.out
            clear hend
            go_wp2_with (first | (go_at_call 41; (with_reducible refine (HG.out wi).mono ?_); rintro e w1 ⟨rfl, hb⟩; have HB1 := Lib.hid (HBW.out.trans (hb.mono HBW.out.size)); have HO3 := Lib.hid (HO2.out.below hb (Nat.le_refl _)); clear hb) | (at_builtin; go_must (refine push_law w1 rfl (.tmp 37) (.tmp 39) 22 rfl w.heap.size 3 i0 Try.underlying22 HI0.out _ cs (x : Int) rfl rfl HO3.out HLN.out HB1.out.size ?_); intro v2 w2 hv2 hg2 _; have HV2 := Lib.hid hv2; have HB2 := Lib.hid (HB1.out.grown hg2 HB1.out.size (fun k e => (HO3.out.lt e).1)); clear hv2 hg2))
            clear v0
            exact ⟨⟨k + 1, mx, b, cs ++ [(x : Int)], v2, by omega, by have := HMV.out; omega, rfl, by go_num, by rw [HMV.out], rfl, ⟨by rw [List.length_append, HC.out.1]; rfl, by rw [HC.out.2, HONE2.out.1, HNK.out, List.append_assoc]; rfl, by rw [HNK.out]; exact HONE2.out.2⟩, HV2.out, HB2.out⟩, by simp [intOf]; omega⟩
          · have hxu2 : x = u := by omega
            subst hxu2
            have d1 : decide ((x : Int) < (x : Int)) = false := decide_eq_false (by omega)
            have d1' : decide (x < x) = false := decide_eq_false (by omega)
            have m1 : (x : Int) < (x : Int) + 1 := by omega
            have HMV : Hid (mx = x + 1) := by rw [Hid, HMX.out]; exact Nat.max_eq_right (by omega)
            clear hend
            go_wp2_with (at_builtin; go_must (refine push_law wi rfl (.tmp 37) (.tmp 39) 22 rfl w.heap.size 3 i0 Try.underlying22 HI0.out _ cs (x : Int) rfl rfl HO2.out HLN.out HBW.out.size ?_); intro v2 w2 hv2 hg2 _; have HV2 := Lib.hid hv2; have HB2 := Lib.hid (HBW.out.grown hg2 HBW.out.size (fun k e => (HO2.out.lt e).1)); clear hv2 hg2)
            exact ⟨⟨k + 1, mx, b, cs ++ [(x : Int)], v2, by omega, by have := HMV.out; omega, rfl, by go_num, by rw [HMV.out]; go_num, rfl, ⟨by rw [List.length_append, HC.out.1]; rfl, by rw [HC.out.2, HONE2.out.1, HNK.out, List.append_assoc]; rfl, by rw [HNK.out]; exact HONE2.out.2⟩, HV2.out, HB2.out⟩, by simp [intOf]; omega⟩
    · have hkn : k = n := by omega
      have HX : Hid (gF n 0 a0 = cs) := by
        have h1 := HK.out.2.1
        rw [hkn, Nat.sub_self, gF, List.append_nil] at h1
        exact h1
      have i1 : ¬ (k : Int) < (n : Int) := by omega
      clear hkn
      go_wp2
      go_ret
      exact ⟨⟨v, rfl, by rw [HX.out]; exact HO.out⟩, HB.out⟩
end Go.Proofs.Ytfeohcknopdamaa
