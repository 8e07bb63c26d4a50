import Derived.Test.YtkemcmeagnggeaaT32
import Derived.Deep.RegionHeldLaw
import Derived.Deep.Cut
/- Layer 3: slices.SortFunc of at most 12 words. -/
namespace Go.Proofs.Ytkemcmeagnggeaa
open Go.RowKit
set_option linter.unusedVariables false

abbrev atB (zs : List ByteArray) (k : Nat) : ByteArray := zs[k]?.getD ByteArray.empty
def swapS (zs : List ByteArray) (i j : Nat) : List ByteArray := (zs.set i (atB zs j)).set j (atB zs i)
def SoS (zs : List ByteArray) (i : Nat) : Prop := ∀ p q, p < q → q < i → lessL (bs (atB zs q)) (bs (atB zs p)) = false
def InS (zs : List ByteArray) (i j : Nat) : Prop := ∀ p q, p < q → q ≤ i → q ≠ j → lessL (bs (atB zs q)) (bs (atB zs p)) = false
theorem less_neg {x y z : List Int} (h : lessL z y = false) (k : lessL y x = false) : lessL z x = false := by
  cases e : lessL z x with
  | false => rfl
  | true =>
    cases e2 : lessL x y with
    | true => rw [lessL_trans e e2] at h; cases h
    | false => rw [lessL_total k e2, e] at h; cases h
theorem less_asym {x y : List Int} (h : lessL x y = true) : lessL y x = false := by
  cases e : lessL y x with
  | false => rfl
  | true => have := lessL_trans h e; rw [lessL_irr] at this; cases this
theorem InS.start {zs : List ByteArray} {i : Nat} (h : SoS zs i) : InS zs i i := fun p q hp hq hn => h p q hp (by omega)
theorem InS.stop0 {zs : List ByteArray} {i : Nat} (h : InS zs i 0) : SoS zs (i + 1) := fun p q hp hq => h p q hp (by omega) (by omega)
theorem InS.stop {zs : List ByteArray} {i m : Nat} (h : InS zs i (m + 1)) (hm : m + 1 ≤ i) (hl : lessL (bs (atB zs (m + 1))) (bs (atB zs m)) = false) : SoS zs (i + 1) := fun p q hp hq => by
  by_cases e : q = m + 1
  · subst e
    by_cases e2 : p = m
    · subst e2; exact hl
    · exact less_neg hl (h p m (by omega) (by omega) (by omega))
  · exact h p q hp (by omega) e
theorem swapS_at {zs : List ByteArray} {i j k : Nat} (hi : i < zs.length) (hj : j < zs.length) : atB (swapS zs i j) k = if k = j then atB zs i else if k = i then atB zs j else atB zs k := by
  unfold atB swapS
  by_cases h1 : k = j
  · subst h1; rw [if_pos rfl, List.getElem?_set_self (by rw [List.length_set]; exact hj)]; rfl
  · rw [if_neg h1, List.getElem?_set_ne (fun h => h1 h.symm)]
    by_cases h2 : k = i
    · subst h2; rw [if_pos rfl, List.getElem?_set_self hi]; rfl
    · rw [if_neg h2, List.getElem?_set_ne (fun h => h2 h.symm)]
theorem swapS_perm {zs : List ByteArray} {i j : Nat} (hi : i < zs.length) (hj : j < zs.length) : (swapS zs i j).Perm zs := by
  unfold swapS atB
  rw [List.getElem?_eq_getElem hi, List.getElem?_eq_getElem hj]
  exact List.set_set_perm hi hj
theorem InS.swap {zs : List ByteArray} {i m : Nat} (h : InS zs i (m + 1)) (hm : m + 1 ≤ i) (hi : i < zs.length) (hl : lessL (bs (atB zs (m + 1))) (bs (atB zs m)) = true) : InS (swapS zs (m + 1) m) i m := fun p q hp hq hn => by
  rw [swapS_at (by omega) (by omega), swapS_at (by omega) (by omega), if_neg hn]
  by_cases e : q = m + 1
  · rw [if_pos e]
    by_cases e2 : p = m
    · rw [if_pos e2]; exact less_asym hl
    · rw [if_neg e2, if_neg (by omega)]; exact h p m (by omega) (by omega) (by omega)
  · rw [if_neg e]
    split
    · exact h (m + 1) q (by omega) hq e
    · split
      · exact h m q (by omega) hq e
      · exact h p q hp hq e
theorem Ows.cellAt {w : World} {B e g n cap : Nat} {zs : List ByteArray} (h : Ows w B e (.slice (some ⟨g, 0, none⟩) n cap) zs) (hn : zs.length = n) {k : Nat} (hk : k < n) : w.cell? ⟨g, k, none⟩ = some (.string (atB zs k)) := by
  subst hn
  have h' : w.ownsRow B e 1 (.slice (some ⟨g, 0, none⟩) zs.length cap) zs.length (strs zs) := h
  rw [h'.cellAt k (by omega), List.getElem?_map, List.getElem?_eq_getElem hk, atB, List.getElem?_eq_getElem hk]
  rfl
theorem Ows.free {w : World} {B e g n cap : Nat} {zs : List ByteArray} (h : Ows w B e (.slice (some ⟨g, 0, none⟩) n cap) zs) (hn : zs.length = n) (k : Nat) : w.frozen? ⟨g, k, none⟩ = false := by
  subst hn
  have h' : w.ownsRow B e 1 (.slice (some ⟨g, 0, none⟩) zs.length cap) zs.length (strs zs) := h
  exact h'.frozenAt k
theorem Ows.put {w : World} {B e g n cap : Nat} {zs : List ByteArray} (h : Ows w B e (.slice (some ⟨g, 0, none⟩) n cap) zs) (hn : zs.length = n) (j : Nat) (x : ByteArray) :
    Ows (w.setCell ⟨g, j, none⟩ (.string x)) B e (.slice (some ⟨g, 0, none⟩) n cap) (zs.set j x) := by
  subst hn
  have h' : w.ownsRow B e 1 (.slice (some ⟨g, 0, none⟩) zs.length cap) zs.length (strs zs) := h
  have := (h'.stored j (.string x)).1
  unfold Ows strs
  rw [List.length_set, List.map_set]
  exact this
set_option maxRecDepth 100000 in
set_option maxHeartbeats 1600000 in
theorem insSort_any (B g n cap : Nat) (zs : List ByteArray) (w : World) (ho : Ows w B 9 (.slice (some ⟨g, 0, none⟩) n cap) zs) (hl : zs.length = n) (hg : B ≤ g) (hB : B ≤ w.heap.size) (hgs : g < w.heap.size) (hn : n ≤ 12) (hz : ∀ z ∈ zs, z.size ≤ 1000000) :
    Calls Try.prog 81 #[.slice (some ⟨g, 0, none⟩) n cap, .int .i64 0, .int .i64 n, .func (.func 65) #[] #[]] w fun e w' =>
      e = .returned (.tuple #[]) ∧ ∃ zs', zs'.Perm zs ∧ SoS zs' n ∧ Ows w' B 9 (.slice (some ⟨g, 0, none⟩) n cap) zs' ∧ Below B w w' := by
  have HO := Lib.hid ho
  have HL := Lib.hid hl
  have HZ := Lib.hid hz
  have HG := Lib.hid hg
  clear ho hl hz hg
  go_enter Try.func81, Try.ntmps81
  go_wp2
  go_loopw [8, 9] (fun vi _ w' => ∃ (i : Nat) (ys : List ByteArray), i ≤ n + 1 ∧ 1 ≤ i ∧ vi = .int .i64 (i : Int) ∧ Hid (ys.Perm zs) ∧ Hid (SoS ys i) ∧ Hid (Ows w' B 9 (.slice (some ⟨g, 0, none⟩) n cap) ys) ∧ Below B w w') (fun vi _ _ => n + 1 - (intOf vi).toNat)
  case atStart => exact ⟨1, zs, by omega, by omega, by go_num, List.Perm.refl _, (fun p q h1 h2 => absurd h2 (by omega)), HO.out, Below.refl _ _⟩
  case round =>
    obtain ⟨i, ys, hi, hi1, rfl, HP, HS, HY, hW⟩ := hrel
    obtain ⟨wo, rfl⟩ : ∃ wo : World, wo = wr := ⟨_, rfl⟩
    by_cases hlt : i < n
    · go_wp2
      have HST := Lib.hid (InS.start HS.out)
      clear HS
      go_loopw [9] (fun vj w' => ∃ (j : Nat) (xs : List ByteArray), j ≤ i ∧ vj = .int .i64 (j : Int) ∧ Hid (xs.Perm zs) ∧ Hid (InS xs i j) ∧ Hid (Ows w' B 9 (.slice (some ⟨g, 0, none⟩) n cap) xs) ∧ Below B w w') (fun vj _ => (intOf vj).toNat)
      case atStart => exact ⟨i, ys, by omega, by go_num, HP.out, HST.out, HY.out, hW⟩
      case round =>
        obtain ⟨j, xs, hj, rfl, HQ, HI, HX, hV⟩ := hrel
        obtain ⟨wi, rfl⟩ : ∃ wo : World, wo = wr := ⟨_, rfl⟩
        rcases Nat.eq_zero_or_pos j with rfl | hjp
        · have HSS := Lib.hid (InS.stop0 HI.out)
          clear HI
          go_wp2
          go_quiet (fail)
          go_wp2
          exact ⟨⟨i + 1, xs, by omega, by omega, by go_num, HQ.out, HSS.out, HX.out, below_dn hV _⟩, by simp [intOf] <;> omega⟩
        · obtain ⟨m, rfl⟩ : ∃ m, j = m + 1 := ⟨j - 1, by omega⟩
          have HXL : Hid (xs.length = n) := by rw [Hid, HQ.out.length_eq, HL.out]
          have HSZ : Hid (∀ k, k < n → (atB xs k).size ≤ 1000000) := fun k hk => by
            unfold atB
            rw [List.getElem?_eq_getElem (by rw [HXL.out]; exact hk)]
            exact HZ.out _ (HQ.out.mem_iff.1 (List.getElem_mem _))
          have HCM := Lib.hid (fun W => compareWords_any (atB xs (m + 1)) (atB xs m) W (HSZ.out _ (by omega)) (HSZ.out _ (by omega)))
          have hcl := cmpW_lt (atB xs (m + 1)) (atB xs m)
          have hrg := cmpW_rng (atB xs (m + 1)) (atB xs m)
          have h1 := HX.out.cellAt HXL.out (k := m + 1) (by omega)
          have h0 := HX.out.cellAt HXL.out (k := m) (by omega)
          have HSTOP : Hid (lessL (bs (atB xs (m + 1))) (bs (atB xs m)) = false → SoS xs (i + 1)) := fun h => HI.out.stop (by omega) h
          have HSWAP : Hid (lessL (bs (atB xs (m + 1))) (bs (atB xs m)) = true → InS (swapS xs (m + 1) m) i m) := fun h => HI.out.swap (by omega) (by rw [HXL.out]; exact hlt) h
          have HPS : Hid ((swapS xs (m + 1) m).Perm zs) := (swapS_perm (by rw [HXL.out]; omega) (by rw [HXL.out]; omega)).trans HQ.out
          have HDEF : Hid (swapS xs (m + 1) m = (xs.set (m + 1) (atB xs m)).set m (atB xs (m + 1))) := rfl
          rw [← hcl] at HSTOP HSWAP
          generalize atB xs (m + 1) = x at HCM h1 hrg HDEF HSTOP HSWAP
          generalize atB xs m = y at HCM h0 hrg HDEF HSTOP HSWAP
          generalize cmpW x y = cv at HCM hrg HSTOP HSWAP
          have HC2 : Hid (∀ W, Below wi.heap.size wi W → W.cell? ⟨g, m + 1, none⟩ = some (.string x) ∧ W.cell? ⟨g, m, none⟩ = some (.string y)) := fun W hb => ⟨(hb.cell (p := ⟨g, m + 1, none⟩) (Nat.lt_of_lt_of_le hgs hV.size)).trans h1, (hb.cell (p := ⟨g, m, none⟩) (Nat.lt_of_lt_of_le hgs hV.size)).trans h0⟩
          have HK0 : Hid (Below wi.heap.size wi wi.drew) := (Below.refl _ _).drew
          clear hcl HI HSZ
          by_cases hlb : cv < 0
          · have HR := Lib.hid (HSWAP.out (decide_eq_true hlb))
            have g3 : decide (cv < 0) = true := decide_eq_true hlb
            clear HSTOP HSWAP
            go_wp2
            have f1 : IntKind.i64.wrap ((m : Int) + 1 - 1) = (m : Int) := by rw [show (m : Int) + 1 - 1 = (m : Int) from by omega]; exact IntWalk.i64_in _ (by omega)
            have f2 : ((m : Int) + 1).toNat = m + 1 := by omega
            have f3 : (0 : Int) ≤ (m : Int) + 1 := by omega
            have f4 : (m : Int) + 1 < (n : Int) := by omega
            have f5 : (m : Int) < (n : Int) := by omega
            have f7 : (m : Int) + 1 - 1 = (m : Int) := by omega
            have f8 : IntKind.i64.wrap (m : Int) = (m : Int) := IntWalk.i64_in _ (by omega)
            have f9 : (0 : Int) ≤ (m : Int) := by omega
            have f10 : ((m : Int)).toNat = m := by omega
            have f11 : wrap64 ((m : Int) + 1 - 1) = (m : Int) := by rw [f7]; exact IntWalk.wrap64_in _ ⟨by omega, by omega⟩
            have f12 : m < n := by omega
            have f6 : decide ((0 : Int) < (m : Int) + 1) = true := by rw [decide_eq_true_iff]; omega
            go_region_held_law (fun W => W.cell? ⟨g, m + 1, none⟩ = some (.string x) ∧ W.cell? ⟨g, m, none⟩ = some (.string y))
              (first | assumption | exact HC2.out _ HK0.out | exact HC2.out _ HK1.out)
              ((go_at_call 65; (with_reducible refine (HCM.out _).mono ?_); rintro e w2 ⟨rfl, hb2⟩; have HK1 : Hid (Below wi.heap.size wi w2) := (HK0.out.trans (hb2.mono HK0.out.size)); clear hb2))
            have HX2 : Hid (Ows w2 B 9 (.slice (some ⟨g, 0, none⟩) n cap) xs) := HX.out.below HK1.out (Nat.le_refl _)
            have HV2 : Hid (Below B w w2) := hV.trans (HK1.out.mono (Nat.le_trans hB hV.size))
            obtain ⟨e1, e0⟩ := HC2.out _ HK1.out
            have r1 := HX2.out.free HXL.out (m + 1)
            have r0 := HX2.out.free HXL.out m
            clear HCM HC2 HK0 HK1 h1 h0
            go_wp2
            go_region
            have HX3 : Hid (Ows ((w2.setCell ⟨g, m + 1, none⟩ (.string y)).setCell ⟨g, m, none⟩ (.string x)).drew B 9 (.slice (some ⟨g, 0, none⟩) n cap) (swapS xs (m + 1) m)) := by
              rw [Hid, HDEF.out]
              exact (HX2.out.put HXL.out (m + 1) y).put (by rw [List.length_set]; exact HXL.out) m x
            have HV3 : Hid (Below B w ((w2.setCell ⟨g, m + 1, none⟩ (.string y)).setCell ⟨g, m, none⟩ (.string x)).drew) := ((HV2.out.setCell (p := ⟨g, m + 1, none⟩) HG.out _).setCell (p := ⟨g, m, none⟩) HG.out _).drew
            clear f1 f2 f3 f4 f5 f6 f7 f8 f9 f10 f11 f12 e1 e0 r1 r0
            generalize ((w2.setCell ⟨g, m + 1, none⟩ (.string y)).setCell ⟨g, m, none⟩ (.string x)).drew = w3 at HX3 HV3 ⊢
            have f1 : IntKind.i64.wrap ((m : Int) + 1 - 1) = (m : Int) := by rw [show (m : Int) + 1 - 1 = (m : Int) from by omega]; exact IntWalk.i64_in _ (by omega)
            go_wp2
            clear f1
            exact ⟨⟨m, swapS xs (m + 1) m, by omega, by go_num, HPS.out, HR.out, HX3.out, HV3.out⟩, by simp [intOf] <;> omega⟩
          · have HR := Lib.hid (HSTOP.out (decide_eq_false hlb))
            have g3 : decide (cv < 0) = false := decide_eq_false hlb
            clear HSTOP HSWAP
            go_wp2
            have f1 : IntKind.i64.wrap ((m : Int) + 1 - 1) = (m : Int) := by rw [show (m : Int) + 1 - 1 = (m : Int) from by omega]; exact IntWalk.i64_in _ (by omega)
            have f2 : ((m : Int) + 1).toNat = m + 1 := by omega
            have f3 : (0 : Int) ≤ (m : Int) + 1 := by omega
            have f4 : (m : Int) + 1 < (n : Int) := by omega
            have f5 : (m : Int) < (n : Int) := by omega
            have f7 : (m : Int) + 1 - 1 = (m : Int) := by omega
            have f8 : IntKind.i64.wrap (m : Int) = (m : Int) := IntWalk.i64_in _ (by omega)
            have f9 : (0 : Int) ≤ (m : Int) := by omega
            have f10 : ((m : Int)).toNat = m := by omega
            have f11 : wrap64 ((m : Int) + 1 - 1) = (m : Int) := by rw [f7]; exact IntWalk.wrap64_in _ ⟨by omega, by omega⟩
            have f12 : m < n := by omega
            have f6 : decide ((0 : Int) < (m : Int) + 1) = true := by rw [decide_eq_true_iff]; omega
            go_region_held_law (fun W => W.cell? ⟨g, m + 1, none⟩ = some (.string x) ∧ W.cell? ⟨g, m, none⟩ = some (.string y))
              (first | assumption | exact HC2.out _ HK0.out | exact HC2.out _ HK1.out)
              ((go_at_call 65; (with_reducible refine (HCM.out _).mono ?_); rintro e w2 ⟨rfl, hb2⟩; have HK1 : Hid (Below wi.heap.size wi w2) := (HK0.out.trans (hb2.mono HK0.out.size)); clear hb2))
            have HX2 : Hid (Ows w2 B 9 (.slice (some ⟨g, 0, none⟩) n cap) xs) := HX.out.below HK1.out (Nat.le_refl _)
            have HV2 : Hid (Below B w w2) := hV.trans (HK1.out.mono (Nat.le_trans hB hV.size))
            obtain ⟨e1, e0⟩ := HC2.out _ HK1.out
            clear f1 f2 f3 f4 f5 f6 f7 f8 f9 f10 f11 f12 HCM HC2 HK0 HK1 h1 h0 e1 e0
            go_wp2
            exact ⟨⟨i + 1, xs, by omega, by omega, by go_num, HQ.out, HR.out, HX2.out, HV2.out⟩, by simp [intOf] <;> omega⟩
    · have HSN : Hid (SoS ys n) := fun p q h1 h2 => HS.out p q h1 (by omega)
      go_wp2
      go_end0
      exact ⟨rfl, ys, HP.out, HSN.out, HY.out, hW⟩
end Go.Proofs.Ytkemcmeagnggeaa
