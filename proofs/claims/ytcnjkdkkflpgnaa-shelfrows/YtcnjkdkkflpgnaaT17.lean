import Derived.Test.YtcnjkdkkflpgnaaT16
/- Layer 8: follow. -/
namespace Go.Proofs.Ytcnjkdkkflpgnaa
open Go.RowKit
set_option linter.unusedVariables false

/-- A cost that was lowered is the cost of a neighbour and one more, at least. -/
def WitL (R : List (List Int)) (mm : Nat) (cs cur : List Int) : Prop := ∀ k, k < cs.length → atI cur k = atI cs k ∨ (atI cur k < atI cs k ∧ ∃ p, p < mm ∧ atI cur (atI (ordAt R k) p).toNat + 1 ≤ atI cur k)
theorem WitL.start (R : List (List Int)) (mm : Nat) (cs : List Int) : WitL R mm cs cs := fun _ _ => .inl rfl
theorem lowJ_wit {R : List (List Int)} {mm k : Nat} {cs cur : List Int} (hl : cur.length = cs.length) (hk : k < cs.length) (h : WitL R mm cs cur) : ∀ t, t ≤ mm → WitL R mm cs (lowJ R k cur t)
  | 0, _ => h
  | t + 1, ht => by
    have ih := lowJ_wit hl hk h t (by omega)
    unfold lowJ
    split
    · rename_i hlt
      have hkl : k < (lowJ R k cur t).length := by rw [lowJ_len]; omega
      obtain ⟨q, hq⟩ : ∃ q, q = (atI (ordAt R k) t).toNat := ⟨_, rfl⟩
      rw [← hq] at hlt ⊢
      have hqk : q ≠ k := fun e => by rw [e] at hlt; omega
      intro j hj
      rw [atI_set hkl]
      by_cases e : j = k
      · subst e
        rw [if_pos rfl]
        refine .inr ⟨?_, t, by omega, ?_⟩
        · rcases ih j hj with e1 | ⟨e1, _⟩
          · rw [← e1]; exact hlt
          · omega
        · rw [← hq, atI_set hkl, if_neg hqk]
          omega
      · rw [if_neg e]
        rcases ih j hj with e1 | ⟨e1, p, hp, h2⟩
        · exact .inl e1
        · refine .inr ⟨e1, p, hp, ?_⟩
          rw [atI_set hkl]
          split
          · rename_i e3
            rw [e3] at h2
            omega
          · exact h2
    · exact ih
theorem lowK_wit {R : List (List Int)} {mm : Nat} {cs cur : List Int} (hl : cur.length = cs.length) (h : WitL R mm cs cur) : ∀ k, k ≤ cs.length → WitL R mm cs (lowK R mm cur k)
  | 0, _ => h
  | k + 1, hk => lowJ_wit ((lowK_len k).trans hl) (by omega) (lowK_wit hl h k (by omega)) mm (Nat.le_refl _)
theorem lowGo_wit {R : List (List Int)} {mm : Nat} {cs : List Int} : ∀ {f : Nat} {cur : List Int}, cur.length = cs.length → WitL R mm cs cur → WitL R mm cs (lowGo R mm cs.length f cur)
  | 0, _, _, h => h
  | f + 1, cur, hl, h => by
    unfold lowGo
    split
    · exact h
    · exact lowGo_wit ((lowK_len _).trans hl) (lowK_wit hl h _ (Nat.le_refl _))
theorem lowF_wit (R : List (List Int)) (mm : Nat) (cs : List Int) : WitL R mm cs (lowF R mm cs) := lowGo_wit rfl (WitL.start R mm cs)
theorem chN_le (zs row : List Int) (k : Nat) : ∀ t, atI zs (chN zs row k t) ≤ atI zs k ∧ ∀ p, p < t → atI zs (chN zs row k t) ≤ atI zs (atI row p).toNat
  | 0 => ⟨Int.le_refl _, fun p hp => absurd hp (Nat.not_lt_zero _)⟩
  | t + 1 => by
    obtain ⟨h1, h2⟩ := chN_le zs row k t
    unfold chN
    split
    · rename_i h
      refine ⟨by omega, fun p hp => ?_⟩
      by_cases e : p = t
      · subst e; exact Int.le_refl _
      · have := h2 p (by omega); omega
    · rename_i h
      refine ⟨h1, fun p hp => ?_⟩
      by_cases e : p = t
      · subst e; omega
      · exact h2 p (by omega)
/-- As long as it is too dear to serve here, the cheapest neighbour is cheaper. -/
theorem rj_less {L R : List (List Int)} {mm : Nat} {zs : List Int} {j k : Nat} (hk : k < L.length) (h : atI (rjF L R mm zs (j + 1)) k < srvV L R (rjF L R mm zs j) k (atI zs (zs.length - 1 - j)).toNat) :
    atI (rjF L R mm zs (j + 1)) (chN (rjF L R mm zs (j + 1)) (ordAt R k) k mm) < atI (rjF L R mm zs (j + 1)) k := by
  have hw := lowF_wit R mm ((List.range L.length).map fun k => srvV L R (rjF L R mm zs j) k (atI zs (zs.length - 1 - j)).toNat) k (by simpa using hk)
  rw [show lowF R mm ((List.range L.length).map fun k => srvV L R (rjF L R mm zs j) k (atI zs (zs.length - 1 - j)).toNat) = rjF L R mm zs (j + 1) from rfl, atI_map, if_pos hk] at hw
  rcases hw with e | ⟨_, p, hp, h2⟩
  · omega
  · have := (chN_le (rjF L R mm zs (j + 1)) (ordAt R k) k mm).2 p hp
    omega
/-- From here on, by paid exchanges, to where the roll is served. -/
def flW (L R : List (List Int)) (mm : Nat) (ci c1 : List Int) (r : Nat) : Nat → Nat → Nat
  | 0, x => x
  | f + 1, x => if atI ci x < srvV L R c1 x r then flW L R mm ci c1 r f (chN ci (ordAt R x) x mm) else x
theorem flW_lt {m : Nat} {L R : List (List Int)} (h : LaidR m L R) (ci c1 : List Int) (r : Nat) : ∀ f x, x < L.length → flW L R (m - 1) ci c1 r f x < L.length
  | 0, _, hx => hx
  | f + 1, x, hx => by
    unfold flW
    split
    · exact flW_lt h ci c1 r f _ (chN_lt hx (h.row x hx).2 (m - 1) (Nat.le_refl _))
    · exact hx
/-- Where the row is served at request i, and where it is before. -/
def flS (L R : List (List Int)) (mm : Nat) (zs : List Int) (i x : Nat) : Nat :=
  flW L R mm (rjF L R mm zs (zs.length - i)) (rjF L R mm zs (zs.length - (i + 1))) (atI zs i).toNat ((atI (rjF L R mm zs (zs.length - i)) x).toNat + 1) x
def flA (L R : List (List Int)) (mm : Nat) (zs : List Int) : Nat → Nat
  | 0 => 0
  | i + 1 => fwdF L R (rjF L R mm zs (zs.length - (i + 1))) (flS L R mm zs i (flA L R mm zs i)) (atI zs i).toNat
def flL (L R : List (List Int)) (mm : Nat) (zs : List Int) (i : Nat) : List Int := (List.range i).map fun k => (flS L R mm zs k (flA L R mm zs k) : Int)
theorem flL_succ (L R : List (List Int)) (mm : Nat) (zs : List Int) (i : Nat) : flL L R mm zs (i + 1) = flL L R mm zs i ++ [(flS L R mm zs i (flA L R mm zs i) : Int)] := by unfold flL; rw [List.range_succ, List.map_append]; rfl
theorem flL_len (L R : List (List Int)) (mm : Nat) (zs : List Int) (i : Nat) : (flL L R mm zs i).length = i := by simp [flL]
theorem flA_lt {m : Nat} {L R : List (List Int)} (h : LaidR m L R) {zs : List Int} (hz : ∀ i, i < zs.length → ∃ r : Nat, atI zs i = (r : Int) ∧ r < m) : ∀ i, i ≤ zs.length → flA L R (m - 1) zs i < L.length
  | 0, _ => h.pos
  | i + 1, hi => by
    obtain ⟨r, e, hr⟩ := hz i (by omega)
    unfold flA
    rw [e, Int.toNat_natCast]
    exact fwdF_lt h _ (flW_lt h _ _ _ _ _ (flA_lt h hz i (by omega))) hr
/-- The rows of rest, as they are read. -/
def RsR (V : World) (pr n nn : Nat) (F : Nat → List Int) : Prop :=
  ∀ i, i ≤ n → ∃ g, V.cell? ⟨pr, i, none⟩ = some (.slice (some ⟨g, 0, none⟩) nn nn) ∧ Sl V (some ⟨g, 0, none⟩) nn nn (F (n - i))
theorem RsA.read {w V : World} {pr n nn : Nat} {F : Nat → List Int} (h : RsA w V pr n nn F n) (hn : nn ≤ 1000000) (hF : ∀ j, (F j).length = nn) : RsR V pr n nn F := fun i hi => by
  obtain ⟨cs, h1, h2, h3⟩ := h
  obtain ⟨g, hg, ho⟩ := h3 i (by omega) hi
  obtain ⟨A5, c5, e5, hsl⟩ := ho.sl_len (hF _) (by omega)
  injection e5 with e5 _ e6
  subst e5 e6
  exact ⟨g, cell_in h1 hg, hsl⟩
theorem RsR.below {V V' : World} {pr n nn : Nat} {F : Nat → List Int} (h : RsR V pr n nn F) (hb : Below V.heap.size V V') : RsR V' pr n nn F := fun i hi => by
  obtain ⟨g, h1, h2⟩ := h i hi
  exact ⟨g, (hb.cell (p := ⟨pr, i, none⟩) (cell_lt h1)).trans h1, h2.below hb (Nat.le_refl _)⟩
end Go.Proofs.Ytcnjkdkkflpgnaa
/- Layer 8: follow, its walk. -/
namespace Go.Proofs.Ytcnjkdkkflpgnaa
open Go.RowKit
set_option linter.unusedVariables false

set_option maxRecDepth 100000 in
set_option maxHeartbeats 6400000 in
theorem follow_any (m : Nat) (L R : List (List Int)) (zs : List Int) (A : Option Addr) (n c rb pr : Nat) (w : World) (hL : LaidR m L R) (h : RowR w rb L R) (hs : Sl w A n c zs) (hn : n ≤ 60) (hz : ∀ i, i < n → ∃ r : Nat, atI zs i = (r : Int) ∧ r < m)
    (hr : RsR w pr n L.length (rjF L R (m - 1) zs)) :
    Calls Try.prog 63 #[.pointer (some ⟨rb, 0, none⟩), .slice A n c, .slice (some ⟨pr, 0, none⟩) (n + 1) (n + 1)] w fun e w' => (∃ v, e = .returned v ∧ Ow w' w.heap.size 3 v (flL L R (m - 1) zs n)) ∧ Below w.heap.size w w' := by
  obtain ⟨i0, hi, hz0, hz1, hz2⟩ := info_parts Try.infoInt
  have HI : Hid (Try.prog.info? 3 = some i0 ∧ i0.zero = some (.int .i64 0) ∧ i0.size = 1 ∧ i0.bytes = 8) := ⟨hi, hz0, hz1, hz2⟩
  clear hi hz0 hz1 hz2
  have HL : Hid (zs.length = n) := hs.len
  have hlb : L.length ≤ 1000000 := by
    obtain ⟨A1, n1, c1, _, h1⟩ := h.o
    have := h1.len
    have := h1.big
    omega
  have HSL := Lib.hid (fun V (hV : Below w.heap.size w V) => hs.below hV (Nat.le_refl _))
  have HRW := Lib.hid (fun V (hV : Below w.heap.size w V) => h.below hV)
  have HRR := Lib.hid (fun V (hV : Below w.heap.size w V) => hr.below hV)
  have HLA := Lib.hid hL
  have HZ := Lib.hid hz
  have hzL : ∀ i, i < zs.length → ∃ r : Nat, atI zs i = (r : Int) ∧ r < m := fun i hi => hz i (by rw [HL.out] at hi; exact hi)
  have HFS : Hid (∀ j, j ≤ n → smallZ (rjF L R (m - 1) zs j) 1000) := fun j hj i => by
    have := rjF_small hL hzL j (by rw [HL.out]; exact hj) i
    omega
  have HFA : Hid (∀ i, i ≤ n → flA L R (m - 1) zs i < L.length) := fun i hi => flA_lt hL hzL i (by rw [HL.out]; exact hi)
  have HLS : Hid (∀ j k, k < L.length → atI (rjF L R (m - 1) zs (j + 1)) k < srvV L R (rjF L R (m - 1) zs j) k (atI zs (zs.length - 1 - j)).toNat → atI (rjF L R (m - 1) zs (j + 1)) (chN (rjF L R (m - 1) zs (j + 1)) (ordAt R k) k (m - 1)) < atI (rjF L R (m - 1) zs (j + 1)) k) := fun j k hk hh => rj_less hk hh
  clear hL h hs hz hr hzL
  have hpl := HLA.out.pos
  obtain ⟨nn, hnn⟩ : ∃ nn, nn = L.length := ⟨_, rfl⟩
  rw [← hnn] at HRR HFA hpl hlb HLS
  have HNN := Lib.hid hnn
  clear hnn
  go_enter Try.func63, Try.ntmps63
  go_wp2
  go_loopw [7, 8, 13] (fun v a x w' => ∃ i : Nat, i ≤ n ∧ x = .int .i64 (i : Int) ∧ a = .int .i64 (flA L R (m - 1) zs i : Int) ∧ Hid (Ow w' w.heap.size 3 v (flL L R (m - 1) zs i)) ∧ Hid (Below w.heap.size w w')) (fun _ _ x _ => n - (intOf x).toNat)
  case atStart => exact ⟨0, Nat.zero_le _, by go_num, rfl, Ow.nil _ _ _, Below.refl _ _⟩
  case round =>
    obtain ⟨i, hi, rfl, rfl, HO, HB⟩ := hrel
    obtain ⟨wo, rfl⟩ : ∃ wo : World, wo = wr := ⟨_, rfl⟩
    by_cases hlt : i < n
    · have i1 : (i : Int) < (n : Int) := by omega
      obtain ⟨b1, o1, rfl, hc1⟩ := (HSL.out wo HB.out).at_ hlt
      obtain ⟨r, hr, hrm⟩ := HZ.out i hlt
      rw [show zs[i]?.getD 0 = atI zs i from rfl, hr] at hc1
      have hx0 := HFA.out i hi
      have HFT : Hid (flA L R (m - 1) zs (i + 1) = fwdF L R (rjF L R (m - 1) zs (n - (i + 1))) (flS L R (m - 1) zs i (flA L R (m - 1) zs i)) r) := by
        show fwdF L R (rjF L R (m - 1) zs (zs.length - (i + 1))) _ (atI zs i).toNat = _
        rw [hr, Int.toNat_natCast, HL.out]
      have HFV : Hid (flS L R (m - 1) zs i (flA L R (m - 1) zs i) = flW L R (m - 1) (rjF L R (m - 1) zs (n - i)) (rjF L R (m - 1) zs (n - (i + 1))) r ((atI (rjF L R (m - 1) zs (n - i)) (flA L R (m - 1) zs i)).toNat + 1) (flA L R (m - 1) zs i)) := by
        show flW L R (m - 1) (rjF L R (m - 1) zs (zs.length - i)) (rjF L R (m - 1) zs (zs.length - (i + 1))) (atI zs i).toNat _ _ = _
        rw [hr, Int.toNat_natCast, HL.out]
      have HFL := Lib.hid (flL_succ L R (m - 1) zs i)
      have HLN : Hid ((flL L R (m - 1) zs i).length ≤ 1099511627776) := by rw [Hid, flL_len]; omega
      have HLE : Hid (∀ k, k < nn → atI (rjF L R (m - 1) zs (n - i)) k < srvV L R (rjF L R (m - 1) zs (n - (i + 1))) k r → atI (rjF L R (m - 1) zs (n - i)) (chN (rjF L R (m - 1) zs (n - i)) (ordAt R k) k (m - 1)) < atI (rjF L R (m - 1) zs (n - i)) k) := fun k hk hh => by
        have := HLS.out (n - (i + 1)) k hk
        rw [show zs.length - 1 - (n - (i + 1)) = i by have := HL.out; omega, hr, Int.toNat_natCast, show n - (i + 1) + 1 = n - i by omega] at this
        exact this hh
      have HC0 := Lib.hid (HFS.out (n - i) (by omega))
      have HC1 := Lib.hid (HFS.out (n - (i + 1)) (by omega))
      have HRM := Lib.hid hrm
      have HIN := Lib.hid hlt
      obtain ⟨g0, hg0, hs0⟩ := HRR.out w (Below.refl _ w) i hi
      obtain ⟨g1, hg1, hs1⟩ := HRR.out w (Below.refl _ w) (i + 1) (by omega)
      have HG : Hid (∀ V, Below w.heap.size w V → V.cell? ⟨pr, i, none⟩ = some (.slice (some ⟨g0, 0, none⟩) nn nn) ∧ V.cell? ⟨pr, i + 1, none⟩ = some (.slice (some ⟨g1, 0, none⟩) nn nn) ∧ Sl V (some ⟨g0, 0, none⟩) nn nn (rjF L R (m - 1) zs (n - i)) ∧ Sl V (some ⟨g1, 0, none⟩) nn nn (rjF L R (m - 1) zs (n - (i + 1)))) := fun V hV =>
        ⟨(hV.cell (p := ⟨pr, i, none⟩) (cell_lt hg0)).trans hg0, (hV.cell (p := ⟨pr, i + 1, none⟩) (cell_lt hg1)).trans hg1, hs0.below hV (Nat.le_refl _), hs1.below hV (Nat.le_refl _)⟩
      clear hr HLS HFS hg0 hs0 hg1 hs1 HRR
      generalize flA L R (m - 1) zs i = x0 at *
      generalize rjF L R (m - 1) zs (n - i) = ci at *
      generalize rjF L R (m - 1) zs (n - (i + 1)) = c1 at *
      obtain ⟨xs, hxs⟩ : ∃ x, x = flS L R (m - 1) zs i x0 := ⟨_, rfl⟩
      rw [← hxs] at HFL HFT HFV
      clear hxs
      generalize flL L R (m - 1) zs i = Ls at *
      have i2 : (i : Int) < (n : Int) + 1 := by omega
      have i3 : (i : Int) + 1 < (n : Int) + 1 := by omega
      have i4 : (0 : Int) ≤ (i : Int) + 1 := by omega
      have i5 : ((i : Int) + 1).toNat = i + 1 := by omega
      have v1 : IntKind.i64.wrap ((i : Int) + 1) = (i : Int) + 1 := IntWalk.i64_in _ (by omega)
      go_wp2
      clear hc1
      go_loopw [8] (fun a w' => ∃ x f : Nat, a = .int .i64 (x : Int) ∧ x < nn ∧ Hid (xs = flW L R (m - 1) ci c1 r f x) ∧ (atI ci x).toNat < f ∧ Hid (Ow w' w.heap.size 3 u7 Ls) ∧ Hid (Below w.heap.size w w')) (fun a _ => (atI ci (intOf a).toNat).toNat)
      case atStart => exact ⟨x0, _, rfl, hx0, HFV.out, Nat.lt_succ_self _, HO.out, HB.out⟩
      case round =>
        obtain ⟨x, f, rfl, hx, HX, hf, HO2, HB2⟩ := hrel
        obtain ⟨wi, rfl⟩ : ∃ wi : World, wi = wr := ⟨_, rfl⟩
        clear HO HB
        have HD := Lib.hid (HB2.out.drew)
        have HOD := Lib.hid (HO2.out.drewN 1)
        have HSE := Lib.hid (served_any m L R c1 (some ⟨g1, 0, none⟩) nn nn x r rb wi.drew HLA.out (HRW.out _ HD.out) (HG.out _ HD.out).2.2.2 HNN.out hx HRM.out (fun q => by have := HC1.out q; omega))
        have HS6 : Hid (∀ V, Below w.heap.size w V → V.cell? ⟨pr, i, none⟩ = some (.slice (some ⟨g0, 0, none⟩) nn nn) ∧ V.cell? ⟨pr, i + 1, none⟩ = some (.slice (some ⟨g1, 0, none⟩) nn nn) ∧ V.cell? ⟨g0, x, none⟩ = some (.int .i64 (atI ci x))) := fun V hV => by
          obtain ⟨h1, h2, h3, _⟩ := HG.out V hV
          obtain ⟨b5, o5, e5, hc5⟩ := h3.at_ hx
          have e5 := Option.some.inj e5
          injection e5 with e5 e6 _
          rw [← e5, ← e6, Nat.zero_add] at hc5
          exact ⟨h1, h2, hc5⟩
        have i6 : (x : Int) < (nn : Int) := by omega
        have HSV : Hid (srvV L R c1 x r = srvV L R c1 x r) := rfl
        obtain ⟨sv, hsv⟩ : ∃ s, s = srvV L R c1 x r := ⟨_, rfl⟩
        rw [← hsv] at HSE
        have HSX := Lib.hid hsv
        clear HSV
        have HCE := Lib.hid (fun V (hV : Below w.heap.size w V) => cheapest_any m L R ci (some ⟨g0, 0, none⟩) nn nn x rb V HLA.out (HRW.out _ hV) (HG.out _ hV).2.2.1 HNN.out hx)
        have HXC : Hid (sv > atI ci x → atI ci (chN ci (ordAt R x) x (m - 1)) < atI ci x) := fun hh => HLE.out x hx (by rw [← HSX.out]; exact hh)
        have HZC := HC0.out x
        obtain ⟨cx, hcx⟩ : ∃ z, z = atI ci x := ⟨_, rfl⟩
        rw [← hcx] at HS6 HXC HZC
        have HCX := Lib.hid hcx
        clear hsv hcx
        by_cases hgt : sv > cx
        · go_wp2
          go_region_held_law (fun V => V.cell? ⟨pr, i, none⟩ = some (.slice (some ⟨g0, 0, none⟩) nn nn) ∧ V.cell? ⟨pr, i + 1, none⟩ = some (.slice (some ⟨g1, 0, none⟩) nn nn) ∧ V.cell? ⟨g0, x, none⟩ = some (.int .i64 cx)) (first | assumption | exact HS6.out _ HD.out | exact HS6.out _ HE1.out)
            (first | (go_at_call 79; refine HSE.out.mono ?_; rintro e w1 ⟨rfl, hb⟩; have HE1 := Lib.hid (HD.out.trans (hb.mono HD.out.size)); have HO3 := Lib.hid (HOD.out.below hb (Nat.le_refl _)); clear hb))
          all_goals
            have hc6 := (HS6.out _ HE1.out).1
            obtain ⟨y, hy⟩ : ∃ y, y = chN ci (ordAt R x) x (m - 1) := ⟨_, rfl⟩
            have hyn : y < nn := by
              have := chN_lt (zs := ci) (k := x) (n := L.length) (j := m - 1) (by have := HNN.out; omega) (HLA.out.row x (by have := HNN.out; omega)).2 (m - 1) (Nat.le_refl _)
              have := HNN.out
              omega
            have HYL : Hid (atI ci y < cx) := by rw [Hid, hy]; exact HXC.out hgt
            obtain ⟨f', hf'⟩ : ∃ f', f = f' + 1 := ⟨f - 1, by omega⟩
            have HXY : Hid (xs = flW L R (m - 1) ci c1 r f' y) := by
              have h1 := HX.out
              rw [hf'] at h1
              unfold flW at h1
              rw [← HCX.out, ← HSX.out, if_pos (by omega), ← hy] at h1
              exact h1
            have HFF : Hid (f = f' + 1 ∧ (atI ci x).toNat < f) := ⟨hf', hf⟩
            rw [← hy] at HCE
            clear hy hf'
            go_wp2_with (go_at_call 81; refine (HCE.out _ HE1.out).mono ?_; rintro e w2 ⟨rfl, hb⟩; have HE2 := Lib.hid (HE1.out.trans (hb.mono HE1.out.size)); have HO4 := Lib.hid (HO3.out.below hb (Nat.le_refl _)); clear hb)
            have h1 := HFF.out
            have h2 := HYL.out
            have h3 := HC0.out y
            have h4 := HCX.out
            exact ⟨⟨y, f', rfl, hyn, HXY.out, by omega, HO4.out, HE2.out⟩, by simp only [intOf]; simp [intOf]; omega⟩
        · have hgt' : ¬ cx < sv := by omega
          have hg2 : sv ≤ cx := by omega
          have HXE : Hid (xs = x) := by
            obtain ⟨f', hf'⟩ : ∃ f', f = f' + 1 := ⟨f - 1, by omega⟩
            have h1 := HX.out
            rw [hf'] at h1
            unfold flW at h1
            rw [← HCX.out, ← HSX.out, if_neg hgt'] at h1
            exact h1
          go_wp2
          go_region_held_law (fun V => V.cell? ⟨pr, i, none⟩ = some (.slice (some ⟨g0, 0, none⟩) nn nn) ∧ V.cell? ⟨pr, i + 1, none⟩ = some (.slice (some ⟨g1, 0, none⟩) nn nn) ∧ V.cell? ⟨g0, x, none⟩ = some (.int .i64 cx)) (first | assumption | exact HS6.out _ HD.out | exact HS6.out _ HE1.out)
            (first | (go_at_call 79; refine HSE.out.mono ?_; rintro e w1 ⟨rfl, hb⟩; have HE1 := Lib.hid (HD.out.trans (hb.mono HD.out.size)); have HO3 := Lib.hid (HOD.out.below hb (Nat.le_refl _)); clear hb))
          all_goals
            have HFW := Lib.hid (fun V (hV : Below w.heap.size w V) => forward_any m L R c1 (some ⟨g1, 0, none⟩) nn nn x r rb V HLA.out (HRW.out _ hV) (HG.out _ hV).2.2.2 HNN.out hx HRM.out)
            have HE2 := HE1
            go_wp2_with (first
              | (at_builtin; go_must (refine push_law _ rfl (.tmp 42) (.tmp 44) 22 rfl w.heap.size 3 i0 Try.underlying22 HI.out _ Ls (x : Int) rfl rfl HO3.out HLN.out HE1.out.size ?_); intro v2 w2 hv2 hg2 _; have HV2 := Lib.hid hv2; have HE2 := Lib.hid (HE1.out.grown hg2 HE1.out.size (fun j e => (HO3.out.lt e).1)); have hc7 := (HS6.out _ HE2.out).2.1; clear hv2 hg2)
              | (go_at_call 82; refine (HFW.out _ HE2.out).mono ?_; rintro e w3 ⟨rfl, hb⟩; have HE3 := Lib.hid (HE2.out.trans (hb.mono HE2.out.size)); have HV3 := Lib.hid (HV2.out.below hb (Nat.le_refl _)); clear hb))
            exact ⟨⟨i + 1, by omega, by go_num, by rw [HFT.out, HXE.out], by rw [Hid, HFL.out, HXE.out]; exact HV3.out, HE3.out⟩, by simp [intOf]; omega⟩
    · have hin : i = n := by omega
      subst hin
      have i1 : ¬ (i : Int) < (i : Int) := by omega
      go_wp2
      go_ret
      exact ⟨⟨_, rfl, HO.out⟩, HB.out⟩
end Go.Proofs.Ytcnjkdkkflpgnaa
