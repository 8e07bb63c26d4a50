import Derived.Test.YtcnjkdkkflpgnaaT23
/- Layer 8: the reference's strategies (latest, Serve). -/
namespace Go.Proofs.Ytcnjkdkkflpgnaa
open Go.RowKit
set_option linter.unusedVariables false

def latF (S rs : List Int) : Nat → Nat → Nat → Int → Nat
  | 0, _, best, _ => best
  | f + 1, i, best, far => if ixI rs (atI S i) < 0 then i else if far < ixI rs (atI S i) then latF S rs f (i + 1) i (ixI rs (atI S i)) else latF S rs f (i + 1) best far
def latL (S rs : List Int) : Nat := latF S rs S.length 0 0 (-1)
theorem latF_lt (S rs : List Int) (n : Nat) : ∀ f i best far, i + f = n → best < n → latF S rs f i best far < n
  | 0, i, best, far, _, hb => hb
  | f + 1, i, best, far, hi, hb => by
    unfold latF
    split
    · omega
    · split
      · exact latF_lt S rs n f (i + 1) i _ (by omega) (by omega)
      · exact latF_lt S rs n f (i + 1) best _ (by omega) hb
theorem latL_lt {S rs : List Int} (h : 0 < S.length) : latL S rs < S.length := latF_lt S rs S.length S.length 0 0 (-1) (by omega) h
set_option maxRecDepth 100000 in
set_option maxHeartbeats 3200000 in
theorem latest_any (S rs : List Int) (A B : Option Addr) (n c m d : Nat) (w : World) (h : Sl w A n c S) (h2 : Sl w B m d rs) (hn : n ≤ 1000) :
    Calls Try.prog 51 #[.slice A n c, .slice B m d] w fun e w' => e = .returned (.int .i64 (latL S rs : Int)) ∧ w = w' := by
  have HL : Hid (S.length = n) := h.len
  have HS := Lib.hid h
  have HIX := Lib.hid (fun x => index_any rs x B m d w h2)
  have HT : Hid (latL S rs = latF S rs (n - 0) 0 0 (-1)) := by unfold latL; rw [Hid, HL.out]; rfl
  clear h h2
  rw [HT.out]
  obtain ⟨T, hT⟩ : ∃ T, T = latF S rs (n - 0) 0 0 (-1) := ⟨_, rfl⟩
  rw [← hT]
  have HTT := Lib.hid hT
  clear hT HT
  go_enter Try.func51, Try.ntmps51
  go_wp2
  go_loopw [5, 6, 7] (fun b f r w' => ∃ (i best : Nat) (far : Int), i ≤ n ∧ r = .int .i64 (i : Int) ∧ b = .int .i64 (best : Int) ∧ f = .int .i64 far ∧ Hid (T = latF S rs (n - i) i best far) ∧ w = w') (fun _ _ r _ => n - (intOf r).toNat)
  case atStart => exact ⟨0, 0, -1, Nat.zero_le _, by go_num, rfl, rfl, HTT.out, rfl⟩
  case round =>
    obtain ⟨i, best, far, hi, rfl, rfl, rfl, HR, rfl⟩ := hrel
    clear HTT
    by_cases hlt : i < n
    · have i1 : (i : Int) < (n : Int) := by omega
      obtain ⟨b1, o1, rfl, hc1⟩ := HS.out.at_ hlt
      rw [show S[i]?.getD 0 = atI S i from rfl] at hc1
      have hr := HR.out
      rw [show n - i = (n - (i + 1)) + 1 by omega] at hr
      unfold latF at hr
      have HRR := Lib.hid hr
      have HIX := Lib.hid (HIX.out (atI S i))
      clear hr HR
      generalize atI S i = x at *
      generalize ixI rs x = nx at *
      by_cases hneg : nx < 0
      · rw [if_pos hneg] at HRR
        go_wp2_with (go_at_call 50; (with_reducible refine HIX.out.mono ?_); rintro e v1 ⟨rfl, rfl⟩)
        go_ret
        rw [HRR.out]
        exact ⟨rfl, rfl⟩
      · rw [if_neg hneg] at HRR
        by_cases hgt : far < nx
        · rw [if_pos hgt] at HRR
          have i2 : nx > far := hgt
          go_wp2_with (go_at_call 50; (with_reducible refine HIX.out.mono ?_); rintro e v1 ⟨rfl, rfl⟩)
          exact ⟨⟨i + 1, i, nx, by omega, by go_num, rfl, rfl, HRR.out, by first | rfl | trivial⟩, by simp [intOf]; omega⟩
        · rw [if_neg hgt] at HRR
          have i2 : ¬ nx > far := hgt
          go_wp2_with (go_at_call 50; (with_reducible refine HIX.out.mono ?_); rintro e v1 ⟨rfl, rfl⟩)
          exact ⟨⟨i + 1, best, far, by omega, by go_num, rfl, rfl, HRR.out, by first | rfl | trivial⟩, by simp [intOf]; omega⟩
    · have hin : i = n := by omega
      subst hin
      have i1 : ¬ (i : Int) < (i : Int) := by omega
      have hr := HR.out
      rw [Nat.sub_self] at hr
      have HRR : Hid (T = best) := hr
      clear hr HR
      go_wp2
      go_ret
      rw [HRR.out]
      exact ⟨rfl, rfl⟩
end Go.Proofs.Ytcnjkdkkflpgnaa
/- Layer 8: Serve of the reference. -/
namespace Go.Proofs.Ytcnjkdkkflpgnaa
open Go.RowKit
set_option linter.unusedVariables false

/-- Which page a strategy removes, the list after a request, the plan's entry. -/
def svO (st : Nat) (S rs : List Int) : Nat := if st = 2 then latL S rs else 0
def svN (st : Nat) (k page : Int) (S rs : List Int) : List Int :=
  if ixI S page < 0 then (if (S.length : Int) = k then witho S (svO st S rs) else S) ++ [page] else if st = 0 then witho S (ixI S page).toNat ++ [page] else S
def svE (st : Nat) (k page : Int) (S rs : List Int) : Int := if ixI S page < 0 ∧ (S.length : Int) = k then atI S (svO st S rs) else -1
def svS (st : Nat) (k : Int) (zs : List Int) : Nat → List Int
  | 0 => []
  | i + 1 => svN st k (atI zs i) (svS st k zs i) (zs.drop i)
def svC (st : Nat) (k : Int) (zs : List Int) : Nat → Int
  | 0 => 0
  | i + 1 => if ixI (svS st k zs i) (atI zs i) < 0 then svC st k zs i + 1 else svC st k zs i
def svG (st : Nat) (k : Int) (zs : List Int) (i : Nat) : Int := svE st k (atI zs i) (svS st k zs i) (zs.drop i)
def svP (st : Nat) (k : Int) (zs : List Int) (i : Nat) : List Int := (List.range i).map (svG st k zs)
theorem svP_succ (st : Nat) (k : Int) (zs : List Int) (i : Nat) : svP st k zs (i + 1) = svP st k zs i ++ [svG st k zs i] := by unfold svP; rw [List.range_succ, List.map_append]; rfl
theorem svP_len (st : Nat) (k : Int) (zs : List Int) (i : Nat) : (svP st k zs i).length = i := by simp [svP]
theorem witho_le (S : List Int) (q : Nat) : (witho S q).length ≤ S.length := by unfold witho; rw [List.length_append, List.length_take, List.length_drop]; omega
theorem svN_len (st : Nat) (k page : Int) (S rs : List Int) : (svN st k page S rs).length ≤ S.length + 1 := by
  unfold svN
  have h1 := witho_le S (svO st S rs)
  have h2 := witho_le S (ixI S page).toNat
  split
  · rw [List.length_append, List.length_singleton]
    split <;> omega
  · split
    · rw [List.length_append, List.length_singleton]; omega
    · omega
theorem svS_len (st : Nat) (k : Int) (zs : List Int) : ∀ i, (svS st k zs i).length ≤ i
  | 0 => Nat.le_refl _
  | i + 1 => by
    have h1 := svS_len st k zs i
    have h2 := svN_len st k (atI zs i) (svS st k zs i) (zs.drop i)
    unfold svS
    omega
theorem svC_le (st : Nat) (k : Int) (zs : List Int) : ∀ i : Nat, 0 ≤ svC st k zs i ∧ svC st k zs i ≤ (i : Int)
  | 0 => ⟨Int.le_refl _, Int.le_refl _⟩
  | i + 1 => by
    have h1 := svC_le st k zs i
    unfold svC
    split <;> omega
theorem apart_new {V V2 : World} {B : Nat} {v p : Value} {e e2 : Nat} {zs ys : List Int} (h : Ow V2 V.heap.size e v zs) (hp : Ow V B e2 p ys) : Apart v p := by
  unfold Apart
  rcases hx : v.ownBlock with _ | g
  · exact .inl rfl
  · refine .inr fun e => ?_
    have h1 := (h.lt hx).1
    have h2 := (hp.lt e.symm).2
    omega
set_option maxRecDepth 100000 in
set_option maxHeartbeats 12800000 in
theorem serveR_any (st : Nat) (k : Int) (zs : List Int) (A : Option Addr) (n c : Nat) (w : World) (h : Sl w A n c zs) (hst : st ≤ 2) (hk : 1 ≤ k) (hn : n ≤ 1000) :
    Calls Try.prog 22 #[.slice A n c, .int .i64 k, .int .i64 (st : Int)] w fun e w' => (∃ v, e = .returned (.tuple #[.int .i64 (svC st k zs n), v]) ∧ Ow w' w.heap.size 3 v (svP st k zs n)) ∧ Below w.heap.size w w' := by
  obtain ⟨i0, hi, hz0, hz1, hz2⟩ := info_parts Try.infoInt
  have HI : Hid (Try.prog.info? 3 = some i0 ∧ i0.zero = some (.int .i64 0) ∧ i0.size = 1 ∧ i0.bytes = 8) := ⟨hi, hz0, hz1, hz2⟩
  clear hi hz0 hz1 hz2
  have HSL := Lib.hid (fun V (hV : Below w.heap.size w V) => h.below hV (Nat.le_refl _))
  have HL : Hid (zs.length = n) := h.len
  have hbig := h.big
  have hcap := h.cap
  have HST : Hid (st ≤ 2) := hst
  clear h
  go_enter Try.func22, Try.ntmps22
  go_wp2
  go_loopw [8, 9, 10, 11] (fun v p f r w' => ∃ i : Nat, i ≤ n ∧ r = .int .i64 (i : Int) ∧ f = .int .i64 (svC st k zs i) ∧ Hid (Ow w' w.heap.size 3 v (svS st k zs i)) ∧ Hid (Ow w' w.heap.size 3 p (svP st k zs i)) ∧ Hid (Apart v p) ∧ Hid (Below w.heap.size w w')) (fun _ _ _ r _ => n - (intOf r).toNat)
  case atStart => exact ⟨0, Nat.zero_le _, by go_num, rfl, Ow.nil _ _ _, Ow.nil _ _ _, Or.inl rfl, Below.refl _ _⟩
  case round =>
    obtain ⟨i, hi, rfl, rfl, HO, HP, HD, HB⟩ := hrel
    obtain ⟨wo, rfl⟩ : ∃ wo : World, wo = wr := ⟨_, rfl⟩
    by_cases hlt : i < n
    · have i1 : (i : Int) < (n : Int) := by omega
      have hsA := HSL.out wo HB.out
      have HRS := Lib.hid (hsA.drop (Nat.le_of_lt hlt))
      have hst := fun W => slice_tl A n c (k := i) (Nat.le_of_lt hlt) hcap W
      obtain ⟨b1, o1, rfl, hc1⟩ := hsA.at_ hlt
      rw [show zs[i]?.getD 0 = atI zs i from rfl] at hc1
      have hsl := svS_len st k zs i
      have hcl := svC_le st k zs i
      have HSF : Hid (svS st k zs (i + 1) = svN st k (atI zs i) (svS st k zs i) (zs.drop i)) := rfl
      have HSC : Hid (svC st k zs (i + 1) = if ixI (svS st k zs i) (atI zs i) < 0 then svC st k zs i + 1 else svC st k zs i) := rfl
      have HSP := Lib.hid (svP_succ st k zs i)
      have HSG : Hid (svG st k zs i = svE st k (atI zs i) (svS st k zs i) (zs.drop i)) := rfl
      have HLP : Hid ((svP st k zs i).length ≤ 1099511627776) := by rw [Hid, svP_len]; omega
      have v1 : IntKind.i64.wrap (svC st k zs i + 1) = svC st k zs i + 1 := IntWalk.i64_in _ (by omega)
      obtain ⟨A3, c3, rfl, hs3⟩ := HO.out.sl_len rfl (by omega)
      have HI1 := Lib.hid (fun V (hV : Below wo.heap.size wo V) => index_any (svS st k zs i) (atI zs i) A3 _ c3 V (hs3.below hV (Nat.le_refl _)))
      have HS3 := Lib.hid hs3
      have HBZ : Hid (w.heap.size ≤ wo.heap.size) := HB.out.size
      have HLT := Lib.hid (fun V (hV : Below wo.heap.size wo V) => latest_any (svS st k zs i) (zs.drop i) A3 _ _ c3 _ _ V (hs3.below hV (Nat.le_refl _)) (HRS.out.below hV (Nat.le_refl _)) (by omega))
      unfold svN at HSF
      unfold svE at HSG
      clear HSL hsA hs3
      have HPX := HP
      have HAX := HD
      generalize zs.drop i = rs at *
      generalize atI zs i = page at *
      generalize svC st k zs i = cc at *
      generalize svG st k zs i = gg at *
      generalize svS st k zs i = S at *
      obtain ⟨PL, hPL⟩ : ∃ q, q = svP st k zs i := ⟨_, rfl⟩
      rw [← hPL] at HP HPX HSP HLP
      clear hPL
      obtain ⟨nS, hnS⟩ : ∃ q, q = S.length := ⟨_, rfl⟩
      have HNS := Lib.hid hnS
      rw [← hnS] at HSF HSG HI1 HS3 hsl HO HLT HD HAX ⊢
      clear hnS
      by_cases hf : ixI S page < 0
      · rw [if_pos hf] at HSF HSC
        by_cases hfull : (nS : Int) = k
        · rw [if_pos hfull] at HSF
          rw [if_pos ⟨hf, hfull⟩] at HSG
          have hol : svO st S rs < nS := by
            unfold svO
            split
            · have := latL_lt (S := S) (rs := rs) (by rw [← HNS.out]; omega)
              rw [← HNS.out] at this; exact this
            · omega
          have HWO := Lib.hid (fun V (hV : Below wo.heap.size wo V) => without_any A3 nS c3 (svO st S rs) S V (HS3.out.below hV (Nat.le_refl _)) hol (by omega))
          have HWL : Hid ((witho S (svO st S rs)).length ≤ 1099511627776) := by rw [Hid, witho_len HNS.out.symm hol]; omega
          obtain ⟨b3, o3, rfl, hc3⟩ := HS3.out.at_ hol
          rw [show S[svO st S rs]?.getD 0 = atI S (svO st S rs) from rfl] at hc3
          have i7 : ((svO st S rs : Nat) : Int) < (nS : Int) := by omega
          generalize hS2 : witho S (svO st S rs) = S2 at *
          generalize hxg : atI S (svO st S rs) = xg at *
          clear hS2 hxg
          by_cases h2 : st = 2
          · have i5 : ((st : Int) == 2) = true := by simp; omega
            have HOO : Hid (svO st S rs = latL S rs) := if_pos h2
            rw [HOO.out] at HWO i7 hc3 hol
            clear HOO h2
            generalize ixI S page = p1 at *
            generalize latL S rs = oo at *
            go_upto_region 17 with (first
              | (go_at_call 50; (with_reducible refine (HI1.out _ (Below.refl _ _)).mono ?_); rintro e v1 ⟨rfl, rfl⟩)
              | (go_at_call 51; (with_reducible refine (HLT.out _ (Below.refl _ _)).mono ?_); rintro e v1 ⟨rfl, rfl⟩)
              | (go_at_call 52; (with_reducible refine (HWO.out _ (Below.refl _ _)).mono ?_); rintro e w2 ⟨⟨v2, rfl, ho2⟩, hb2⟩; have HO2 := Lib.hid ho2; have HE2 := Lib.hid hb2; clear ho2 hb2))
            have HPX := Lib.hid (HP.out.below HE2.out (Nat.le_refl _))
            have HAX := Lib.hid (apart_new HO2.out HP.out)
            have HO5 := Lib.hid (HO2.out.base HBZ.out)
            have HE5 := Lib.hid (HB.out.trans (HE2.out.mono HBZ.out))
            have HZ5 : Hid (w.heap.size ≤ w2.heap.size) := HE5.out.size
            clear hc1 hc3 HO2
            go_upto_region 20 with (at_builtin; go_must (refine push_law _ rfl (.tmp 51) (.tmp 53) 22 rfl w.heap.size 3 i0 Try.underlying22 HI.out _ S2 page rfl rfl HO5.out HWL.out HZ5.out ?_); intro v3 w3 hv3 hg3 hat3; have HO3 := Lib.hid hv3; have HB3 := Lib.hid (HE5.out.grown hg3 HZ5.out (fun j e => (HO5.out.lt e).1)); have HP3 := Lib.hid (HPX.out.kept hg3 HAX.out.symm); have HA3 := Lib.hid (HAX.out.pushed HPX.out hat3); clear hv3 hg3 hat3)
            have HBZ5 : Hid (w.heap.size ≤ w3.heap.size) := HB3.out.size
            go_wp2_with (at_builtin; go_must (refine push_law _ rfl (.tmp 63) (.tmp 65) 22 rfl w.heap.size 3 i0 Try.underlying22 HI.out _ PL _ rfl rfl HP3.out HLP.out HBZ5.out ?_); intro v6 w6 hv6 hg6 hat6; have HP6 := Lib.hid hv6; have HB6 := Lib.hid (HB3.out.grown hg6 HBZ5.out (fun j e => (HP3.out.lt e).1)); have HO6 := Lib.hid (HO3.out.kept hg6 HA3.out); have HA6 := Lib.hid ((HA3.out.symm.pushed HO3.out hat6).symm); clear hv6 hg6 hat6)
            exact ⟨⟨i + 1, by omega, by go_num, by rw [HSC.out], by rw [HSF.out]; exact HO6.out, by rw [HSP.out, HSG.out]; exact HP6.out, HA6.out, HB6.out⟩, by simp [intOf]; omega⟩
          · have i5 : ((st : Int) == 2) = false := by simp; omega
            have HOO : Hid (svO st S rs = 0) := if_neg h2
            rw [HOO.out] at HWO i7 hc3 hol
            rw [Nat.add_zero] at hc3
            have HWO : Hid (∀ V (hV : Below wo.heap.size wo V), Calls Try.prog 52 #[.slice (some ⟨b3, o3, none⟩) nS c3, .int .i64 0] V fun e w' => (∃ v, e = .returned v ∧ Ow w' V.heap.size 3 v S2) ∧ Below V.heap.size V w') := HWO.out
            have i7 : (0 : Int) < (nS : Int) := by omega
            clear HOO
            generalize ixI S page = p1 at *
            go_upto_region 17 with (first
              | (go_at_call 50; (with_reducible refine (HI1.out _ (Below.refl _ _)).mono ?_); rintro e v1 ⟨rfl, rfl⟩)
              | (go_at_call 52; (with_reducible refine (HWO.out _ (Below.refl _ _)).mono ?_); rintro e w2 ⟨⟨v2, rfl, ho2⟩, hb2⟩; have HO2 := Lib.hid ho2; have HE2 := Lib.hid hb2; clear ho2 hb2))
            have HPX := Lib.hid (HP.out.below HE2.out (Nat.le_refl _))
            have HAX := Lib.hid (apart_new HO2.out HP.out)
            have HO5 := Lib.hid (HO2.out.base HBZ.out)
            have HE5 := Lib.hid (HB.out.trans (HE2.out.mono HBZ.out))
            have HZ5 : Hid (w.heap.size ≤ w2.heap.size) := HE5.out.size
            clear hc1 hc3 HO2
            go_upto_region 20 with (at_builtin; go_must (refine push_law _ rfl (.tmp 51) (.tmp 53) 22 rfl w.heap.size 3 i0 Try.underlying22 HI.out _ S2 page rfl rfl HO5.out HWL.out HZ5.out ?_); intro v3 w3 hv3 hg3 hat3; have HO3 := Lib.hid hv3; have HB3 := Lib.hid (HE5.out.grown hg3 HZ5.out (fun j e => (HO5.out.lt e).1)); have HP3 := Lib.hid (HPX.out.kept hg3 HAX.out.symm); have HA3 := Lib.hid (HAX.out.pushed HPX.out hat3); clear hv3 hg3 hat3)
            have HBZ5 : Hid (w.heap.size ≤ w3.heap.size) := HB3.out.size
            go_wp2_with (at_builtin; go_must (refine push_law _ rfl (.tmp 63) (.tmp 65) 22 rfl w.heap.size 3 i0 Try.underlying22 HI.out _ PL _ rfl rfl HP3.out HLP.out HBZ5.out ?_); intro v6 w6 hv6 hg6 hat6; have HP6 := Lib.hid hv6; have HB6 := Lib.hid (HB3.out.grown hg6 HBZ5.out (fun j e => (HP3.out.lt e).1)); have HO6 := Lib.hid (HO3.out.kept hg6 HA3.out); have HA6 := Lib.hid ((HA3.out.symm.pushed HO3.out hat6).symm); clear hv6 hg6 hat6)
            exact ⟨⟨i + 1, by omega, by go_num, by rw [HSC.out], by rw [HSF.out]; exact HO6.out, by rw [HSP.out, HSG.out]; exact HP6.out, HA6.out, HB6.out⟩, by simp [intOf]; omega⟩
        · rw [if_neg hfull] at HSF
          rw [if_neg (fun e => hfull e.2)] at HSG
          have HL2 : Hid (S.length ≤ 1099511627776) := by have := HNS.out; rw [Hid]; omega
          generalize ixI S page = p1 at *
          go_upto_region 20 with (first
            | (go_at_call 50; (with_reducible refine (HI1.out _ (Below.refl _ _)).mono ?_); rintro e v1 ⟨rfl, rfl⟩)
            | (at_builtin; go_must (refine push_law _ rfl (.tmp 51) (.tmp 53) 22 rfl w.heap.size 3 i0 Try.underlying22 HI.out _ S page rfl rfl HO.out HL2.out HBZ.out ?_); intro v3 w3 hv3 hg3 hat3; have HO3 := Lib.hid hv3; have HB3 := Lib.hid (HB.out.grown hg3 HBZ.out (fun j e => (HO.out.lt e).1)); have HP3 := Lib.hid (HPX.out.kept hg3 HAX.out.symm); have HA3 := Lib.hid (HAX.out.pushed HPX.out hat3); clear hv3 hg3 hat3))
          have HBZ5 : Hid (w.heap.size ≤ w3.heap.size) := HB3.out.size
          go_wp2_with (at_builtin; go_must (refine push_law _ rfl (.tmp 63) (.tmp 65) 22 rfl w.heap.size 3 i0 Try.underlying22 HI.out _ PL _ rfl rfl HP3.out HLP.out HBZ5.out ?_); intro v6 w6 hv6 hg6 hat6; have HP6 := Lib.hid hv6; have HB6 := Lib.hid (HB3.out.grown hg6 HBZ5.out (fun j e => (HP3.out.lt e).1)); have HO6 := Lib.hid (HO3.out.kept hg6 HA3.out); have HA6 := Lib.hid ((HA3.out.symm.pushed HO3.out hat6).symm); clear hv6 hg6 hat6)
          exact ⟨⟨i + 1, by omega, by go_num, by rw [HSC.out], by rw [HSF.out]; exact HO6.out, by rw [HSP.out, HSG.out]; exact HP6.out, HA6.out, HB6.out⟩, by simp [intOf]; omega⟩
      · rw [if_neg hf] at HSF HSC
        rw [if_neg (fun e => hf e.1)] at HSG
        obtain ⟨q, hq, hqn, _⟩ := ixI_is hf
        rw [← HNS.out] at hqn
        rw [hq, Int.toNat_natCast] at HSF
        rw [hq] at HI1
        have i6 : ¬ (q : Int) < 0 := by omega
        by_cases h0 : st = 0
        · rw [if_pos h0] at HSF
          have i5 : ((st : Int) == 0) = true := by simp; omega
          have HWO := Lib.hid (fun V (hV : Below wo.heap.size wo V) => without_any A3 nS c3 q S V (HS3.out.below hV (Nat.le_refl _)) hqn (by omega))
          have HWL : Hid ((witho S q).length ≤ 1099511627776) := by rw [Hid, witho_len HNS.out.symm hqn]; omega
          clear hq hf h0
          generalize witho S q = S2 at *
          go_upto_region 20 with (first
            | (go_at_call 50; (with_reducible refine (HI1.out _ (Below.refl _ _)).mono ?_); rintro e v1 ⟨rfl, rfl⟩)
            | (go_at_call 52; (with_reducible refine (HWO.out _ (Below.refl _ _)).mono ?_); rintro e w2 ⟨⟨v2, rfl, ho2⟩, hb2⟩; have HPX := Lib.hid (HP.out.below hb2 (Nat.le_refl _)); have HAX := Lib.hid (apart_new ho2 HP.out); have HO2 := Lib.hid (ho2.base HBZ.out); have HE2 := Lib.hid (HB.out.trans (hb2.mono HBZ.out)); have HZ2 : Hid (w.heap.size ≤ w2.heap.size) := HE2.out.size; clear ho2 hb2)
            | (at_builtin; go_must (refine push_law _ rfl (.tmp 59) (.tmp 61) 22 rfl w.heap.size 3 i0 Try.underlying22 HI.out _ S2 page rfl rfl HO2.out HWL.out HZ2.out ?_); intro v3 w3 hv3 hg3 hat3; have HO3 := Lib.hid hv3; have HB3 := Lib.hid (HE2.out.grown hg3 HZ2.out (fun j e => (HO2.out.lt e).1)); have HP3 := Lib.hid (HPX.out.kept hg3 HAX.out.symm); have HA3 := Lib.hid (HAX.out.pushed HPX.out hat3); clear hv3 hg3 hat3))
          have HBZ5 : Hid (w.heap.size ≤ w3.heap.size) := HB3.out.size
          go_wp2_with (at_builtin; go_must (refine push_law _ rfl (.tmp 63) (.tmp 65) 22 rfl w.heap.size 3 i0 Try.underlying22 HI.out _ PL _ rfl rfl HP3.out HLP.out HBZ5.out ?_); intro v6 w6 hv6 hg6 hat6; have HP6 := Lib.hid hv6; have HB6 := Lib.hid (HB3.out.grown hg6 HBZ5.out (fun j e => (HP3.out.lt e).1)); have HO6 := Lib.hid (HO3.out.kept hg6 HA3.out); have HA6 := Lib.hid ((HA3.out.symm.pushed HO3.out hat6).symm); clear hv6 hg6 hat6)
          exact ⟨⟨i + 1, by omega, by go_num, by rw [HSC.out], by rw [HSF.out]; exact HO6.out, by rw [HSP.out, HSG.out]; exact HP6.out, HA6.out, HB6.out⟩, by simp [intOf]; omega⟩
        · rw [if_neg h0] at HSF
          have i5 : ((st : Int) == 0) = false := by simp; omega
          clear hq hf
          go_upto_region 20 with (go_at_call 50; (with_reducible refine (HI1.out _ (Below.refl _ _)).mono ?_); rintro e v1 ⟨rfl, rfl⟩)
          have HBZ5 : Hid (w.heap.size ≤ wo.heap.size) := HB.out.size
          go_wp2_with (at_builtin; go_must (refine push_law _ rfl (.tmp 63) (.tmp 65) 22 rfl w.heap.size 3 i0 Try.underlying22 HI.out _ PL _ rfl rfl HP.out HLP.out HBZ5.out ?_); intro v6 w6 hv6 hg6 hat6; have HP6 := Lib.hid hv6; have HB6 := Lib.hid (HB.out.grown hg6 HBZ5.out (fun j e => (HP.out.lt e).1)); have HO6 := Lib.hid (HO.out.kept hg6 HD.out); have HA6 := Lib.hid ((HD.out.symm.pushed HO.out hat6).symm); clear hv6 hg6 hat6)
          exact ⟨⟨i + 1, by omega, by go_num, by rw [HSC.out], by rw [HSF.out]; exact HO6.out, by rw [HSP.out, HSG.out]; exact HP6.out, HA6.out, HB6.out⟩, by simp [intOf]; omega⟩
    · have hin : i = n := by omega
      subst hin
      have i1 : ¬ (i : Int) < (i : Int) := by omega
      go_wp2
      go_ret2
      exact ⟨⟨_, rfl, HP.out⟩, HB.out⟩
end Go.Proofs.Ytcnjkdkkflpgnaa
