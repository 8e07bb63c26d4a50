import Derived.Test.YtcnjkdkkflpgnaaT32
/- Layer 8: plans made of any list (planned). -/
namespace Go.Proofs.Ytcnjkdkkflpgnaa
open Go.RowKit Go.Maps
set_option linter.unusedVariables false

theorem atI_app {l q : List Int} {j : Nat} (h : j < l.length) : atI (l ++ q) j = atI l j := by unfold atI; rw [List.getElem?_append_left h]
theorem atI_end {l : List Int} {x : Int} : atI (l ++ [x]) l.length = x := by unfold atI; rw [List.getElem?_append_right (Nat.le_refl _), Nat.sub_self]; rfl
theorem pF_app (zs pl q : List Int) : ∀ j, j ≤ pl.length → pF zs (pl ++ q) j = pF zs pl j
  | 0, _ => rfl
  | j + 1, h => by
    show srvS (pF zs (pl ++ q) j) j (atI zs j) (atI (pl ++ q) j) = srvS (pF zs pl j) j (atI zs j) (atI pl j)
    rw [pF_app zs pl q j (by omega), atI_app (by omega)]
theorem pOk_app {k : Int} {zs pl q : List Int} {j : Nat} (h : j < pl.length) : pOk k zs (pl ++ q) j = pOk k zs pl j := by
  unfold pOk
  rw [pF_app zs pl q j (by omega), atI_app h]
/-- What a plan under way is like. -/
structure PlG (k : Int) (zs pl S : List Int) (i : Nat) : Prop where
  len : pl.length = i
  sim : Sim (pF zs pl i) S
  le : (S.length : Int) ≤ k
  ok : ∀ j, j < i → pOk k zs pl j = true
  bnd : ∀ j, j < i → -1 ≤ atI pl j ∧ atI pl j < 16
theorem PlG.start {k : Int} (hk : 1 ≤ k) (zs : List Int) : PlG k zs [] [] 0 := ⟨rfl, Sim.none, by simp; omega, fun j hj => absurd hj (Nat.not_lt_zero _), fun j hj => absurd hj (Nat.not_lt_zero _)⟩
theorem PlG.next {k : Int} {zs pl S S' : List Int} {i : Nat} {gone : Int} (h : PlG k zs pl S i) (hs : Sim (srvS (pF zs pl i) i (atI zs i) gone) S') (hl : (S'.length : Int) ≤ k) (ho : alwB (pF zs pl i) (atI zs i) k gone = true) (hb : -1 ≤ gone ∧ gone < 16) : PlG k zs (pl ++ [gone]) S' (i + 1) := by
  have he : atI (pl ++ [gone]) i = gone := by have := atI_end (l := pl) (x := gone); rw [h.len] at this; exact this
  have hp := pF_app zs pl [gone] i (by rw [h.len]; exact Nat.le_refl _)
  refine ⟨by rw [List.length_append, h.len]; rfl, ?_, hl, fun j hj => ?_, fun j hj => ?_⟩
  · show Sim (srvS (pF zs (pl ++ [gone]) i) i (atI zs i) (atI (pl ++ [gone]) i)) S'
    rw [he, hp]; exact hs
  · rcases Nat.lt_succ_iff_lt_or_eq.1 hj with e | e
    · rw [pOk_app (by rw [h.len]; exact e)]; exact h.ok j e
    · rw [e]
      unfold pOk
      rw [he, hp]; exact ho
  · rcases Nat.lt_succ_iff_lt_or_eq.1 hj with e | e
    · rw [atI_app (by rw [h.len]; exact e)]; exact h.bnd j e
    · rw [e, he]; exact hb
theorem set_perm {S : List Int} {q : Nat} (hq : q < S.length) (x : Int) : List.Perm (S.set q x) (x :: witho S q) := by
  rw [List.set_eq_take_append_cons_drop, if_pos hq]
  exact List.perm_middle
theorem PlG.hit {k : Int} {zs pl S : List Int} {i : Nat} (h : PlG k zs pl S i) (hin : atI zs i ∈ S) : PlG k zs (pl ++ [-1]) S (i + 1) := by
  have hf : ¬ ixI S (atI zs i) < 0 := fun e => ixI_mem.1 e hin
  have hb : stepB k (atI zs i) (-1) S = true := by unfold stepB; rw [if_neg (fun e => hf e.1)]; rfl
  refine h.next ?_ h.le (by rw [h.sim.allow]; exact hb) ⟨by decide, by decide⟩
  have := (h.sim.step (h.sim.lo _ hin) i hb).1
  unfold stepL at this
  rw [if_neg hf] at this
  exact this
theorem PlG.add {k : Int} {zs pl S : List Int} {i : Nat} (h : PlG k zs pl S i) (hp : 0 ≤ atI zs i ∧ atI zs i < 16) (hin : atI zs i ∉ S) (hk : ¬ (S.length : Int) = k) : PlG k zs (pl ++ [-1]) (S ++ [atI zs i]) (i + 1) := by
  have hf : ixI S (atI zs i) < 0 := ixI_mem.2 hin
  have hb : stepB k (atI zs i) (-1) S = true := by unfold stepB; rw [if_neg (fun e => hk e.2)]; rfl
  refine h.next ?_ (by have := h.le; rw [List.length_append, List.length_singleton]; omega) (by rw [h.sim.allow]; exact hb) ⟨by decide, by decide⟩
  have := (h.sim.step hp i hb).1
  unfold stepL at this
  rw [if_pos hf, if_neg hk] at this
  exact this
theorem PlG.cut {k : Int} {zs pl S : List Int} {i q : Nat} (h : PlG k zs pl S i) (hp : 0 ≤ atI zs i ∧ atI zs i < 16) (hin : atI zs i ∉ S) (hk : (S.length : Int) = k) (hq : q < S.length) : PlG k zs (pl ++ [atI S q]) (S.set q (atI zs i)) (i + 1) := by
  have hg := h.sim.lo _ (atI_mem hq)
  have hno : pF zs pl i (atI zs i) = none := by
    cases e : pF zs pl i (atI zs i) with
    | none => rfl
    | some v => exact absurd ((h.sim.mem _).1 (by rw [e]; rfl)) hin
  have hr : rmS (pF zs pl i) (atI S q) = delS (pF zs pl i) (atI S q) := if_neg (by omega)
  have hpm := set_perm hq (atI zs i)
  have hwm := witho_mem hq h.sim.nd
  refine h.next ?_ (by rw [List.length_set]; exact h.le) ?_ ⟨by omega, hg.2⟩
  · unfold srvS
    rw [hr]
    refine ⟨fun x => ?_, hpm.nodup_iff.2 ?_, fun x hx => ?_⟩
    · rw [putS_some, delS_some, h.sim.mem, hpm.mem_iff, List.mem_cons, hwm]
    · rw [List.nodup_cons]
      exact ⟨fun e => hin ((hwm _).1 e).1, witho_nodup hq h.sim.nd⟩
    · rw [hpm.mem_iff, List.mem_cons] at hx
      rcases hx with e | e
      · rw [e]; exact hp
      · exact h.sim.lo x ((hwm x).1 e).1
  · unfold alwB
    rw [h.sim.lacks, decide_eq_true (And.intro (ixI_mem.2 hin) hk), if_pos rfl]
    exact (h.sim.mem _).2 (atI_mem hq)
theorem take_in {S : List Int} {x : Int} {j : Nat} (hj : j < S.length) : decide (x ∈ S.take (j + 1)) = (decide (x ∈ S.take j) || (atI S j == x)) := by
  have e1 : atI S j = S[j] := by unfold atI; rw [List.getElem?_eq_getElem hj]; rfl
  have e2 : S.take (j + 1) = S.take j ++ [S[j]] := by rw [List.take_add_one, List.getElem?_eq_getElem hj]; rfl
  rw [e1, e2, Bool.eq_iff_iff, Bool.or_eq_true, decide_eq_true_iff, decide_eq_true_iff, List.mem_append, List.mem_singleton, beq_iff_eq, eq_comm (a := x)]
set_option maxRecDepth 100000 in
set_option maxHeartbeats 12800000 in
theorem planned_any (k : Int) (zs by_ : List Int) (A B : Option Addr) (n c m d : Nat) (w : World) (h : Sl w A n c zs) (h2 : Sl w B m d by_) (hk : 1 ≤ k ∧ k ≤ 8) (hn : n ≤ 200) (hz : ∀ i, i < n → 0 ≤ atI zs i ∧ atI zs i < 16) :
    Calls Try.prog 41 #[.slice A n c, .int .i64 k, .slice B m d] w fun e w' => (∃ v pl S, e = .returned v ∧ Ow w' w.heap.size 3 v pl ∧ PlG k zs pl S n) ∧ Below w.heap.size w w' := by
  obtain ⟨i0, hi, hz0, hz1, hz2⟩ := info_parts Try.infoInt
  have HI : Hid (Try.prog.info? 3 = some i0 ∧ i0.zero = some (.int .i64 0) ∧ i0.size = 1 ∧ i0.bytes = 8) := ⟨hi, hz0, hz1, hz2⟩
  clear hi hz0 hz1 hz2
  have HSL := Lib.hid (fun V (hV : Below w.heap.size w V) => h.below hV (Nat.le_refl _))
  have HSB := Lib.hid (fun V (hV : Below w.heap.size w V) => h2.below hV (Nat.le_refl _))
  have hbig := h.big
  have hbig2 := h2.big
  have HZ := Lib.hid hz
  have HST := Lib.hid (PlG.start hk.1 zs)
  have HK := Lib.hid hk
  clear h h2 hz
  go_enter Try.func41, Try.ntmps41
  go_wp2
  go_loopw [7, 8, 9] (fun v p r w' => ∃ (i : Nat) (S pl : List Int), i ≤ n ∧ r = .int .i64 (i : Int) ∧ Hid (Ow w' w.heap.size 3 v S) ∧ Hid (Ow w' w.heap.size 3 p pl) ∧ Hid (Apart v p) ∧ Hid (PlG k zs pl S i) ∧ Hid (Below w.heap.size w w')) (fun _ _ r _ => n - (intOf r).toNat)
  case atStart => exact ⟨0, [], [], Nat.zero_le _, by go_num, Ow.nil _ _ _, Ow.nil _ _ _, Or.inl rfl, HST.out, Below.refl _ _⟩
  case round =>
    obtain ⟨i, S, pl, hi, rfl, HO, HP, HD, HG, HB⟩ := hrel
    obtain ⟨wo, rfl⟩ : ∃ wo : World, wo = wr := ⟨_, rfl⟩
    by_cases hlt : i < n
    · have i1 : (i : Int) < (n : Int) := by omega
      have hSk : S.length ≤ 8 := by have := HG.out.le; have := HK.out.2; omega
      have HFM : Hid (0 < S.length → ∃ g cap, u7 = .slice (some ⟨g, 0, none⟩) S.length cap) := fun h0 => by
        obtain ⟨g, cap, e, _⟩ := HO.out.form h0
        exact ⟨g, cap, e⟩
      obtain ⟨A3, c3, rfl, hs3⟩ := HO.out.sl_len rfl (by omega)
      obtain ⟨b1, o1, rfl, hc1⟩ := (HSL.out wo HB.out).at_ hlt
      rw [show zs[i]?.getD 0 = atI zs i from rfl] at hc1
      have HC : Hid (∀ V, Below w.heap.size w V → V.cell? ⟨b1, o1 + i, none⟩ = some (.int .i64 (atI zs i))) := fun V hV => by
        obtain ⟨b3, o3, e3, hc3⟩ := (HSL.out V hV).at_ hlt
        have e3 := Option.some.inj e3
        injection e3 with e3 e4 _
        rw [← e3, ← e4] at hc3
        exact hc3
      have HS3 := Lib.hid hs3
      have HBZ : Hid (w.heap.size ≤ wo.heap.size) := HB.out.size
      have HPG := Lib.hid (HZ.out i hlt)
      have HLI := Lib.hid hlt
      obtain ⟨page, hpg⟩ : ∃ p, p = atI zs i := ⟨_, rfl⟩
      rw [← hpg] at hc1 HC HPG
      have HPE := Lib.hid hpg
      obtain ⟨nS, hnS⟩ : ∃ q, q = S.length := ⟨_, rfl⟩
      have HNS := Lib.hid hnS
      rw [← hnS] at HO HS3 HD HFM hSk ⊢
      clear HSL hs3 hpg hnS HST
      go_wp2
      go_loopw [11, 12] (fun f r w' => ∃ j : Nat, j ≤ nS ∧ r = .int .i64 (j : Int) ∧ f = .bool (decide (page ∈ S.take j)) ∧ Hid (Below wo.heap.size wo w')) (fun _ r _ => nS - (intOf r).toNat)
      case atStart => exact ⟨0, Nat.zero_le _, by go_num, by simp, Below.refl _ _⟩
      case round =>
        obtain ⟨j, hj, rfl, rfl, HE⟩ := hrel
        obtain ⟨wi, rfl⟩ : ∃ wi : World, wi = wr := ⟨_, rfl⟩
        have HBI : Hid (Below w.heap.size w wi) := HB.out.trans (HE.out.mono HBZ.out)
        by_cases hjl : j < nS
        · have j1 : (j : Int) < (nS : Int) := by omega
          have hTK : decide (page ∈ S.take (j + 1)) = (decide (page ∈ S.take j) || (atI S j == page)) := take_in (by rw [← HNS.out]; exact hjl)
          have HTK := Lib.hid hTK
          obtain ⟨b3, o3, rfl, hc3⟩ := (HS3.out.below HE.out (Nat.le_refl _)).at_ hjl
          rw [show S[j]?.getD 0 = atI S j from rfl] at hc3
          have hcx := HC.out wi HBI.out
          have HED : Hid (Below wo.heap.size wo wi.drew) := HE.out.drew
          have HSX : Hid (wi.drew.cell? ⟨b3, o3 + j, none⟩ = some (.int .i64 (atI S j)) ∧ wi.drew.cell? ⟨b1, o1 + i, none⟩ = some (.int .i64 page)) := ⟨hc3, hcx⟩
          clear hTK hc1
          generalize atI S j = sj at *
          cases hb : decide (page ∈ S.take j)
          · rw [hb] at HTK
            clear hb
            go_wp2
            go_region_held_law (fun V => V.cell? ⟨b3, o3 + j, none⟩ = some (.int .i64 sj) ∧ V.cell? ⟨b1, o1 + i, none⟩ = some (.int .i64 page)) (first | assumption | exact HSX.out) (fail)
            all_goals
              go_wp2
              exact ⟨⟨j + 1, by omega, by go_num, by rw [HTK.out, Bool.false_or], HED.out⟩, by simp [intOf]; omega⟩
          · rw [hb] at HTK
            clear hb
            go_wp2
            go_quiet (fail)
            go_wp2
            exact ⟨⟨j + 1, by omega, by go_num, by rw [HTK.out, Bool.true_or], by first | exact HED.out | exact HE.out | exact below_drewN HE.out⟩, by simp [intOf]; omega⟩
        · have hjn : j = nS := by omega
          subst hjn
          have j1 : ¬ (j : Int) < (j : Int) := by omega
          have hTA : S.take j = S := by rw [HNS.out]; exact List.take_length
          rw [hTA]
          have HOI := Lib.hid (HO.out.below HE.out (Nat.le_refl _))
          have HPI := Lib.hid (HP.out.below HE.out (Nat.le_refl _))
          have HLP : Hid (pl.length ≤ 1099511627776) := by have := HG.out.len; rw [Hid]; omega
          have hcx := HC.out wi HBI.out
          clear hTA hc1
          by_cases hinS : page ∈ S
          · have HPG1 := Lib.hid (HG.out.hit (by rw [← HPE.out]; exact hinS))
            rw [decide_eq_true hinS]
            clear hinS
            go_wp2_with (at_builtin; go_must (refine push_law _ rfl (.tmp 76) (.tmp 78) 22 rfl w.heap.size 3 i0 Try.underlying22 HI.out _ pl _ rfl rfl HPI.out HLP.out (show w.heap.size ≤ wi.heap.size from HBI.out.size) ?_); intro v6 w6 hv6 hg6 hat6; have HP6 := Lib.hid hv6; have HB6 := Lib.hid (HBI.out.grown hg6 HBI.out.size (fun j e => (HPI.out.lt e).1)); have HO6 := Lib.hid (HOI.out.kept hg6 HD.out); have HA6 := Lib.hid ((HD.out.symm.pushed HOI.out hat6).symm); clear hv6 hg6 hat6)
            exact ⟨⟨i + 1, S, pl ++ [-1], by omega, by go_num, HO6.out, HP6.out, HA6.out, HPG1.out, HB6.out⟩, by simp [intOf]; omega⟩
          · rw [decide_eq_false hinS]
            by_cases hfull : (j : Int) = k
            · have hi8 : ((j : Int) == k) = true := by simp; exact hfull
              have hk1 := HK.out
              have h0 : 0 < j := by omega
              obtain ⟨g, cap, e9⟩ := HFM.out h0
              injection e9 with e9 _ e10
              subst e9 e10
              have HCUT : Hid (∀ q, q < j → PlG k zs (pl ++ [atI S q]) (S.set q page) (i + 1)) := fun q hq => by
                have := HG.out.cut (q := q) (by rw [← HPE.out]; exact HPG.out) (by rw [← HPE.out]; exact hinS) (by rw [← HNS.out]; exact hfull) (by rw [← HNS.out]; exact hq)
                rw [← HPE.out] at this; exact this
              have HCL : Hid (∀ q, q < j → wi.cell? ⟨g, q, none⟩ = some (.int .i64 (atI S q)) ∧ wi.frozen? ⟨g, q, none⟩ = false) := fun q hq => ⟨HOI.out.cellAt HNS.out.symm hq, HOI.out.free HNS.out.symm q⟩
              have HPUT : Hid (∀ q, Ow (wi.setCell ⟨g, q, none⟩ (.int .i64 page)) w.heap.size 3 (.slice (some ⟨g, 0, none⟩) j c3) (S.set q page)) := fun q => HOI.out.put HNS.out.symm q page
              have hgl := (HOI.out.lt (k := g) rfl).1
              have HPK : Hid (∀ q, Ow (wi.setCell ⟨g, q, none⟩ (.int .i64 page)) w.heap.size 3 u8 pl) := fun q => own_same HPI.out fun kk cur hk2 he => set_oth (fun e => by
                subst e
                rcases HD.out with h | h
                · cases h
                · exact h he.symm)
              have HBS : Hid (∀ q, Below w.heap.size w (wi.setCell ⟨g, q, none⟩ (.int .i64 page))) := fun q => HBI.out.setCell (p := ⟨g, q, none⟩) hgl _
              have hFK : (j : Int) = k := hfull
              have HFK := Lib.hid hFK
              clear hfull hinS hgl h0 hFK HFM
              by_cases him : i < m
              · have i2 : (i : Int) < (m : Int) := by omega
                obtain ⟨b5, o5, rfl, hc5⟩ := (HSB.out wi HBI.out).at_ him
                generalize by_[i]?.getD 0 = z at hc5
                have HMD := Lib.hid (mod_any z k wi hk1.1 (by omega))
                go_upto_region 15 with (go_at_call 40; go_must (refine HMD.out.mono ?_); rintro e w2 ⟨⟨r, rfl, hr⟩, rfl⟩; have HRN := Lib.hid hr; clear hr)
                have hrj : r < j := by have := HRN.out; have := HFK.out; omega
                have r1 : (r : Int) < (j : Int) := by omega
                have c1' := (HCL.out r hrj).1
                have f1' := (HCL.out r hrj).2
                have HO5 := Lib.hid (HPUT.out r)
                have HP5 := Lib.hid (HPK.out r)
                have HB5 := Lib.hid (HBS.out r)
                have HPG1 := Lib.hid (HCUT.out r hrj)
                clear HCL HPUT HPK HBS HCUT hc5 HMD hrj
                generalize atI S r = gone at *
                go_upto_region 19 with (fail)
                obtain ⟨W5, hW5⟩ : ∃ X, X = wi.setCell ⟨g, r, none⟩ (.int .i64 page) := ⟨_, rfl⟩
                rw [← hW5] at HO5 HP5 HB5 ⊢
                clear hW5
                go_wp2_with (at_builtin; go_must (refine push_law _ rfl (.tmp 76) (.tmp 78) 22 rfl w.heap.size 3 i0 Try.underlying22 HI.out _ pl _ rfl rfl HP5.out HLP.out HB5.out.size ?_); intro v6 w6 hv6 hg6 hat6; have HP6 := Lib.hid hv6; have HB6 := Lib.hid (HB5.out.grown hg6 HB5.out.size (fun j e => (HP5.out.lt e).1)); have HO6 := Lib.hid (HO5.out.kept hg6 HD.out); have HA6 := Lib.hid ((HD.out.symm.pushed HO5.out hat6).symm); clear hv6 hg6 hat6)
                exact ⟨⟨i + 1, _, pl ++ [gone], by omega, by go_num, HO6.out, HP6.out, HA6.out, HPG1.out, HB6.out⟩, by simp [intOf]; omega⟩
              · have i2 : ¬ (i : Int) < (m : Int) := by omega
                have h0 : 0 < j := by have := HFK.out; omega
                have r1 : (0 : Int) < (j : Int) := by omega
                have c1' := (HCL.out 0 h0).1
                have f1' := (HCL.out 0 h0).2
                have HO5 := Lib.hid (HPUT.out 0)
                have HP5 := Lib.hid (HPK.out 0)
                have HB5 := Lib.hid (HBS.out 0)
                have HPG1 := Lib.hid (HCUT.out 0 h0)
                clear HCL HPUT HPK HBS HCUT h0
                generalize atI S 0 = gone at *
                go_upto_region 19 with (fail)
                obtain ⟨W5, hW5⟩ : ∃ X, X = wi.setCell ⟨g, 0, none⟩ (.int .i64 page) := ⟨_, rfl⟩
                rw [← hW5] at HO5 HP5 HB5 ⊢
                clear hW5
                go_wp2_with (at_builtin; go_must (refine push_law _ rfl (.tmp 76) (.tmp 78) 22 rfl w.heap.size 3 i0 Try.underlying22 HI.out _ pl _ rfl rfl HP5.out HLP.out HB5.out.size ?_); intro v6 w6 hv6 hg6 hat6; have HP6 := Lib.hid hv6; have HB6 := Lib.hid (HB5.out.grown hg6 HB5.out.size (fun j e => (HP5.out.lt e).1)); have HO6 := Lib.hid (HO5.out.kept hg6 HD.out); have HA6 := Lib.hid ((HD.out.symm.pushed HO5.out hat6).symm); clear hv6 hg6 hat6)
                exact ⟨⟨i + 1, _, pl ++ [gone], by omega, by go_num, HO6.out, HP6.out, HA6.out, HPG1.out, HB6.out⟩, by simp [intOf]; omega⟩
            · have hi8 : ((j : Int) == k) = false := by simp; exact hfull
              have HPG1 := Lib.hid (HG.out.add (by rw [← HPE.out]; exact HPG.out) (by rw [← HPE.out]; exact hinS) (by rw [← HNS.out]; exact hfull))
              rw [← HPE.out] at HPG1
              have HLS : Hid (S.length ≤ 1099511627776) := by have := HNS.out; rw [Hid]; omega
              clear hfull hinS
              go_wp2_with (first
                | (at_builtin; refine push_law _ rfl (.tmp 69) (.tmp 74) 22 rfl w.heap.size 3 i0 Try.underlying22 HI.out _ S page rfl rfl HOI.out HLS.out (show w.heap.size ≤ wi.heap.size from HBI.out.size) ?_; intro v5 w5 hv5 hg5 hat5; have HO5 := Lib.hid hv5; have HB5 := Lib.hid (HBI.out.grown hg5 HBI.out.size (fun j e => (HOI.out.lt e).1)); have HP5 := Lib.hid (HPI.out.kept hg5 HD.out.symm); have HA5 := Lib.hid (HD.out.pushed HPI.out hat5); clear hv5 hg5 hat5)
                | (at_builtin; go_must (refine push_law _ rfl (.tmp 76) (.tmp 78) 22 rfl w.heap.size 3 i0 Try.underlying22 HI.out _ pl _ rfl rfl HP5.out HLP.out (show w.heap.size ≤ w5.heap.size from HB5.out.size) ?_); intro v6 w6 hv6 hg6 hat6; have HP6 := Lib.hid hv6; have HB6 := Lib.hid (HB5.out.grown hg6 HB5.out.size (fun j e => (HP5.out.lt e).1)); have HO6 := Lib.hid (HO5.out.kept hg6 HA5.out); have HA6 := Lib.hid ((HA5.out.symm.pushed HO5.out hat6).symm); clear hv6 hg6 hat6))
              exact ⟨⟨i + 1, _, pl ++ [-1], by omega, by go_num, HO6.out, HP6.out, HA6.out, HPG1.out, HB6.out⟩, by simp [intOf]; omega⟩
    · have hin : i = n := by omega
      subst hin
      have i1 : ¬ (i : Int) < (i : Int) := by omega
      go_wp2
      go_ret
      exact ⟨⟨_, rfl, pl, HP.out, S, HG.out⟩, HB.out⟩
end Go.Proofs.Ytcnjkdkkflpgnaa
