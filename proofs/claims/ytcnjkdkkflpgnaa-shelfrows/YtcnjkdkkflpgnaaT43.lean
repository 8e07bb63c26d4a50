import Derived.Test.YtcnjkdkkflpgnaaT38
import Derived.Deep.AppendLies
import Derived.Deep.RegionLaw
/- Layer 8: the law's table (a copy of a list of lists, cut). -/
namespace Go.Proofs.Ytcnjkdkkflpgnaa
open Go.RowKit Go.Maps
set_option linter.unusedVariables false

def tabL (R : List (List Int)) (k : Nat) : List (List Int) := (R.take k).map fun l => l.take 8
theorem tabL_len (R : List (List Int)) (k : Nat) : (tabL R k).length = min k R.length := by simp [tabL]
theorem tabL_succ {R : List (List Int)} {k : Nat} (hk : k < R.length) : tabL R (k + 1) = tabL R k ++ [(ordAt R k).take 8] := by
  unfold tabL
  rw [take_ord hk, List.map_append]; rfl
theorem step_of_list {P : Program} {ops : Array Oper} {o : Oper} {a : Act} {w : World} {K : Act → World → Prop} {Q : Exit → Act → World → Prop} {E : Prop} (hg : o.guard = none) (h : wpList P ops (fun e a w => match e with | .normal => K a w | _ => False) [o] a w) : if Region.wanted o (yielded ops a.tmps) = true then Oper.wp P o a w K Q else E := by
  have hw : Region.wanted o (yielded ops a.tmps) = true := by simp [Region.wanted, hg]
  rw [if_pos hw]
  unfold wpList at h
  rw [if_pos hw] at h
  rcases h with h | ⟨_, a', w', hf⟩
  · unfold Oper.wp at *
    generalize (execOp a.eval o).run P w = r at *
    cases r with
    | ok n w' =>
      cases n <;> simp only [Oper.upon] at h ⊢ <;> first
        | exact h
        | exact Calls.mono h (fun e w'' he => by
            cases e
            · exact he
            · exact he.elim
            · obtain ⟨_, _, hf⟩ := he; exact hf.elim)
        | exact Rows.mono h (fun _ _ he => he)
    | halt x w' => cases x <;> simp only [Oper.upon] at h ⊢ <;> exact h.elim
  · exact hf.elim
theorem step_apps {P : Program} (w : World) {ops : Array Oper} {o : Oper} {a : Act} {K : Act → World → Prop} {Q : Exit → Act → World → Prop} {E : Prop} (hgd : o.guard = none) (s x : Operand) (t : TypeId)
    (ho : o.op = .call { callee := .builtin .append, args := #[s, x], argTypes := #[t, t] })
    (B : Nat) (e : TypeId) (i : TypeInfo) (ht : P.underlying t = some (.slice e)) (hI : P.info? e = some i ∧ i.zero = some (.int .i64 0) ∧ i.size = 1 ∧ i.bytes = 8)
    (v : Value) (zs : List Int) (hs : a.eval s = v) (hown : Ow w B e v zs) (A : Option Addr) (m c : Nat) (ys : List Int) (hx : a.eval x = .slice A m c) (hr : Sl w A m c ys) (hn : zs.length + m ≤ 1099511627776) (hB : B ≤ w.heap.size)
    (h : ∀ v' w', Ow w' B e v' (zs ++ ys) → w.grownBy w' v.ownBlock → K (a.put o.dst v') w') : if Region.wanted o (yielded ops a.tmps) = true then Oper.wp P o a w K Q else E :=
  step_of_list hgd (apps_law w hgd s x t ho B e i ht hI v zs hs hown A m c ys hx hr hn hB fun v' w' h1 h2 => h v' w' h1 h2)
theorem step_pushv {P : Program} (w : World) {ops : Array Oper} {o : Oper} {a : Act} {K : Act → World → Prop} {Q : Exit → Act → World → Prop} {E : Prop} (hgd : o.guard = none) (s x : Operand) (t : TypeId)
    (ho : o.op = .call { callee := .builtin .append, args := #[s, x], argTypes := #[t, t] })
    (B : Nat) (i : TypeInfo) (ht : P.underlying t = some (.slice 22)) (hI : P.info? 22 = some i ∧ i.zero = some (.slice none 0 0) ∧ i.size = 1 ∧ i.bytes = 24)
    (v : Value) (vs : List Value) (A : Option Addr) (n c : Nat) (hs : a.eval s = v) (hx : a.eval x = .slice (some ⟨w.heap.size, 0, none⟩) 1 1) (hown : Owv w B v vs) (hn : vs.length ≤ 1000000) (hB : B ≤ w.heap.size)
    (h : ∀ v' w', Owv w' B v' (vs ++ [.slice A n c]) → w.grownBy w' v.ownBlock → K (a.put o.dst v') w') :
    if Region.wanted o (yielded ops a.tmps) = true then Oper.wp P o a (w.alloc (.cells #[.slice A n c] 22)) K Q else E :=
  step_of_list hgd (pushv_law w hgd s x t ho B i ht hI v vs A n c hs hx hown hn hB fun v' w' h1 h2 => h v' w' h1 h2)
set_option maxRecDepth 100000 in
set_option maxHeartbeats 12800000 in
theorem table_any (R : List (List Int)) (A : Option Addr) (n c : Nat) (w : World) (h : Sll w A n c R) :
    Calls Try.prog 33 #[.slice A n c] w fun e w' => (∃ v, e = .returned v ∧ Hst w' w.heap.size v (tabL R 62)) ∧ Below w.heap.size w w' := by
  obtain ⟨i0, hi, hz0, hz1, hz2⟩ := info_parts Try.infoInt
  have HI : Hid (Try.prog.info? 3 = some i0 ∧ i0.zero = some (.int .i64 0) ∧ i0.size = 1 ∧ i0.bytes = 8) := ⟨hi, hz0, hz1, hz2⟩
  obtain ⟨iS, hi2, hz02, hz12, hz22⟩ := info_parts Try.infoRowS
  have HI2 : Hid (Try.prog.info? 22 = some iS ∧ iS.zero = some (.slice none 0 0) ∧ iS.size = 1 ∧ iS.bytes = 24) := ⟨hi2, hz02, hz12, hz22⟩
  have HSR := Lib.hid (fun V (hV : Below w.heap.size w V) => h.below hV (Nat.le_refl _))
  have hbig := h.big
  have HLR : Hid (R.length = n) := h.len
  clear h hi hz0 hz1 hz2 hi2 hz02 hz12 hz22
  go_enter Try.func33, Try.ntmps33
  go_wp2
  go_loopw [3, 4] (fun v r w' => ∃ k : Nat, k ≤ n ∧ k ≤ 62 ∧ r = .int .i64 (k : Int) ∧ Hid (Hst w' w.heap.size v (tabL R k)) ∧ Hid (Below w.heap.size w w')) (fun _ r _ => n - (intOf r).toNat)
  case atStart => exact ⟨0, Nat.zero_le _, Nat.zero_le _, by go_num, Hst.nil _ _, Below.refl _ _⟩
  case round =>
    obtain ⟨k, hk, hk62, rfl, HH, HB⟩ := hrel
    obtain ⟨wo, rfl⟩ : ∃ wo : World, wo = wr := ⟨_, rfl⟩
    by_cases hlt : k < n
    · have i1 : (k : Int) < (n : Int) := by omega
      by_cases h62 : k < 62
      · have i2 : (k : Int) < 62 := by omega
        have HD : Hid (Below w.heap.size w wo.drew) := HB.out.drew
        have HHD : Hid (Hst wo.drew w.heap.size u3 (tabL R k)) := HH.out.below ((Below.refl wo.heap.size wo).drew) (Nat.le_refl _)
        obtain ⟨b5, o5, rfl, hb5, A4, n4, c4, hc4, hs4⟩ := (HSR.out _ HD.out).rows k hlt
        have hbig4 := hs4.big
        have hcap4 := hs4.cap
        obtain ⟨q, hq, hqc, hq2, hqm⟩ : ∃ q : Nat, q ≤ n4 ∧ (if (8 : Int) < (n4 : Int) then (8 : Int) else (n4 : Int)) = (q : Int) ∧ q ≤ 8 ∧ q = min n4 8 := by
          by_cases h : (8 : Int) < (n4 : Int)
          · exact ⟨8, by omega, by rw [if_pos h]; rfl, by omega, by omega⟩
          · exact ⟨n4, by omega, by rw [if_neg h], by omega, by omega⟩
        have hsl := fun W => slice_hd A4 n4 c4 hq hcap4 W
        have hmin : ∀ W, (Builtin.min_ #[3, 3] 3 #[.int .i64 (n4 : Int), .int .i64 8]).run Try.prog W = .ok (.int .i64 (q : Int)) W := fun W => by rw [run_min_int2, hqc]
        have HT : Hid (Sl wo.drew A4 q c4 ((ordAt R k).take 8)) := by
          have h := hs4.take hq
          have hl := hs4.len
          rw [hqm] at h ⊢
          by_cases e : n4 ≤ 8
          · rw [Nat.min_eq_left e] at h ⊢
            rw [List.take_of_length_le (by omega)]
            rw [List.take_of_length_le (by omega)] at h
            exact h
          · rw [Nat.min_eq_right (by omega)] at h ⊢
            exact h
        have HQ : Hid (q ≤ 8) := hq2
        have HQL : Hid (((ordAt R k).take 8).length = q) := by rw [Hid, List.length_take, hs4.len, hqm, Nat.min_comm]
        have HTS := Lib.hid (tabL_succ (R := R) (k := k) (by rw [HLR.out]; exact hlt))
        have HTL : Hid ((tabL R k).length ≤ 62) := by rw [Hid, tabL_len]; omega
        have HZ : Hid (w.heap.size ≤ wo.drew.heap.size) := HD.out.size
        clear hs4 hqc hqm hq2 HH HSR
        go_upto_region 6 with (fail)
        go_region_law (first
          | (refine step_apps _ rfl (.tmp 17) (.tmp 28) 22 rfl w.heap.size 3 i0 Try.underlying22 HI.out (.slice none 0 0) [] rfl (Ow.nil _ _ _) A4 q c4 ((ordAt R k).take 8) rfl HT.out (by have := HQ.out; simp <;> omega) HZ.out ?_; intro v2 w2 hown hg; have hb2 := (Below.refl wo.drew.heap.size wo.drew).grown hg (Nat.le_refl _) (by simp [Value.ownBlock]); have HB2 : Hid (Below w.heap.size w w2) := HD.out.trans (hb2.mono HZ.out); have HH2 := Lib.hid (HHD.out.below hb2 (Nat.le_refl _)); rw [List.nil_append] at hown; obtain ⟨A9, c9, rfl, hs9⟩ := hown.sl_len HQL.out (by have := HQ.out; omega); have HO2 := Lib.hid hown; obtain ⟨vs, hov, hvl, hvr⟩ := HH2.out; have HOV := Lib.hid hov; have HVL := Lib.hid hvl; have HVR := Lib.hid hvr; have HZ2 : Hid (w.heap.size ≤ w2.heap.size) := HB2.out.size; clear hown hg hb2 hs9 hov hvl hvr)
          | (refine step_pushv _ rfl (.tmp 16) (.tmp 30) 43 rfl w.heap.size iS Try.underlying43 HI2.out _ vs _ _ _ rfl rfl HOV.out (by have := HVL.out; have := HTL.out; omega) HZ2.out ?_; intro v3 w3 hown hg; have HH3 := Lib.hid (Hst.push HOV.out HVL.out HVR.out HO2.out hown hg); have HB3 := Lib.hid (HB2.out.grown hg HZ2.out (fun j e => (World.ownsRow.lt HOV.out j e).1)); clear hown hg))
        all_goals
          go_wp2
          exact ⟨⟨k + 1, by omega, by omega, by go_num, by rw [HTS.out]; exact HH3.out, HB3.out⟩, by simp [intOf]; omega⟩
      · have i2 : ¬ (k : Int) < 62 := by omega
        have hk2 : k = 62 := by omega
        subst hk2
        go_wp2
        go_ret
        exact ⟨⟨_, rfl, HH.out⟩, HB.out⟩
    · have hkn : k = n := by omega
      have i1 : ¬ (k : Int) < (n : Int) := by omega
      have he : tabL R k = tabL R 62 := by
        unfold tabL
        rw [List.take_of_length_le (by rw [HLR.out]; omega), List.take_of_length_le (by rw [HLR.out]; omega)]
      rw [he] at HH
      go_wp2
      go_ret
      exact ⟨⟨_, rfl, HH.out⟩, HB.out⟩
end Go.Proofs.Ytcnjkdkkflpgnaa
