import Derived.Test.YtmnnehpoaedifaaJ06
import Derived.Test.YtmnnehpoaedifaaJ07
import Derived.Test.YtmnnehpoaedifaaJ02
import Derived.Test.YtmnnehpoaedifaaJ05
/- Contract: TwoStacks. -/
namespace Go.Proofs.Ytmnnehpoaedifaa
open Go.RowKit

def cfB (o : List Int) (a b : Nat) : Bool := confB o a b
def twoB (o : List Int) : Bool := (firstTo (cfB o) o.length o.length).isSome
abbrev nats (q : List Nat) : List Int := q.map Int.ofNat
theorem nats_at {Q : List Nat} {q : Nat} (h : q < Q.length) : (nats Q)[q]?.getD 0 = ((Q[q]?.getD 0 : Nat) : Int) := by
  rw [List.getElem?_map, List.getElem?_eq_getElem h]
  rfl
theorem push_law_at {P : Program} (w : World) {ops : Array Oper} {rest : List Oper} {o : Oper} {a : Act} {Q : Exit → Act → World → Prop} (hgd : o.guard = none) (s x : Operand) (t : TypeId)
    (ho : o.op = .call { callee := .builtin .append, args := #[s, x], argTypes := #[t, t] })
    (B : Nat) (e : TypeId) (i : TypeInfo) (ht : P.underlying t = some (.slice e)) (hI : P.info? e = some i ∧ i.zero = some (.int .i64 0) ∧ i.size = 1 ∧ i.bytes = 8)
    (v : Value) (zs : List Int) (z : Int) (p : Nat) (hp : p = w.heap.size) (hs : a.eval s = v) (hx : a.eval x = .slice (some ⟨p, 0, none⟩) 1 1) (hown : Ow w B e v zs) (hn : zs.length ≤ 1099511627776) (hB : B ≤ w.heap.size)
    (h : ∀ v' w', Ow w' B e v' (zs ++ [z]) → w.grownBy w' v.ownBlock → (v'.ownBlock = v.ownBlock ∨ ∃ g, v'.ownBlock = some g ∧ w.heap.size ≤ g) → wpList P ops Q rest (a.put o.dst v') w') :
    wpList P ops Q (o :: rest) a (w.alloc (.cells #[.int .i64 z] e)) := by
  subst hp
  exact push_law w hgd s x t ho B e i ht hI v zs z hs hx hown hn hB h
theorem Ow.setCellLow {w : World} {B e : Nat} {v : Value} {zs : List Int} (h : Ow w B e v zs) {p : Addr} (hp : p.block < B) (u : Value) : Ow (w.setCell p u) B e v zs := h.setBelow hp u
theorem apart_low {g n c : Nat} (u : Value) (hu : ∀ k, u.ownBlock = some k → g < k) : Apart (.slice (some ⟨g, 0, none⟩) n c) u := by
  right
  intro e
  have := hu g e.symm
  omega

set_option maxRecDepth 100000 in
set_option maxHeartbeats 3200000 in
theorem twoStacks_any (A : Option Addr) (n c : Nat) (o : List Int) (w : World) (hs : Sl w A n c o) (hn : n ≤ 1000000) :
    Calls Try.prog 36 #[.slice A n c] w fun e w' => e = .returned (.bool (twoB o)) ∧ Below w.heap.size w w' := by
  have HS := Lib.hid hs; clear hs
  obtain ⟨i0, hi, hz0, hz1, hz2⟩ := info_parts Try.infoInt
  have HI : Hid (Try.prog.info? 3 = some i0 ∧ i0.zero = some (.int .i64 0) ∧ i0.size = 1 ∧ i0.bytes = 8) := ⟨hi, hz0, hz1, hz2⟩
  clear hi hz0 hz1 hz2
  have HTB : Hid (twoB o = (firstTo (cfB o) n n).isSome) := by unfold twoB; rw [Hid, HS.out.len]
  go_enter Try.func36, Try.ntmps36
  go_wp2_with (at_make; go_must (refine make_law _ rfl (.tmp 12) (.tmp 12) 22 rfl w.heap.size 3 i0 Try.underlying22 HI.out _ _ n rfl rfl rfl rfl (by omega) (Nat.le_refl _) ?_); intro w1 hv1 hg1; have HV1 := Lib.hid hv1; clear hv1; have HG1 := Lib.hid hg1; clear hg1)
  have hW1 := (Below.refl w.heap.size w).grown HG1.out (Nat.le_refl _) (by simp)
  have hgl1 : w.heap.size < w1.heap.size := (HV1.out.lt rfl).2
  go_loopw [5, 6, 7, 8, 9] (fun f _ _ _ _ w' => ∃ (k : Nat) (C : List Int), k ≤ n ∧ f = .int .i64 k ∧ Hid (firstTo (cfB o) n k = some C) ∧ Hid (C.length = n ∧ ∀ i, i < n → 0 ≤ C[i]?.getD 0 ∧ C[i]?.getD 0 ≤ 2) ∧ Hid (Ow w' w.heap.size 3 (.slice (some ⟨w.heap.size, 0, none⟩) n n) C) ∧ w.heap.size < w'.heap.size ∧ Below w.heap.size w w') (fun f _ _ _ _ _ => n - (intOf f).toNat)
  case atStart => exact ⟨0, List.replicate n 0, by omega, by go_num, rfl, ⟨by simp, fun i hi => by simp [hi]⟩, HV1, hgl1, hW1⟩
  case round =>
    obtain ⟨k, C, hk, rfl, HFT, HC, HO, hgl, hW⟩ := hrel
    by_cases hlt : k < n
    · have hck := HO.out.cellAt HC.out.1 hlt
      have hfk := HO.out.free HC.out.1 k
      have hcb := HC.out.2 k hlt
      have HNX : Hid (firstTo (cfB o) n (k + 1) = if C[k]?.getD 0 ≠ 0 then some C else (bfsTo (cfB o) n (n + 1) 0 ⟨C.set k 1, [k]⟩).map BS.C) := by
        rw [Hid, firstTo, HFT.out]; rfl
      obtain ⟨ck, hcke⟩ : ∃ ck, ck = C[k]?.getD 0 := ⟨_, rfl⟩
      rw [← hcke] at hck hcb HNX
      have HCK := Lib.hid hcke; clear hcke
      obtain ⟨wo, rfl⟩ : ∃ wo : World, wo = wr := ⟨_, rfl⟩
      by_cases hz : ck = 0
      · have g0 : (ck != 0) = false := by simpa using hz
        have HP := Lib.hid (HO.out.put HC.out.1 k 1)
        have HBI := Lib.hid (BInv.start HC.out.1 HC.out.2 hlt)
        have HNX2 : Hid (firstTo (cfB o) n (k + 1) = (bfsTo (cfB o) n (n + 1) 0 ⟨C.set k 1, [k]⟩).map BS.C) := by rw [Hid, HNX.out, if_neg (by simpa using hz)]
        clear hcb
        subst hz
        go_wp2
        have HQ0 : Hid (Ow ((wo.setCell ⟨w.heap.size, k, none⟩ (.int .i64 1)).alloc (.cells #[.int .i64 k] 3)) (w.heap.size + 1) 3 (.slice (some ⟨wo.heap.size, 0, none⟩) 1 1) (nats [k])) := by
          have h := Ow.one (wo.setCell ⟨w.heap.size, k, none⟩ (.int .i64 1)) (w.heap.size + 1) 3 (k : Int) (by simp; omega)
          rw [Hid]
          simpa using h
        have HC0 := Lib.hid (HP.out.alloc (.cells #[.int .i64 k] 3))
        have hW0 := (hW.setCell (p := ⟨w.heap.size, k, none⟩) (Nat.le_refl _) (.int .i64 1)).alloc (by simp; omega) (.cells #[.int .i64 k] 3)
        clear hck hfk
        go_loopw [6, 7, 8, 9] (fun qu qi _ _ w' => ∃ (t q : Nat) (s : BS), q ≤ s.Q.length ∧ t + q = n + 1 ∧ qi = .int .i64 q ∧ Hid (bfsTo (cfB o) n (n + 1) 0 ⟨C.set k 1, [k]⟩ = bfsTo (cfB o) n t q s) ∧ Hid (BInv n s) ∧ Hid (Ow w' w.heap.size 3 (.slice (some ⟨w.heap.size, 0, none⟩) n n) s.C) ∧ Hid (Ow w' (w.heap.size + 1) 3 qu (nats s.Q)) ∧ w.heap.size < w'.heap.size ∧ Below w.heap.size w w') (fun _ qi _ _ _ => n + 1 - (intOf qi).toNat)
        case atStart => exact ⟨n + 1, 0, ⟨C.set k 1, [k]⟩, by simp, by omega, by go_num, rfl, HBI, HC0, HQ0, (by simp; omega), hW0⟩
        case round =>
          obtain ⟨t, q, s, hq, htq, rfl, HBF, HB, HCo, HQu, hgl0, hU⟩ := hrel
          obtain ⟨wq, rfl⟩ : ∃ wq : World, wq = wr := ⟨_, rfl⟩
          obtain ⟨L, hL⟩ : ∃ L, s.Q.length = L := ⟨_, rfl⟩
          have hLn : L ≤ n := by have := HB.out.short; omega
          obtain ⟨A', c', hve, hsl⟩ := HQu.out.sl (by rw [List.length_map]; omega)
          rw [List.length_map, hL] at hve hsl
          subst hve
          rw [hL] at hq
          have HL := Lib.hid hL; clear hL
          have HSL := Lib.hid hsl; clear hsl
          by_cases hql0 : q < L
          · obtain ⟨t, rfl⟩ : ∃ t', t = t' + 1 := ⟨t - 1, by omega⟩
            have HQL : Hid (q < s.Q.length) := by rw [Hid, HL.out]; exact hql0
            obtain ⟨b3, off3, rfl, hc3⟩ := HSL.out.at_ hql0
            rw [nats_at HQL.out] at hc3
            have hat := HB.out.at_ HQL.out
            obtain ⟨a, hae⟩ : ∃ a, a = s.Q[q]?.getD 0 := ⟨_, rfl⟩
            rw [← hae] at hc3 hat
            obtain ⟨haN, hac⟩ := hat
            have HAE : Hid (s.Q[q]?.getD 0 = a) := hae.symm
            clear hae
            have HCA0 := Lib.hid hac; clear hac
            go_wp2
            go_loopw [6, 9] (fun qu bi w' => ∃ (b : Nat) (s2 : BS), b ≤ n ∧ bi = .int .i64 b ∧ Hid (rowTo (cfB o) a b s = some s2) ∧ Hid (BInv n s2) ∧ s.Q.length ≤ s2.Q.length ∧ Hid (s2.C[a]?.getD 0 ≠ 0) ∧ Hid (Ow w' w.heap.size 3 (.slice (some ⟨w.heap.size, 0, none⟩) n n) s2.C) ∧ Hid (Ow w' (w.heap.size + 1) 3 qu (nats s2.Q)) ∧ w.heap.size < w'.heap.size ∧ Below w.heap.size w w') (fun _ bi _ => n - (intOf bi).toNat)
            case atStart => exact ⟨0, s, by omega, by go_num, rfl, HB, Nat.le_refl _, HCA0, HCo, HQu, hgl0, hU⟩
            case round =>
              clear hc3
              obtain ⟨b, s2, hb, rfl, HRW, HB2, hql, HCA, HC2, HQ2, hgl2, hV⟩ := hrel
              by_cases hlb : b < n
              · by_cases hab0 : a = b
                · have g5 : ((a : Int) == b) = true := by simp; omega
                  have HVS : Hid (visit (cfB o) a b s2 = some s2) := by unfold visit; rw [Hid, if_pos (.inl hab0)]
                  have HRW' : Hid (rowTo (cfB o) a (b + 1) s = some s2) := by rw [Hid, rowTo, HRW.out]; exact HVS.out
                  clear hab0
                  go_wp2
                  go_roundw
                  case rel => exact ⟨b + 1, s2, by omega, by go_num, HRW', HB2, hql, HCA, HC2, HQ2, hgl2, hV⟩
                  case measure => simp [intOf]; omega
                · have g5 : ((a : Int) == b) = false := by simp; omega
                  obtain ⟨r, hr⟩ : ∃ r, r = cfB o (min a b) (max a b) := ⟨_, rfl⟩
                  by_cases hab : a < b
                  · have HCC : Hid (∀ W, Dr wr W → Calls Try.prog 69 #[.slice A n c, .int .i64 (a : Nat), .int .i64 (b : Nat)] W fun e w' => e = .returned (.bool r) ∧ Dr W w') := fun W hd => by
                      rw [hr, show cfB o (min a b) (max a b) = confB o a b from by rw [Nat.min_eq_left (Nat.le_of_lt hab), Nat.max_eq_right (Nat.le_of_lt hab)]; rfl]
                      exact conflict_any A n c o a b W ((HS.out.below hV (Nat.le_refl _)).dr hd) (by omega) (by omega) (by omega)
                    have HR := Lib.hid hr; clear hr
                    cases r with
                    | false =>
                      have HVS : Hid (visit (cfB o) a b s2 = some s2) := by unfold visit; rw [Hid, if_pos (.inr HR.out.symm)]
                      have HRW' : Hid (rowTo (cfB o) a (b + 1) s = some s2) := by rw [Hid, rowTo, HRW.out]; exact HVS.out
                      go_wp2_with (go_at_call 69; go_must (refine (HCC.out _ (Dr.refl _)).mono ?_); rintro e w2 ⟨rfl, hd2⟩; have hV2 := hV.trans (hd2.below _); have HC2' := Lib.hid (HC2.out.below (hd2.below _) (Nat.le_refl _)); have HQ2' := Lib.hid (HQ2.out.below (hd2.below _) (Nat.le_refl _)); have hgl3 := Nat.lt_of_lt_of_le hgl2 (hd2.below 0).size)
                      go_roundw
                      case rel => exact ⟨b + 1, s2, by omega, by go_num, HRW', HB2, hql, HCA, HC2', HQ2', hgl3, hV2⟩
                      case measure => simp [intOf]; omega
                    | true =>
                      have hcb := HC2.out.cellAt HB2.out.len hlb
                      have hca := HC2.out.cellAt HB2.out.len haN
                      have hfb := HC2.out.free HB2.out.len b
                      have hlo := HB2.out.lo a haN
                      have hhi := HB2.out.hi a haN
                      have HVT : Hid (visit (cfB o) a b s2 = if s2.C[b]?.getD 0 = s2.C[a]?.getD 0 then none else if s2.C[b]?.getD 0 = 0 then some ⟨s2.C.set b (3 - s2.C[a]?.getD 0), s2.Q ++ [b]⟩ else some s2) := by
                        unfold visit; rw [Hid, if_neg (by rw [← HR.out]; simp; omega)]
                      have HADD : Hid (s2.C[b]?.getD 0 = 0 → BInv n ⟨s2.C.set b (3 - s2.C[a]?.getD 0), s2.Q ++ [b]⟩) := fun h => HB2.out.add haN hlb HCA.out h
                      have HCA2 : Hid ((s2.C.set b (3 - s2.C[a]?.getD 0))[a]?.getD 0 ≠ 0) := by rw [Hid, List.getElem?_set_ne (by omega)]; exact HCA.out
                      have HPUT : Hid (∀ W x, Ow W w.heap.size 3 (.slice (some ⟨w.heap.size, 0, none⟩) n n) s2.C → Ow (W.setCell ⟨w.heap.size, b, none⟩ (.int .i64 x)) w.heap.size 3 (.slice (some ⟨w.heap.size, 0, none⟩) n n) (s2.C.set b x)) := fun W x h => h.put HB2.out.len b x
                      obtain ⟨x, hx⟩ : ∃ x, x = s2.C[b]?.getD 0 := ⟨_, rfl⟩
                      obtain ⟨z, hz⟩ : ∃ z, z = s2.C[a]?.getD 0 := ⟨_, rfl⟩
                      rw [← hx] at hcb HVT HADD
                      rw [← hz] at hca hlo hhi HVT HADD HCA2
                      have HX := Lib.hid hx; clear hx
                      have HZ := Lib.hid hz; clear hz
                      by_cases h1 : x = z
                      · have g1 : (x == z) = true := by simpa using h1
                        have HN : Hid (false = twoB o) := by
                          have e1 : rowTo (cfB o) a (b + 1) s = none := by rw [rowTo, HRW.out]; show visit (cfB o) a b s2 = none; rw [HVT.out, if_pos h1]
                          have e2 : rowTo (cfB o) a n s = none := rowTo_none (by omega) e1
                          have e3 : bfsTo (cfB o) n (t + 1) q s = none := by rw [bfsTo, if_pos HQL.out, HAE.out, e2]; rfl
                          have e4 : firstTo (cfB o) n (k + 1) = none := by rw [HNX2.out, HBF.out, e3]; rfl
                          have e5 : firstTo (cfB o) n n = none := firstTo_none (by omega) e4
                          rw [Hid, HTB.out, e5]; rfl
                        clear h1
                        go_wp2_with (go_at_call 69; go_must (refine (HCC.out _ (Dr.refl _)).mono ?_); rintro e w2 ⟨rfl, hd2⟩; have hV2 := hV.trans (hd2.below _); have kcb := (hd2.cell _).trans hcb; have kca := (hd2.cell _).trans hca)
                        go_quiet (fail)
                        go_wp2
                        go_ret
                        exact ⟨bend HN.out, below_dn hV2 _⟩
                      · have g1 : (x == z) = false := by simpa using h1
                        by_cases h2 : x = 0
                        · have g2 : (x == 0) = true := by simpa using h2
                          have HRW' : Hid (rowTo (cfB o) a (b + 1) s = some ⟨s2.C.set b (3 - z), s2.Q ++ [b]⟩) := by
                            rw [Hid, rowTo, HRW.out]; show visit (cfB o) a b s2 = _; rw [HVT.out, if_neg h1, if_pos h2]
                          have HBN := Lib.hid (HADD.out h2)
                          clear h1
                          have H2 := Lib.hid h2; clear h2
                          have hlenq : (nats s2.Q).length ≤ 1099511627776 := by have := HB2.out.short; rw [List.length_map]; omega
                          have HLQ := Lib.hid hlenq; clear hlenq
                          go_wp2_with (go_at_call 69; go_must (refine (HCC.out _ (Dr.refl _)).mono ?_); rintro e w2 ⟨rfl, hd2⟩; have hV2 := hV.trans (hd2.below _); have kcb := (hd2.cell _).trans hcb; have kca := (hd2.cell _).trans hca; have HC2' := Lib.hid (HC2.out.below (hd2.below _) (Nat.le_refl _)); have HQ2' := Lib.hid (HQ2.out.below (hd2.below _) (Nat.le_refl _)); have hgl3 := Nat.lt_of_lt_of_le hgl2 (hd2.below 0).size; have kfb := HC2'.out.free HB2.out.len b)
                          go_quiet (fail)
                          have HP2 := Lib.hid (HPUT.out _ (3 - z) (HC2'.out.drewN nq))
                          have HQ3 := Lib.hid ((HQ2'.out.drewN nq).setCellLow (p := ⟨w.heap.size, b, none⟩) (Nat.lt_succ_self _) (.int .i64 (3 - z)))
                          have hgl4 : w.heap.size + 1 ≤ ((w2.drewN nq).setCell ⟨w.heap.size, b, none⟩ (.int .i64 (3 - z))).heap.size := by simp; omega
                          have hV3 := (below_dn hV2 nq).setCell (p := ⟨w.heap.size, b, none⟩) (Nat.le_refl _) (.int .i64 (3 - z))
                          go_wp2_with (at_builtin; go_must (refine push_law_at _ rfl (.tmp 80) (.tmp 82) 22 rfl (w.heap.size + 1) 3 i0 Try.underlying22 HI.out _ (nats s2.Q) (b : Int) w2.heap.size (by simp) rfl rfl HQ3.out HLQ.out hgl4 ?_); intro u w3 hv3 hg3 hat3; have HV3 := Lib.hid hv3; clear hv3; have HC4 := Lib.hid (HP2.out.kept hg3 (apart_low _ (fun k e => by have := (HQ3.out.lt e).1; omega))); have hV4 := hV3.grown hg3 (Nat.le_of_lt hgl4) (fun k e => by have := (HQ3.out.lt e).1; omega); have hgl5 := Nat.lt_of_lt_of_le hgl4 hg3.size; clear hg3 hat3)
                          go_roundw
                          case rel => exact ⟨b + 1, ⟨s2.C.set b (3 - z), s2.Q ++ [b]⟩, by omega, by go_num, HRW', HBN, (by show _ ≤ (s2.Q ++ [b]).length; rw [List.length_append]; omega), HCA2, HC4, (by have h := HV3.out; rw [Hid]; show Ow _ _ _ _ (nats (s2.Q ++ [b])); rw [show nats (s2.Q ++ [b]) = nats s2.Q ++ [(b : Int)] from by simp]; exact h), hgl5, hV4⟩
                          case measure => simp [intOf]; omega
                        · have g2 : (x == 0) = false := by simpa using h2
                          have HRW' : Hid (rowTo (cfB o) a (b + 1) s = some s2) := by
                            rw [Hid, rowTo, HRW.out]; show visit (cfB o) a b s2 = _; rw [HVT.out, if_neg h1, if_neg h2]
                          clear h1 h2
                          go_wp2_with (go_at_call 69; go_must (refine (HCC.out _ (Dr.refl _)).mono ?_); rintro e w2 ⟨rfl, hd2⟩; have hV2 := hV.trans (hd2.below _); have kcb := (hd2.cell _).trans hcb; have kca := (hd2.cell _).trans hca; have HC2' := Lib.hid (HC2.out.below (hd2.below _) (Nat.le_refl _)); have HQ2' := Lib.hid (HQ2.out.below (hd2.below _) (Nat.le_refl _)); have hgl3 := Nat.lt_of_lt_of_le hgl2 (hd2.below 0).size)
                          go_quiet (fail)
                          go_wp2
                          go_roundw
                          case rel => exact ⟨b + 1, s2, by omega, by go_num, HRW', HB2, hql, HCA, HC2'.out.drewN _, HQ2'.out.drewN _, hgl3, below_dn hV2 _⟩
                          case measure => simp [intOf]; omega

                  · have hab : b < a := by omega
                    have HCC : Hid (∀ W, Dr wr W → Calls Try.prog 69 #[.slice A n c, .int .i64 (b : Nat), .int .i64 (a : Nat)] W fun e w' => e = .returned (.bool r) ∧ Dr W w') := fun W hd => by
                      rw [hr, show cfB o (min a b) (max a b) = confB o b a from by rw [Nat.min_eq_right (Nat.le_of_lt hab), Nat.max_eq_left (Nat.le_of_lt hab)]; rfl]
                      exact conflict_any A n c o b a W ((HS.out.below hV (Nat.le_refl _)).dr hd) (by omega) (by omega) (by omega)
                    have HR := Lib.hid hr; clear hr
                    cases r with
                    | false =>
                      have HVS : Hid (visit (cfB o) a b s2 = some s2) := by unfold visit; rw [Hid, if_pos (.inr HR.out.symm)]
                      have HRW' : Hid (rowTo (cfB o) a (b + 1) s = some s2) := by rw [Hid, rowTo, HRW.out]; exact HVS.out
                      go_wp2_with (go_at_call 69; go_must (refine (HCC.out _ (Dr.refl _)).mono ?_); rintro e w2 ⟨rfl, hd2⟩; have hV2 := hV.trans (hd2.below _); have HC2' := Lib.hid (HC2.out.below (hd2.below _) (Nat.le_refl _)); have HQ2' := Lib.hid (HQ2.out.below (hd2.below _) (Nat.le_refl _)); have hgl3 := Nat.lt_of_lt_of_le hgl2 (hd2.below 0).size)
                      go_roundw
                      case rel => exact ⟨b + 1, s2, by omega, by go_num, HRW', HB2, hql, HCA, HC2', HQ2', hgl3, hV2⟩
                      case measure => simp [intOf]; omega
                    | true =>
                      have hcb := HC2.out.cellAt HB2.out.len hlb
                      have hca := HC2.out.cellAt HB2.out.len haN
                      have hfb := HC2.out.free HB2.out.len b
                      have hlo := HB2.out.lo a haN
                      have hhi := HB2.out.hi a haN
                      have HVT : Hid (visit (cfB o) a b s2 = if s2.C[b]?.getD 0 = s2.C[a]?.getD 0 then none else if s2.C[b]?.getD 0 = 0 then some ⟨s2.C.set b (3 - s2.C[a]?.getD 0), s2.Q ++ [b]⟩ else some s2) := by
                        unfold visit; rw [Hid, if_neg (by rw [← HR.out]; simp; omega)]
                      have HADD : Hid (s2.C[b]?.getD 0 = 0 → BInv n ⟨s2.C.set b (3 - s2.C[a]?.getD 0), s2.Q ++ [b]⟩) := fun h => HB2.out.add haN hlb HCA.out h
                      have HCA2 : Hid ((s2.C.set b (3 - s2.C[a]?.getD 0))[a]?.getD 0 ≠ 0) := by rw [Hid, List.getElem?_set_ne (by omega)]; exact HCA.out
                      have HPUT : Hid (∀ W x, Ow W w.heap.size 3 (.slice (some ⟨w.heap.size, 0, none⟩) n n) s2.C → Ow (W.setCell ⟨w.heap.size, b, none⟩ (.int .i64 x)) w.heap.size 3 (.slice (some ⟨w.heap.size, 0, none⟩) n n) (s2.C.set b x)) := fun W x h => h.put HB2.out.len b x
                      obtain ⟨x, hx⟩ : ∃ x, x = s2.C[b]?.getD 0 := ⟨_, rfl⟩
                      obtain ⟨z, hz⟩ : ∃ z, z = s2.C[a]?.getD 0 := ⟨_, rfl⟩
                      rw [← hx] at hcb HVT HADD
                      rw [← hz] at hca hlo hhi HVT HADD HCA2
                      have HX := Lib.hid hx; clear hx
                      have HZ := Lib.hid hz; clear hz
                      by_cases h1 : x = z
                      · have g1 : (x == z) = true := by simpa using h1
                        have HN : Hid (false = twoB o) := by
                          have e1 : rowTo (cfB o) a (b + 1) s = none := by rw [rowTo, HRW.out]; show visit (cfB o) a b s2 = none; rw [HVT.out, if_pos h1]
                          have e2 : rowTo (cfB o) a n s = none := rowTo_none (by omega) e1
                          have e3 : bfsTo (cfB o) n (t + 1) q s = none := by rw [bfsTo, if_pos HQL.out, HAE.out, e2]; rfl
                          have e4 : firstTo (cfB o) n (k + 1) = none := by rw [HNX2.out, HBF.out, e3]; rfl
                          have e5 : firstTo (cfB o) n n = none := firstTo_none (by omega) e4
                          rw [Hid, HTB.out, e5]; rfl
                        clear h1
                        go_wp2_with (go_at_call 69; go_must (refine (HCC.out _ (Dr.refl _)).mono ?_); rintro e w2 ⟨rfl, hd2⟩; have hV2 := hV.trans (hd2.below _); have kcb := (hd2.cell _).trans hcb; have kca := (hd2.cell _).trans hca)
                        go_quiet (fail)
                        go_wp2
                        go_ret
                        exact ⟨bend HN.out, below_dn hV2 _⟩
                      · have g1 : (x == z) = false := by simpa using h1
                        by_cases h2 : x = 0
                        · have g2 : (x == 0) = true := by simpa using h2
                          have HRW' : Hid (rowTo (cfB o) a (b + 1) s = some ⟨s2.C.set b (3 - z), s2.Q ++ [b]⟩) := by
                            rw [Hid, rowTo, HRW.out]; show visit (cfB o) a b s2 = _; rw [HVT.out, if_neg h1, if_pos h2]
                          have HBN := Lib.hid (HADD.out h2)
                          clear h1
                          have H2 := Lib.hid h2; clear h2
                          have hlenq : (nats s2.Q).length ≤ 1099511627776 := by have := HB2.out.short; rw [List.length_map]; omega
                          have HLQ := Lib.hid hlenq; clear hlenq
                          go_wp2_with (go_at_call 69; go_must (refine (HCC.out _ (Dr.refl _)).mono ?_); rintro e w2 ⟨rfl, hd2⟩; have hV2 := hV.trans (hd2.below _); have kcb := (hd2.cell _).trans hcb; have kca := (hd2.cell _).trans hca; have HC2' := Lib.hid (HC2.out.below (hd2.below _) (Nat.le_refl _)); have HQ2' := Lib.hid (HQ2.out.below (hd2.below _) (Nat.le_refl _)); have hgl3 := Nat.lt_of_lt_of_le hgl2 (hd2.below 0).size; have kfb := HC2'.out.free HB2.out.len b)
                          go_quiet (fail)
                          have HP2 := Lib.hid (HPUT.out _ (3 - z) (HC2'.out.drewN nq))
                          have HQ3 := Lib.hid ((HQ2'.out.drewN nq).setCellLow (p := ⟨w.heap.size, b, none⟩) (Nat.lt_succ_self _) (.int .i64 (3 - z)))
                          have hgl4 : w.heap.size + 1 ≤ ((w2.drewN nq).setCell ⟨w.heap.size, b, none⟩ (.int .i64 (3 - z))).heap.size := by simp; omega
                          have hV3 := (below_dn hV2 nq).setCell (p := ⟨w.heap.size, b, none⟩) (Nat.le_refl _) (.int .i64 (3 - z))
                          go_wp2_with (at_builtin; go_must (refine push_law_at _ rfl (.tmp 80) (.tmp 82) 22 rfl (w.heap.size + 1) 3 i0 Try.underlying22 HI.out _ (nats s2.Q) (b : Int) w2.heap.size (by simp) rfl rfl HQ3.out HLQ.out hgl4 ?_); intro u w3 hv3 hg3 hat3; have HV3 := Lib.hid hv3; clear hv3; have HC4 := Lib.hid (HP2.out.kept hg3 (apart_low _ (fun k e => by have := (HQ3.out.lt e).1; omega))); have hV4 := hV3.grown hg3 (Nat.le_of_lt hgl4) (fun k e => by have := (HQ3.out.lt e).1; omega); have hgl5 := Nat.lt_of_lt_of_le hgl4 hg3.size; clear hg3 hat3)
                          go_roundw
                          case rel => exact ⟨b + 1, ⟨s2.C.set b (3 - z), s2.Q ++ [b]⟩, by omega, by go_num, HRW', HBN, (by show _ ≤ (s2.Q ++ [b]).length; rw [List.length_append]; omega), HCA2, HC4, (by have h := HV3.out; rw [Hid]; show Ow _ _ _ _ (nats (s2.Q ++ [b])); rw [show nats (s2.Q ++ [b]) = nats s2.Q ++ [(b : Int)] from by simp]; exact h), hgl5, hV4⟩
                          case measure => simp [intOf]; omega
                        · have g2 : (x == 0) = false := by simpa using h2
                          have HRW' : Hid (rowTo (cfB o) a (b + 1) s = some s2) := by
                            rw [Hid, rowTo, HRW.out]; show visit (cfB o) a b s2 = _; rw [HVT.out, if_neg h1, if_neg h2]
                          clear h1 h2
                          go_wp2_with (go_at_call 69; go_must (refine (HCC.out _ (Dr.refl _)).mono ?_); rintro e w2 ⟨rfl, hd2⟩; have hV2 := hV.trans (hd2.below _); have kcb := (hd2.cell _).trans hcb; have kca := (hd2.cell _).trans hca; have HC2' := Lib.hid (HC2.out.below (hd2.below _) (Nat.le_refl _)); have HQ2' := Lib.hid (HQ2.out.below (hd2.below _) (Nat.le_refl _)); have hgl3 := Nat.lt_of_lt_of_le hgl2 (hd2.below 0).size)
                          go_quiet (fail)
                          go_wp2
                          go_roundw
                          case rel => exact ⟨b + 1, s2, by omega, by go_num, HRW', HB2, hql, HCA, HC2'.out.drewN _, HQ2'.out.drewN _, hgl3, below_dn hV2 _⟩
                          case measure => simp [intOf]; omega

              · have HRE : Hid (rowTo (cfB o) a n s = some s2) := by rw [Hid, show n = b from by omega]; exact HRW.out
                have HBF' : Hid (bfsTo (cfB o) n (n + 1) 0 ⟨C.set k 1, [k]⟩ = bfsTo (cfB o) n t (q + 1) s2) := by
                  rw [Hid, HBF.out, bfsTo, if_pos HQL.out, HAE.out, HRE.out]; rfl
                have hq2 : q + 1 ≤ s2.Q.length := by have := HQL.out; omega
                have HQ22 := Lib.hid hq2; clear hq2
                go_wp2
                go_roundw
                case rel => exact ⟨t, q + 1, s2, HQ22.out, by omega, by go_num, HBF', HB2, HC2, HQ2, hgl2, hV⟩
                case measure => simp [intOf]; omega
          · have HE : Hid (firstTo (cfB o) n (k + 1) = some s.C) := by
              have hnl : ¬ q < s.Q.length := by rw [HL.out]; exact hql0
              rw [Hid, HNX2.out, HBF.out]
              cases t with
              | zero => rfl
              | succ t => rw [bfsTo, if_neg hnl]; rfl
            have HCI : Hid (s.C.length = n ∧ ∀ i, i < n → 0 ≤ s.C[i]?.getD 0 ∧ s.C[i]?.getD 0 ≤ 2) := ⟨HB.out.len, fun i hi => ⟨HB.out.lo i hi, HB.out.hi i hi⟩⟩
            clear htq
            go_wp2
            go_roundw
            case rel => exact ⟨k + 1, s.C, by omega, by go_num, HE, HCI, HCo, hgl0, hU⟩
            case measure => simp [intOf]; omega
      · have g0 : (ck != 0) = true := by simpa using hz
        have HNX2 : Hid (firstTo (cfB o) n (k + 1) = some C) := by rw [Hid, HNX.out, if_pos hz]
        clear hz
        go_wp2
        go_roundw
        case rel => exact ⟨k + 1, C, by omega, by go_num, HNX2, HC, HO, hgl, hW⟩
        case measure => simp [intOf]; omega
    · have hkn : k = n := by omega
      subst hkn
      have HB : Hid (true = twoB o) := by rw [Hid, HTB.out, HFT.out]; rfl
      go_wp2
      go_ret
      exact ⟨bend HB.out, hW⟩
end Go.Proofs.Ytmnnehpoaedifaa
/- Plain mathematics of layer 2: sides sort exactly if no two positions of one side are in conflict. -/
namespace Go.Proofs.Ytmnnehpoaedifaa

/-- Position c shows that a and b are in conflict. -/
def Conf (o : List Int) (a b : Nat) : Prop := a < b ∧ ∃ c, Bad o a b c
/-- What the positions on the stacks say of a state after k items. -/
structure PosJ (o d : List Int) (k : Nat) (s : S2) (p0 p1 : List Nat) : Prop where
  m0 : s.r0 = p0.map (at0 o)
  m1 : s.r1 = p1.map (at0 o)
  d0 : p0.Pairwise (fun i j => j < i)
  d1 : p1.Pairwise (fun i j => j < i)
  l0 : ∀ i ∈ p0, i < k ∧ d[i]?.getD 0 = 0
  l1 : ∀ i ∈ p1, i < k ∧ d[i]?.getD 0 ≠ 0
  gone : ∀ i, i < k → i ∈ p0 ∨ i ∈ p1 ∨ at0 o i < s.wa
theorem PosJ.pop0 {o d : List Int} {k : Nat} {s : S2} {p0 p1 : List Nat} (h : PosJ o d k s p0 p1) : ∃ q0, PosJ o d k (pop0 s) q0 p1 := by
  rcases s with ⟨r0, r1, wa⟩
  obtain ⟨m0, m1, d0, d1, l0, l1, gone⟩ := h
  cases p0 with
  | nil =>
    have : r0 = [] := m0
    subst this
    exact ⟨[], m0, m1, d0, d1, l0, l1, gone⟩
  | cons p p0 =>
    have e : r0 = at0 o p :: p0.map (at0 o) := m0
    subst e
    unfold Go.Proofs.Ytmnnehpoaedifaa.pop0
    simp only
    split
    · rename_i ht
      refine ⟨p0, rfl, m1, (List.pairwise_cons.1 d0).2, d1, fun i hi => l0 i (List.mem_cons.2 (.inr hi)), l1, fun i hi => ?_⟩
      rcases gone i hi with h | h | h
      · rcases List.mem_cons.1 h with rfl | h
        · right; right; show at0 o i < ((wa + 1 : Nat) : Int); omega
        · exact .inl h
      · exact .inr (.inl h)
      · right; right
        have h' : at0 o i < (wa : Int) := h
        show at0 o i < ((wa + 1 : Nat) : Int); omega
    · exact ⟨p :: p0, m0, m1, d0, d1, l0, l1, gone⟩
theorem PosJ.pop1 {o d : List Int} {k : Nat} {s : S2} {p0 p1 : List Nat} (h : PosJ o d k s p0 p1) : ∃ q1, PosJ o d k (pop1 s) p0 q1 := by
  rcases s with ⟨r0, r1, wa⟩
  obtain ⟨m0, m1, d0, d1, l0, l1, gone⟩ := h
  cases p1 with
  | nil =>
    have : r1 = [] := m1
    subst this
    exact ⟨[], m0, m1, d0, d1, l0, l1, gone⟩
  | cons p p1 =>
    have e : r1 = at0 o p :: p1.map (at0 o) := m1
    subst e
    unfold Go.Proofs.Ytmnnehpoaedifaa.pop1
    simp only
    split
    · rename_i ht
      refine ⟨p1, m0, rfl, d0, (List.pairwise_cons.1 d1).2, l0, fun i hi => l1 i (List.mem_cons.2 (.inr hi)), fun i hi => ?_⟩
      rcases gone i hi with h | h | h
      · exact .inl h
      · rcases List.mem_cons.1 h with rfl | h
        · right; right; show at0 o i < ((wa + 1 : Nat) : Int); omega
        · exact .inr (.inl h)
      · right; right
        have h' : at0 o i < (wa : Int) := h
        show at0 o i < ((wa + 1 : Nat) : Int); omega
    · exact ⟨p :: p1, m0, m1, d0, d1, l0, l1, gone⟩
theorem PosJ.drain {o d : List Int} {k : Nat} (t : Nat) : ∀ {s : S2} {p0 p1 : List Nat}, PosJ o d k s p0 p1 → ∃ q0 q1, PosJ o d k (drainF t s) q0 q1 := by
  induction t with
  | zero => intro s p0 p1 h; exact ⟨p0, p1, h⟩
  | succ t ih =>
    intro s p0 p1 h
    obtain ⟨q0, h1⟩ := h.pop0
    obtain ⟨q1, h2⟩ := h1.pop1
    rw [drainF]
    split
    · exact ⟨q0, q1, h2⟩
    · exact ih h2
theorem PosJ.push {o d : List Int} {k : Nat} {s : S2} {p0 p1 : List Nat} (h : PosJ o d k s p0 p1) :
    PosJ o d (k + 1) (pushS s (d[k]?.getD 0) (o[k]?.getD 0)) (if d[k]?.getD 0 = 0 then k :: p0 else p0) (if d[k]?.getD 0 = 0 then p1 else k :: p1) := by
  obtain ⟨m0, m1, d0, d1, l0, l1, gone⟩ := h
  have hlt : ∀ i, i ∈ p0 → i < k := fun i hi => (l0 i hi).1
  have hlt1 : ∀ i, i ∈ p1 → i < k := fun i hi => (l1 i hi).1
  unfold pushS
  by_cases hd : d[k]?.getD 0 = 0
  · rw [if_pos hd, if_pos hd, if_pos hd]
    refine ⟨?_, m1, List.pairwise_cons.2 ⟨fun i hi => hlt i hi, d0⟩, d1, fun i hi => ?_, fun i hi => ⟨by have := hlt1 i hi; omega, (l1 i hi).2⟩, fun i hi => ?_⟩
    · show o[k]?.getD 0 :: s.r0 = _
      rw [m0]; rfl
    · rcases List.mem_cons.1 hi with rfl | hi
      · exact ⟨by omega, hd⟩
      · exact ⟨by have := hlt i hi; omega, (l0 i hi).2⟩
    · by_cases e : i = k
      · exact .inl (by rw [e]; simp)
      · rcases gone i (by omega) with h | h | h
        · exact .inl (List.mem_cons.2 (.inr h))
        · exact .inr (.inl h)
        · exact .inr (.inr h)
  · rw [if_neg hd, if_neg hd, if_neg hd]
    refine ⟨m0, ?_, d0, List.pairwise_cons.2 ⟨fun i hi => hlt1 i hi, d1⟩, fun i hi => ⟨by have := hlt i hi; omega, (l0 i hi).2⟩, fun i hi => ?_, fun i hi => ?_⟩
    · show o[k]?.getD 0 :: s.r1 = _
      rw [m1]; rfl
    · rcases List.mem_cons.1 hi with rfl | hi
      · exact ⟨by omega, hd⟩
      · exact ⟨by have := hlt1 i hi; omega, (l1 i hi).2⟩
    · by_cases e : i = k
      · exact .inr (.inl (by rw [e]; simp))
      · rcases gone i (by omega) with h | h | h
        · exact .inl h
        · exact .inr (.inl (List.mem_cons.2 (.inr h)))
        · exact .inr (.inr h)
theorem posJ_to (o d : List Int) (k : Nat) : ∃ p0 p1, PosJ o d k (sidesTo o d k) p0 p1 := by
  induction k with
  | zero => exact ⟨[], [], rfl, rfl, by simp, by simp, by simp, by simp, fun i hi => by omega⟩
  | succ k ih =>
    obtain ⟨p0, p1, h⟩ := ih
    exact PosJ.drain _ h.push
/-- Both stacks are ascending, their tops first, from the wanted item on. -/
structure Asc2 (s : S2) : Prop where
  a0 : s.r0.Pairwise (· < ·)
  a1 : s.r1.Pairwise (· < ·)
  w0 : ∀ x ∈ s.r0, (s.wa : Int) ≤ x
  w1 : ∀ x ∈ s.r1, (s.wa : Int) ≤ x
theorem asc_of_pop0 {s : S2} (h : Asc2 (pop0 s)) : Asc2 s := by
  rcases s with ⟨r0, r1, wa⟩
  cases r0 with
  | nil => exact h
  | cons t r =>
    unfold pop0 at h
    simp only at h
    split at h
    · rename_i ht
      obtain ⟨a0, a1, w0, w1⟩ := h
      have w0' : ∀ x ∈ r, ((wa + 1 : Nat) : Int) ≤ x := w0
      have w1' : ∀ x ∈ r1, ((wa + 1 : Nat) : Int) ≤ x := w1
      refine ⟨List.pairwise_cons.2 ⟨fun x hx => by have := w0' x hx; omega, a0⟩, a1, fun x hx => ?_, fun x hx => ?_⟩
      · show (wa : Int) ≤ x
        rcases List.mem_cons.1 hx with rfl | hx
        · omega
        · have := w0' x hx; omega
      · show (wa : Int) ≤ x
        have := w1' x hx; omega
    · exact h
theorem asc_of_pop1 {s : S2} (h : Asc2 (pop1 s)) : Asc2 s := by
  rcases s with ⟨r0, r1, wa⟩
  cases r1 with
  | nil => exact h
  | cons t r =>
    unfold pop1 at h
    simp only at h
    split at h
    · rename_i ht
      obtain ⟨a0, a1, w0, w1⟩ := h
      have w1' : ∀ x ∈ r, ((wa + 1 : Nat) : Int) ≤ x := w1
      have w0' : ∀ x ∈ r0, ((wa + 1 : Nat) : Int) ≤ x := w0
      refine ⟨a0, List.pairwise_cons.2 ⟨fun x hx => by have := w1' x hx; omega, a1⟩, fun x hx => ?_, fun x hx => ?_⟩
      · show (wa : Int) ≤ x
        have := w0' x hx; omega
      · show (wa : Int) ≤ x
        rcases List.mem_cons.1 hx with rfl | hx
        · omega
        · have := w1' x hx; omega
    · exact h
theorem asc_of_drain (t : Nat) : ∀ s : S2, Asc2 (drainF t s) → Asc2 s := by
  induction t with
  | zero => intro s h; exact h
  | succ t ih =>
    intro s h
    rw [drainF] at h
    split at h
    · exact asc_of_pop0 (asc_of_pop1 h)
    · exact asc_of_pop0 (asc_of_pop1 (ih _ h))
theorem asc_of_push {s : S2} {d x : Int} (h : Asc2 (pushS s d x)) : Asc2 s := by
  unfold pushS at h
  obtain ⟨a0, a1, w0, w1⟩ := h
  split at a0
  · rename_i hd
    rw [if_pos hd] at a1 w0 w1
    exact ⟨(List.pairwise_cons.1 a0).2, a1, fun y hy => w0 y (List.mem_cons.2 (.inr hy)), w1⟩
  · rename_i hd
    rw [if_neg hd] at a1 w0 w1
    exact ⟨a0, (List.pairwise_cons.1 a1).2, w0, fun y hy => w1 y (List.mem_cons.2 (.inr hy))⟩
theorem asc_back (o d : List Int) (k j : Nat) (h : k ≤ j) (hj : Asc2 (sidesTo o d j)) : Asc2 (sidesTo o d k) := by
  induction j with
  | zero => rw [show k = 0 from by omega]; exact hj
  | succ j ih =>
    by_cases e : k = j + 1
    · rw [e]; exact hj
    · exact ih (by omega) (asc_of_push (asc_of_drain _ _ hj))
theorem desc_above {o : List Int} {a b : Nat} {l : List Nat} (h1 : l.Pairwise (fun i j => at0 o i < at0 o j)) (h2 : l.Pairwise (fun i j => j < i)) (ha : a ∈ l) (hb : b ∈ l) (hab : a < b) : at0 o b < at0 o a := by
  induction l with
  | nil => cases ha
  | cons x l ih =>
    have k1 := List.pairwise_cons.1 h1
    have k2 := List.pairwise_cons.1 h2
    rcases List.mem_cons.1 ha with ea | ha'
    · rcases List.mem_cons.1 hb with eb | hb'
      · omega
      · have := k2.1 b hb'; omega
    · rcases List.mem_cons.1 hb with eb | hb'
      · have := k1.1 a ha'; rw [eb]; exact this
      · exact ih k1.2 k2.2 ha' hb'
/-- If sides sort, positions of one side are in no conflict. -/
theorem sides_proper (o d : List Int) (h : (sidesTo o d o.length).wa = o.length + 1) (a b : Nat) (hc : Conf o a b) : ¬ (d[a]?.getD 0 = 0 ↔ d[b]?.getD 0 = 0) := by
  obtain ⟨hab, c, _, hbc, hcl, h1, h2⟩ := hc
  intro hs
  have hsum := sidesTo_sum o d o.length
  have hsz : (sidesTo o d o.length).size = 0 := by omega
  have hend : Asc2 (sidesTo o d o.length) := by
    unfold S2.size at hsz
    have e0 : (sidesTo o d o.length).r0 = [] := List.eq_nil_of_length_eq_zero (by omega)
    have e1 : (sidesTo o d o.length).r1 = [] := List.eq_nil_of_length_eq_zero (by omega)
    exact ⟨by rw [e0]; exact List.Pairwise.nil, by rw [e1]; exact List.Pairwise.nil, by rw [e0]; simp, by rw [e1]; simp⟩
  have hafter := asc_back o d (c + 1) o.length (by omega) hend
  have hpush : Asc2 (pushS (sidesTo o d c) (d[c]?.getD 0) (o[c]?.getD 0)) := asc_of_drain _ _ hafter
  obtain ⟨p0, p1, hp⟩ := posJ_to o d c
  have hq := hp.push
  have hwa : ((pushS (sidesTo o d c) (d[c]?.getD 0) (o[c]?.getD 0)).wa : Int) ≤ at0 o c := by
    by_cases hd : d[c]?.getD 0 = 0
    · refine hpush.w0 (at0 o c) ?_
      rw [hq.m0, if_pos hd]; simp
    · refine hpush.w1 (at0 o c) ?_
      rw [hq.m1, if_neg hd]; simp
  have h1' : at0 o c < at0 o a := h1
  have h2' : at0 o a < at0 o b := h2
  have s0 := hpush.a0
  have s1 := hpush.a1
  rw [hq.m0] at s0
  rw [hq.m1] at s1
  have s0' := List.pairwise_map.1 s0
  have s1' := List.pairwise_map.1 s1
  generalize (if d[c]?.getD 0 = 0 then c :: p0 else p0) = q0 at *
  generalize (if d[c]?.getD 0 = 0 then p1 else c :: p1) = q1 at *
  have ha := hq.gone a (by omega)
  have hb := hq.gone b (by omega)
  rcases ha with ha | ha | ha
  · rcases hb with hb | hb | hb
    · have := desc_above s0' hq.d0 ha hb hab; omega
    · exact absurd (hs.1 (hq.l0 a ha).2) (hq.l1 b hb).2
    · omega
  · rcases hb with hb | hb | hb
    · exact absurd (hs.2 (hq.l0 b hb).2) (hq.l1 a ha).2
    · have := desc_above s1' hq.d1 ha hb hab; omega
    · omega
  · omega
end Go.Proofs.Ytmnnehpoaedifaa
