import Derived.Test.YtmbdjjkgjnemiaaT05
import Derived.Deep.DeepMust
/- Layer 6: refine, walked; alike. -/
namespace Go.Proofs.Ytmbdjjkgjnemiaa
open Go.RowKit Go.Maps
set_option linter.unusedVariables false

theorem heap_alloc_new' (w : World) (o : Obj) : (w.alloc o).heap[w.heap.size]? = some o := heap_alloc_new w o
def RefPost (N : List Nd) (n s : Nat) (e : Ending) (w' : World) : Prop := ∃ v c, e = .returned v ∧ IsCls N c ∧ Ow w' s 3 v (tabL n c)
set_option maxRecDepth 100000 in
set_option maxHeartbeats 6400000 in
theorem refine_any (N : List Nd) (A : Option Addr) (n c s : Nat) (w : World) (hN : Nl w A n c N) (hok : OkN N) (hn : n ≤ 1000000) (hb : w.cell? ⟨s, 0, none⟩ = some (.slice A n c)) (hs : s < w.heap.size) :
    Calls Try.prog 59 #[.int .i64 (n : Int), .func (.func 60) #[] #[.pointer (some ⟨s, 0, none⟩)]] w fun e w' => RefPost N n w.heap.size e w' ∧ Below w.heap.size w w' := by
  have HL : Hid (N.length = n) := hN.len
  have hpos : 1 ≤ n := by rw [← HL.out]; exact hok.pos
  have hmm := @run_makeMap Try.prog
  have HN := Lib.hid hN
  have HOK := Lib.hid hok
  have HBX := Lib.hid hb
  obtain ⟨i0, hi, hz0, hz1, hz2⟩ := info_parts Try.infoInt
  have HI : Hid (Try.prog.info? 3 = some i0 ∧ i0.zero = some (.int .i64 0) ∧ i0.size = 1 ∧ i0.bytes = 8) := ⟨hi, hz0, hz1, hz2⟩
  have HKEY : Hid (∀ k C d cl W x1 x2 x3, keyT N cl k = (x1, (x2, x3)) → k < n → Below w.heap.size w W → Sl W C n d (tabL n cl) → Calls Try.prog 60 #[.int .i64 (k : Int), .slice C n d, .pointer (some ⟨s, 0, none⟩)] W fun e w' => e = .returned (.agg #[.int .i64 (x1 : Int), .int .i64 (x2 : Int), .int .i64 (x3 : Int)]) ∧ Below W.heap.size W w') := fun k C d cl W x1 x2 x3 hx hk hW hC => by
    have := key_any N A n c k s C d cl W (HN.out.below hW (Nat.le_refl _)) HOK.out hk hC ((hW.cell (p := ⟨s, 0, none⟩) hs).trans HBX.out) (Nat.lt_of_lt_of_le hs hW.size)
    rw [hx] at this
    exact this
  have g1 : decide ((n : Int) < 0) = false := decide_eq_false (by omega)
  clear hN hok hb hi hz0 hz1 hz2
  go_enter Try.func59, Try.ntmps59
  go_wp2_with (at_make; go_must (refine make_law _ rfl (.tmp 13) (.tmp 13) 69 rfl w.heap.size 3 i0 Try.underlying69 HI.out _ _ n rfl rfl (by omega) (by omega) (by omega) (Nat.le_refl _) ?_); intro w1 ho1 hgr1; have HO1 := Lib.hid ho1; have HG1 := Lib.hid hgr1; clear ho1 hgr1)
  have HS0 : Hid (RfS N w n (fun _ => 0) 0 (.slice (some ⟨w.heap.size, 0, none⟩) n n) w1) := ⟨RfI.start N, by
    have := HO1.out
    rw [tabL_zero (fun _ => 0)] at this
    rw [show tabL n (upTo (fun _ => 0) 0) = tabL n (fun _ => 0) from tabL_congr fun i _ => by simp [upTo]] at this
    exact this, ⟨HG1.out.os, HG1.out.tape, HG1.out.output, HG1.out.size, fun k hk => HG1.out.block k hk (by simp)⟩⟩
  clear HO1 HG1
  go_wp2
  go_loopw [5, 6] (fun v mm w' => ∃ (cl : Nat → Nat) (m : Nat), mm = .int .i64 (m : Int) ∧ Hid (RfS N w n cl m v w')) (fun _ mm _ => n + 1 - (intOf mm).toNat)
  case atStart => exact ⟨_, 0, by go_num, HS0.out⟩
  case round =>
    obtain ⟨cl, m, rfl, HS⟩ := hrel
    obtain ⟨wo, rfl⟩ : ∃ wo : World, wo = wr := ⟨_, rfl⟩
    clear HS0
    obtain ⟨A5, c5, hv5, hs5⟩ := HS.out.ow.sl_len (n := n) (tabL_len _ _) (by omega)
    subst hv5
    have hmn : m ≤ n := by
      rcases HS.out.i.cnt with ⟨e, _⟩ | ⟨_, e⟩
      · omega
      · rw [e, HL.out]; exact cnt_le _ _
    have HLO : Hid (∀ b, (Value.slice A5 n c5).ownBlock = some b → b < wo.heap.size) := fun b hb => (HS.out.ow.lt hb).2
    have HBL : Hid (Below w.heap.size w (wo.alloc (.map #[] 0))) := HS.out.bl.alloc HS.out.bl.size _
    have HKM : Hid (KC encTr (wo.alloc (.map #[] 0)) 3 wo.heap.size 0 (fun _ => none)) := KC.made encTr wo 3
    have HZ : Hid (w.heap.size ≤ (wo.alloc (.map #[] 0)).heap.size) := HBL.out.size
    have hzz : (wo.alloc (.map #[] 0)).heap.size = wo.heap.size + 1 := by simp
    go_wp2_with (at_make; go_must (refine make_law _ rfl (.tmp 16) (.tmp 16) 69 rfl w.heap.size 3 i0 Try.underlying69 HI.out _ _ n rfl rfl (by omega) (by omega) (by omega) HZ.out ?_); intro w2 ho2 hgr2; have HO2 := Lib.hid ho2; have HG2 := Lib.hid hgr2; clear ho2 hgr2)
    obtain ⟨h, hh⟩ : ∃ h, h = keyT N cl := ⟨_, rfl⟩
    have HJ0 : Hid (RfJ w n h wo.heap.size 0 cl (.slice A5 n c5) w2) := by
      have hgb : Below (wo.alloc (.map #[] 0)).heap.size (wo.alloc (.map #[] 0)) w2 := ⟨HG2.out.os, HG2.out.tape, HG2.out.output, HG2.out.size, fun k hk => HG2.out.block k hk (by simp)⟩
      have hkb : Below wo.heap.size wo w2 := ((Below.refl _ wo).alloc (Nat.le_refl _) _).trans (hgb.mono (by omega))
      refine ⟨HKM.out.below hgb (by omega), ?_, HS.out.ow.below hkb (Nat.le_refl _), HLO.out, HS.out.bl.size, HBL.out.trans (hgb.mono HZ.out)⟩
      have := HO2.out
      rw [tabL_zero (fstF h)] at this
      rw [hzz] at this
      exact this
    have HH := Lib.hid hh
    have HMN : Hid (RfI N cl m) := HS.out.i
    clear hh HO2 HG2 HKM HBL HZ HLO hs5 hzz
    go_loopw [19] (fun i w' => ∃ k : Nat, k ≤ n ∧ i = .int .i64 (k : Int) ∧ Hid (RfJ w n h wo.heap.size k cl (.slice A5 n c5) w')) (fun i _ => n - (intOf i).toNat)
    case atStart => exact ⟨0, by omega, by go_num, HJ0.out⟩
    case round =>
      obtain ⟨k, hk, rfl, HJ⟩ := hrel
      obtain ⟨wi, rfl⟩ : ∃ wi : World, wi = wr := ⟨_, rfl⟩
      clear HJ0
      generalize hsb : wo.heap.size = sb at *
      by_cases hlt : k < n
      · have i1 : (k : Int) < (n : Int) := by omega
        obtain ⟨x1, x2, x3, hx⟩ : ∃ x1 x2 x3, h k = (x1, (x2, x3)) := ⟨_, _, _, rfl⟩
        have hsl : Sl wi A5 n c5 (tabL n cl) := by
          obtain ⟨A6, c6, e, hs6⟩ := HJ.out.ow.sl_len (n := n) (tabL_len _ _) (by omega)
          injection e with e1 e2 e3
          subst e1; subst e3
          exact hs6
        have HK1 := Lib.hid (HKEY.out k A5 c5 cl wi x1 x2 x3 (by rw [← HH.out]; exact hx) hlt HJ.out.bl hsl)
        have htri : triOk (h k) := by
          have hcl : ∀ i, i < n → cl i ≤ n := fun i hi => by have := HMN.out.le i (by rw [HL.out]; exact hi); omega
          have hk6 := HOK.out.kind k (by rw [HL.out]; exact hlt)
          have hka := HOK.out.a k (by rw [HL.out]; exact hlt)
          have hkb := HOK.out.b k (by rw [HL.out]; exact hlt)
          rw [HL.out] at hka hkb
          have h1 := hcl _ hka
          have h2 := hcl _ hkb
          rw [HH.out]
          unfold keyT triOk
          split
          · exact ⟨by show (nd N k).k ≤ _; omega, by show cl (nd N k).a ≤ _; omega, by show cl (nd N k).b ≤ _; omega⟩
          · exact ⟨by show (nd N k).k ≤ _; omega, Nat.zero_le _, Nat.zero_le _⟩
        obtain ⟨Z, hZ⟩ : ∃ Z : Obj, Z = .cells #[.int .i64 (x1 : Int), .int .i64 (x2 : Int), .int .i64 (x3 : Int)] 57 := ⟨_, rfl⟩
        have hkv : encTr.kv (h k) = .agg #[.int .i64 (x1 : Int), .int .i64 (x2 : Int), .int .i64 (x3 : Int)] := by rw [hx]; rfl
        have hbz : ∀ w1, Below wi.heap.size wi w1 → Below wi.heap.size wi (w1.alloc Z) := fun w1 hb => hb.alloc hb.size _
        have hcn : cntF (fstF h) k ≤ k := cnt_le _ _
        rcases hf : fndF h (h k) k with _ | j
        · have HF : Hid (∀ w1, Below wi.heap.size wi w1 → ∃ w4, (Instr.lookup 105 (.map (some sb)) (.agg #[.int .i64 (x1 : Int), .int .i64 (x2 : Int), .int .i64 (x3 : Int)]) true).run Try.prog (w1.alloc Z) = .ok (.tuple #[.int .i64 0, .bool false]) (w1.alloc Z) ∧
              (Instr.mapUpdate 105 (.map (some sb)) (.agg #[.int .i64 (x1 : Int), .int .i64 (x2 : Int), .int .i64 (x3 : Int)]) (.int .i64 (k : Int))).run Try.prog (w1.alloc Z) = .ok () w4 ∧
              (Instr.lookup 105 (.map (some sb)) (.agg #[.int .i64 (x1 : Int), .int .i64 (x2 : Int), .int .i64 (x3 : Int)]) false).run Try.prog w4 = .ok (.int .i64 (k : Int)) w4 ∧
              w4.heap[w1.heap.size]? = some Z ∧ (∃ u, w4.cell? ⟨sb + 1, k, none⟩ = some u) ∧ w4.frozen? ⟨sb + 1, k, none⟩ = false ∧ Hid (RfJ w n h sb (k + 1) cl (.slice A5 n c5) (w4.setCell ⟨sb + 1, k, none⟩ (.int .i64 (k : Int))))) := fun w1 hb1 => by
            have hj := HJ.out.below (hbz w1 hb1)
            obtain ⟨w4, hup, hk4, hg4⟩ := hj.km.store 105 Try.underlying105 (by omega) htri (by unfold fsM; rw [hf]; rfl) (.int .i64 (k : Int)) (.int .i64 (k : Int)) (plainElem_int Try.underlying3 (wfN (by omega)))
            have l1 := run_lookIk (w1.alloc Z) 105 Try.underlying105 _ _ _ hj.km.km htri 0 (by unfold fsM; rw [hf]; rfl) false (by unfold fsM; rw [hf]; rfl)
            have l2 := run_lookI w4 105 Try.underlying105 _ _ _ hk4.km htri (k : Int) (by unfold putK; rw [if_pos rfl]; rfl)
            rw [hkv] at hup l1 l2
            have hc1 : cntF (fstF h) (k + 1) = cntF (fstF h) k + 1 := by rw [cnt_succ, if_pos (fst_new hf)]
            have hk4' : KC encTr w4 3 sb (cntF (fstF h) (k + 1)) (fsM h (k + 1)) := by rw [hc1, fsM_put hf]; exact hk4
            have hput := hj.put hlt hg4 hk4'
            rw [fst_new hf] at hput
            have hfn : Ow w4 w.heap.size 3 (.slice (some ⟨sb + 1, 0, none⟩) n n) (tabL n (upTo (fstF h) k)) := hj.fn.kept (u := .slice (some ⟨sb, 0, none⟩) 0 0) hg4 (.inr (by intro e; have e : sb + 1 = sb := Option.some.inj e; omega))
            refine ⟨w4, l1, hup, l2, ?_, ⟨_, hfn.cellAt (tabL_len _ _) hlt⟩, hfn.free (tabL_len _ _) k, hput⟩
            have hne : some w1.heap.size ≠ some sb := by
              intro e
              have e : w1.heap.size = sb := Option.some.inj e
              have := HJ.out.km.lt
              have := hb1.size
              omega
            exact (hg4.block _ (by simp) hne).trans (heap_alloc_new' w1 Z)
          rw [hZ] at HF
          have HX := Lib.hid hx
          clear hx htri hkv hbz hf hsl hZ
          go_wp2_with (go_at_call 60; refine HK1.out.mono ?_; rintro e w1 ⟨rfl, hb1⟩; obtain ⟨w4, l1, l2, l3, l4, ⟨u, l5⟩, l6, l7⟩ := HF.out w1 hb1; have m0 := cell_in l4 (i := 0) rfl; have m1 := cell_in l4 (i := 1) rfl; have m2 := cell_in l4 (i := 2) rfl; clear l4 hb1)
          exact ⟨⟨k + 1, by omega, by go_num, l7⟩, by simp [intOf] <;> omega⟩
        · obtain ⟨hfj, hjk⟩ := fst_found hf
          have HF : Hid (∀ w1, Below wi.heap.size wi w1 → (Instr.lookup 105 (.map (some sb)) (.agg #[.int .i64 (x1 : Int), .int .i64 (x2 : Int), .int .i64 (x3 : Int)]) true).run Try.prog (w1.alloc Z) = .ok (.tuple #[.int .i64 (j : Int), .bool true]) (w1.alloc Z) ∧
              (Instr.lookup 105 (.map (some sb)) (.agg #[.int .i64 (x1 : Int), .int .i64 (x2 : Int), .int .i64 (x3 : Int)]) false).run Try.prog (w1.alloc Z) = .ok (.int .i64 (j : Int)) (w1.alloc Z) ∧
              (∃ u, (w1.alloc Z).cell? ⟨sb + 1, k, none⟩ = some u) ∧ (w1.alloc Z).frozen? ⟨sb + 1, k, none⟩ = false ∧ Hid (RfJ w n h sb (k + 1) cl (.slice A5 n c5) ((w1.alloc Z).setCell ⟨sb + 1, k, none⟩ (.int .i64 (j : Int))))) := fun w1 hb1 => by
            have hj := HJ.out.below (hbz w1 hb1)
            have l1 := run_lookIk (w1.alloc Z) 105 Try.underlying105 _ _ _ hj.km.km htri (j : Int) (by unfold fsM; rw [hf]; rfl) true (by unfold fsM; rw [hf]; rfl)
            have l2 := run_lookI (w1.alloc Z) 105 Try.underlying105 _ _ _ hj.km.km htri (j : Int) (by unfold fsM; rw [hf]; rfl)
            rw [hkv] at l1 l2
            have hc1 : cntF (fstF h) (k + 1) = cntF (fstF h) k := by rw [cnt_succ, if_neg (by omega)]
            have hput := hj.put hlt (World.grownBy.refl _ _) (by rw [hc1, fsM_same hf]; exact hj.km)
            rw [hfj] at hput
            exact ⟨l1, l2, ⟨_, hj.fn.cellAt (tabL_len _ _) hlt⟩, hj.fn.free (tabL_len _ _) k, hput⟩
          rw [hZ] at HF
          have HX := Lib.hid hx
          clear hx htri hkv hbz hf hsl hZ hfj
          go_wp2_with (go_at_call 60; refine HK1.out.mono ?_; rintro e w1 ⟨rfl, hb1⟩; obtain ⟨l1, l3, ⟨u, l5⟩, l6, l7⟩ := HF.out w1 hb1; clear hb1)
          exact ⟨⟨k + 1, by omega, by go_num, l7⟩, by simp [intOf] <;> omega⟩
      · have hkn : k = n := by omega
        subst hkn
        have hlen := HJ.out.km.len 105 3 Try.underlying105
        obtain ⟨m', hm'⟩ : ∃ m', m' = cntF (fstF h) k := ⟨_, rfl⟩
        rw [← hm'] at hlen
        have HST : Hid (RfI N (fstF h) m') := by rw [Hid, hm', HH.out, ← HL.out]; exact HMN.out.step HOK.out
        have hm'k : m' ≤ k := by rw [hm']; exact cnt_le _ _
        have hmm' : m ≤ m' := by have := HMN.out.grow HOK.out; rw [HL.out, ← HH.out] at this; omega
        have i1 : ¬ (k : Int) < (k : Int) := by omega
        have HOW : Hid (Ow wi w.heap.size 3 (.slice (some ⟨sb + 1, 0, none⟩) k k) (tabL k (fstF h))) := by rw [Hid, ← tabL_upTo]; exact HJ.out.fn
        by_cases he : m' = m
        · have HD : Hid (IsCls N (fstF h)) := by rw [Hid, HH.out]; exact HMN.out.done HOK.out (by rw [← he, hm', HH.out, HL.out])
          have g2 : ((m' : Int) == (m : Int)) = true := by simp; omega
          clear he hm'
          go_wp2
          go_ret
          exact ⟨⟨_, _, rfl, HD.out, HOW.out⟩, HJ.out.bl⟩
        · have g2 : ((m' : Int) == (m : Int)) = false := by simp; omega
          clear hm'
          go_wp2
          exact ⟨⟨_, m', by go_num, HST.out, HOW.out, HJ.out.bl⟩, by simp [intOf] <;> omega⟩
set_option maxHeartbeats 1600000 in
theorem alike_any (N : List Nd) (A : Option Addr) (n c : Nat) (w : World) (hN : Nl w A n c N) (hok : OkN N) (hn : n ≤ 1000000) :
    Calls Try.prog 46 #[.slice A n c] w fun e w' => RefPost N n w.heap.size e w' ∧ Below w.heap.size w w' := by
  obtain ⟨W, hW⟩ : ∃ W, W = w.alloc (.cells #[.slice A n c] 22) := ⟨_, rfl⟩
  have hb : Below w.heap.size w W := by rw [hW]; exact (Below.refl _ w).alloc (Nat.le_refl _) _
  have hc : W.cell? ⟨w.heap.size, 0, none⟩ = some (.slice A n c) := by rw [hW]; simp
  have HR := Lib.hid (refine_any N A n c w.heap.size W (hN.below hb (Nat.le_refl _)) hok hn hc (by rw [hW]; simp))
  have HB := Lib.hid hb
  have HW := Lib.hid hW
  clear hW hb hc hN hok
  go_enter Try.func46, Try.ntmps46
  go_wp2_with (go_at_call 59; rw [← HW.out]; refine HR.out.mono ?_; rintro e w1 ⟨⟨v, cc, rfl, hcc, hov⟩, hb1⟩; have HCC := Lib.hid hcc; have HOV := Lib.hid hov; have HB1 := Lib.hid hb1; clear hcc hov hb1)
  go_ret
  exact ⟨⟨v, cc, rfl, HCC.out, HOV.out.base HB.out.size⟩, HB.out.trans (HB1.out.mono HB.out.size)⟩
end Go.Proofs.Ytmbdjjkgjnemiaa
