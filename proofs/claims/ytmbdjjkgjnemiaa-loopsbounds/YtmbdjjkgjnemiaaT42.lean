import Derived.Test.YtmbdjjkgjnemiaaT40
import Derived.Test.YtmbdjjkgjnemiaaT11
import Derived.Test.YtmbdjjkgjnemiaaT41
/- Layer 6: the closure of combine; unfold at goals. -/
namespace Go.Proofs.Ytmbdjjkgjnemiaa
open Go.RowKit Go.Maps
set_option linter.unusedVariables false

set_option maxRecDepth 100000 in
set_option maxHeartbeats 6400000 in
theorem comb1_any (N : List Nd) (A : Option Addr) (n c sT : Nat) (B s5 s6 bm : Nat) (L : List Tri) (v : Value) (x : Tri) (w0 w : World) (h0 : w0.heap.size = B) (hN : Nl w0 A n c N) (hok : OkN N) (hT : w0.cell? ⟨sT, 0, none⟩ = some (.slice A n c)) (hw : Below B w0 w) (h : PlS encGl ownG 107 108 B s5 s6 bm L v w) (hx : OkG n x) (hn : n ≤ 100000) (hLn : L.length ≤ 100000) :
    Calls Try.prog 64 #[triV x, .func (.func 68) #[] #[.pointer (some ⟨s5, 0, none⟩), .pointer (some ⟨s6, 0, none⟩)], .pointer (some ⟨sT, 0, none⟩)] w fun e w' =>
      NodeQ encGl ownG 107 108 B s5 s6 bm L v w (scG N) (mkG N) x e w' := by
  have hsT : sT < B := by rw [← h0]; exact lt_of_cell hT
  have hBw : B ≤ w.heap.size := by rw [← h0]; exact hw.size
  obtain ⟨W, hW⟩ : ∃ W, W = (w.alloc (.cells #[.int .i64 (x.1 : Int), .int .i64 (x.2.1 : Int), .int .i64 (x.2.2 : Int)] 76)).alloc (.cells #[.int .i64 0, .int .i64 0, .int .i64 0] 59) := ⟨_, rfl⟩
  have hb : Below w.heap.size w W := by rw [hW]; exact ((Below.refl _ w).alloc (Nat.le_refl _) _).alloc (by simp) _
  have hg : W.heap[w.heap.size]? = some (.cells #[.int .i64 (x.1 : Int), .int .i64 (x.2.1 : Int), .int .i64 (x.2.2 : Int)] 76 (0, 0)) := by
    rw [hW]
    show ((w.heap.push _).push _)[w.heap.size]? = _
    rw [Array.getElem?_push, if_neg (by simp), Array.getElem?_push, if_pos rfl]
  have hr : W.heap[w.heap.size + 1]? = some (.cells #[.int .i64 0, .int .i64 0, .int .i64 0] 59 (0, 0)) := by
    rw [hW]
    show ((w.heap.push _).push _)[w.heap.size + 1]? = _
    rw [Array.getElem?_push, if_pos (by simp)]
  have hz : W.heap.size = w.heap.size + 2 := by rw [hW]; simp
  have hbw : Below B w0 W := hw.trans (hb.mono hBw)
  have hND := nodeG_any N A n c B s5 s6 bm L v x w0 W h0 hN hok hbw (h.below hb) hx hn hLn
  have hbox := (hbw.cell (p := ⟨sT, 0, none⟩) hsT).trans hT
  have g0 := cell_in hg (i := 0) rfl
  have g1 := cell_in hg (i := 1) rfl
  have g2 := cell_in hg (i := 2) rfl
  obtain ⟨⟨y0, y1, y2⟩, hy⟩ : ∃ y, y = mkG N x ((scG N x).map (ixK (addAll L (scG N x)))) := ⟨_, rfl⟩
  have HND : Hid (Calls Try.prog 65 #[.agg #[.int .i64 (x.1 : Int), .int .i64 (x.2.1 : Int), .int .i64 (x.2.2 : Int)], .slice A n c, .func (.func 68) #[] #[.pointer (some ⟨s5, 0, none⟩), .pointer (some ⟨s6, 0, none⟩)]] W fun e w' => ∃ v', e = .returned (.agg #[.int .i64 (y0 : Int), .int .i64 (y1 : Int), .int .i64 (y2 : Int)]) ∧ PlQ encGl ownG 107 108 B s5 s6 bm L v W (addAll L (scG N x)) v' w') := by
    refine hND.mono ?_
    rintro e w' ⟨v', rfl, q⟩
    refine ⟨v', ?_, q⟩
    show Ending.returned (ndV (mkG N x ((scG N x).map (ixK (addAll L (scG N x)))))) = _
    rw [← hy]
  have HSZ : Hid ((Try.prog.info? 59).map (·.size) = some (#[Value.int .i64 (y0 : Int), Value.int .i64 (y1 : Int), Value.int .i64 (y2 : Int)] : Array Value).size) := Try.sizeTy
  have HW := Lib.hid hW
  have HB := Lib.hid hb
  have HR := Lib.hid hr
  have HZ := Lib.hid hz
  have HPS := Lib.hid h
  have HY := Lib.hid hy
  rw [hW] at g0 g1 g2 hbox
  clear hN hok hT hw h hx hW hb hg hr hz hbw hND hy h0
  show Calls _ _ #[.agg #[.int .i64 (x.1 : Int), .int .i64 (x.2.1 : Int), .int .i64 (x.2.2 : Int)], _, _] w _
  go_enter Try.func64, Try.ntmps64
  go_wp2_with (first
    | (go_at_call 65; rw [← HW.out]; refine HND.out.mono ?_; rintro e w1 ⟨v', rfl, q⟩; have Q1 := Lib.hid q; have HR1 := Lib.hid ((PlQ.far HPS.out q HB.out.size (k := w.heap.size + 1) (Nat.le_succ _) (by rw [HZ.out]; omega)).trans HR.out); clear q g0 g1 g2 hbox)
    | (refine wpList_store_row (by rfl) 59 (.tmp 5) (.tmp 9) (by rfl) (w.heap.size + 1) _ (by rfl) (by rfl) 59 _ HR1.out HSZ.out (by rfl) (by simp [Value.oneCell']) ?_))
  refine bodyPost_ret (results_cell_row (by rfl) _ _ (w.heap.size + 1) 59 _ (0, 0) _ (by rfl) (setRow_heap _ _ _ _ _ _ HR1.out) Try.underlying59 (by rfl) HSZ.out) (by rfl) ⟨v', congrArg (fun y => Ending.returned (ndV y)) HY.out, ?_⟩
  obtain ⟨W6, hW6, _, s6', r6⟩ := row_set #[Value.int .i64 (y0 : Int), Value.int .i64 (y1 : Int), Value.int .i64 (y2 : Int)] HR1.out
  rw [← hW6]
  exact PlQ.turn HPS.out HB.out Q1.out (Nat.le_succ _) (by rw [HZ.out]; omega) s6' (r6 _ (Nat.le_refl _))
theorem Owg.one (w : World) (B : Nat) (x : Tri) (hB : B ≤ w.heap.size) : Owg (w.alloc (.cells #[.int .i64 (x.1 : Int), .int .i64 (x.2.1 : Int), .int .i64 (x.2.2 : Int)] 76)) B (.slice (some ⟨w.heap.size, 0, none⟩) 1 1) [x] := by
  have h := World.ownsRow_lit (base := B) (e := 76) (size := 3) w #[.int .i64 (x.1 : Int), .int .i64 (x.2.1 : Int), .int .i64 (x.2.2 : Int)] 1 hB (by unfold maxLen; omega) rfl
  simpa [Owg, glC] using h
theorem tg_at {L : List Tri} {m : Nat} {x : Tri} (h : L[m]? = some x) : tg L m = x := by unfold tg; rw [h]; rfl
set_option maxRecDepth 100000 in
set_option maxHeartbeats 6400000 in
theorem unfoldG_any (N : List Nd) (A : Option Addr) (n c sT : Nat) (k0 : Tri) (w : World) (hN : Nl w A n c N) (hok : OkN N) (hT : w.cell? ⟨sT, 0, none⟩ = some (.slice A n c)) (hk0 : OkG n k0) (hn : n ≤ 200) :
    Calls Try.prog 63 #[triV k0, .func (.func 64) #[] #[.pointer (some ⟨sT, 0, none⟩)]] w fun e w' =>
      (∃ u out, e = .returned u ∧ Unf (scG N) k0 (mkG N) out ∧ Ow3 w' w.heap.size u out) ∧ Below w.heap.size w w' := by
  have hmm := @run_makeMap Try.prog
  have hnn : 2 * (n * n) ≤ 80000 := by have := Nat.mul_le_mul hn hn; omega
  have HLEN : Hid (∀ m, (rch (scG N) k0 m).length ≤ 80000) := fun m => Nat.le_trans (rchG_len hN.len hok hk0 m) hnn
  have HLT : Hid (∀ m x, x ∈ rch (scG N) k0 m → OkG n x) := fun m x hx => rchG_ok hN.len hok hk0 m x hx
  obtain ⟨i0, hi, hz0, hz1, hz2⟩ := info_parts Try.infoTy
  have HI : Hid (Try.prog.info? 59 = some i0 ∧ i0.zero = some (.agg #[.int .i64 0, .int .i64 0, .int .i64 0]) ∧ i0.size = 3 ∧ i0.bytes = 24) := ⟨hi, hz0, hz1, hz2⟩
  have HNO : Hid (∀ s5 s6 bm L v x W, Below w.heap.size w W → PlS encGl ownG 107 108 w.heap.size s5 s6 bm L v W → OkG n x → L.length ≤ 100000 → Calls Try.prog 64 #[triV x, .func (.func 68) #[] #[.pointer (some ⟨s5, 0, none⟩), .pointer (some ⟨s6, 0, none⟩)], .pointer (some ⟨sT, 0, none⟩)] W fun e w' =>
      NodeQ encGl ownG 107 108 w.heap.size s5 s6 bm L v W (scG N) (mkG N) x e w') := fun s5 s6 bm L v x W hW hp hx hL => comb1_any N A n c sT w.heap.size s5 s6 bm L v x w W rfl hN hok hT hW hp hx (by omega) hL
  have htri : triOk k0 := ⟨by have := hk0.1; omega, by have := hk0.2.1; omega, by have := hk0.2.2; omega⟩
  obtain ⟨wb, hwb⟩ : ∃ W, W = w.alloc (.cells #[.int .i64 (k0.1 : Int), .int .i64 (k0.2.1 : Int), .int .i64 (k0.2.2 : Int)] 76) := ⟨_, rfl⟩
  have hbb : Below w.heap.size w wb := by rw [hwb]; exact (Below.refl _ w).alloc (Nat.le_refl _) _
  have hzb : wb.heap.size = w.heap.size + 1 := by rw [hwb]; simp
  have hrb : wb.heap[w.heap.size]? = some (.cells #[.int .i64 (k0.1 : Int), .int .i64 (k0.2.1 : Int), .int .i64 (k0.2.2 : Int)] 76 (0, 0)) := by rw [hwb]; exact heap_alloc_new _ _
  have hkm : KM encGl (wb.alloc (.map #[] 0)) 3 wb.heap.size 0 (fun _ => none) := KM.made encGl wb 3
  obtain ⟨W2, hup, hk2, hg2⟩ := run_storeK (wb.alloc (.map #[] 0)) hkm 107 Try.underlying107 (by omega) (k := k0) htri (.int .i64 0) (.int .i64 0) (plainElem_int Try.underlying3 (by decide))
  have hup : (Instr.mapUpdate 107 (.map (some (w.heap.size + 1))) (.agg #[.int .i64 (k0.1 : Int), .int .i64 (k0.2.1 : Int), .int .i64 (k0.2.2 : Int)]) (.int .i64 0)).run Try.prog (wb.alloc (.map #[] 0)) = .ok () W2 := by rw [← hzb]; exact hup
  have hzW : (wb.alloc (.map #[] 0)).heap.size = w.heap.size + 2 := by simp [hzb]
  have hzW2 := hg2.size
  have hrb1 : (wb.alloc (.map #[] 0)).heap[w.heap.size]? = some (.cells #[.int .i64 (k0.1 : Int), .int .i64 (k0.2.1 : Int), .int .i64 (k0.2.2 : Int)] 76 (0, 0)) := (((Below.refl _ wb).alloc (Nat.le_refl _) _).block _ (by omega)).trans hrb
  have hrb2 : W2.heap[w.heap.size]? = some (.cells #[.int .i64 (k0.1 : Int), .int .i64 (k0.2.1 : Int), .int .i64 (k0.2.2 : Int)] 76 (0, 0)) := (hg2.block _ (by omega) (fun e => by have e := Option.some.inj e; omega)).trans hrb1
  have a0 := cell_in hrb1 (i := 0) rfl
  have a1 := cell_in hrb1 (i := 1) rfl
  have a2 := cell_in hrb1 (i := 2) rfl
  obtain ⟨W25, hW25⟩ : ∃ W, W = W2.alloc (.cells #[.map (some (w.heap.size + 1))] 107) := ⟨_, rfl⟩
  have hb25 : Below W2.heap.size W2 W25 := by rw [hW25]; exact (Below.refl _ _).alloc (Nat.le_refl _) _
  have hz25 : W25.heap.size = W2.heap.size + 1 := by rw [hW25]; simp
  have hrb25 := (hb25.block w.heap.size (by omega)).trans hrb2
  have b0 := cell_in hrb25 (i := 0) rfl
  have b1 := cell_in hrb25 (i := 1) rfl
  have b2 := cell_in hrb25 (i := 2) rfl
  obtain ⟨W3, hW3⟩ : ∃ W, W = (W25.alloc (.cells #[.int .i64 (k0.1 : Int), .int .i64 (k0.2.1 : Int), .int .i64 (k0.2.2 : Int)] 76)).alloc (.cells #[.slice (some ⟨W2.heap.size + 1, 0, none⟩) 1 1] 108) := ⟨_, rfl⟩
  have hb3 : Below W2.heap.size W2 W3 := by rw [hW3]; exact (hb25.alloc hb25.size _).alloc (by simp; omega) _
  have hz3 : W3.heap.size = W2.heap.size + 3 := by rw [hW3]; simp [hz25]
  have hbw : Below w.heap.size w W3 := ((hbb.alloc (by omega) _).trans ⟨hg2.os, hg2.tape, hg2.output, hg2.size, fun k hk => hg2.block k (by simp [hzb]; omega) (by simp [hzb]; omega)⟩).trans (hb3.mono (by omega))
  have HU0 : Hid (UfS encGl ownG 107 108 w.heap.size W2.heap.size (W2.heap.size + 2) (w.heap.size + 1) w (scG N) (mkG N) k0 0 (.slice (some ⟨W2.heap.size + 1, 0, none⟩) 1 1) (.slice none 0 0) W3) := by
    refine ⟨⟨?_, ?_, ?_, ?_, ⟨by omega, by omega, by omega⟩, ⟨by omega, by omega, by omega⟩, fun k hk => ?_⟩, Ow3.nil _ _, fun k hk => (by cases hk), hbw, Nat.zero_le _⟩
    · rw [hW3, hW25]
      show (((W2.heap.push _).push _).push _)[W2.heap.size]? = _
      rw [Array.getElem?_push, if_neg (by simp; omega), Array.getElem?_push, if_neg (by simp), Array.getElem?_push, if_pos (by simp)]
    · rw [hW3, hW25]
      show (((W2.heap.push _).push _).push _)[W2.heap.size + 2]? = _
      rw [Array.getElem?_push, if_pos (by simp)]
    · have e : putK (fun _ => none) k0 (.int .i64 0) = idxM ([k0] : List Tri) := by
        funext y
        unfold putK idxM
        by_cases hy : y = k0
        · subst hy; rw [if_pos rfl, if_pos (by simp)]; simp
        · rw [if_neg hy, if_neg (by simpa using hy)]
      have hkk : KM encGl W2 3 (w.heap.size + 1) 1 (idxM ([k0] : List Tri)) := by rw [← e, ← hzb]; exact hk2
      exact hkk.below hb3 hkk.lt
    · show Owg W3 w.heap.size _ [k0]
      rw [hW3]
      have h1 := Owg.one W25 w.heap.size k0 (by omega)
      rw [hz25] at h1
      exact h1.alloc _
    · have hk := Option.some.inj hk
      have hk : W2.heap.size + 1 = k := hk
      exact ⟨by omega, by omega, by omega⟩
  have HW3 := Lib.hid hW3
  have HW25 := Lib.hid hW25
  have HWB := Lib.hid hwb
  have HZB := Lib.hid hzb
  have HZ : Hid (w.heap.size + 2 ≤ W2.heap.size) := by rw [Hid]; omega
  rw [hwb] at hup a0 a1 a2
  rw [hW25] at b0 b1 b2
  clear hN hok hT hk2 hg2 hzW hzW2 hb3 hz3 hbw hW3 hi hz0 hz1 hz2 hkm hrb1 hrb2 hrb hwb hzb hbb hrb25 hb25 hz25 hW25 htri hk0 hnn hn
  show Calls _ _ #[.agg #[.int .i64 (k0.1 : Int), .int .i64 (k0.2.1 : Int), .int .i64 (k0.2.2 : Int)], _] w _
  go_enter Try.func63, Try.ntmps63
  go_wp2
  rw [← HW25.out, ← HW3.out]
  have HG22 : Hid (W2.heap.size + 1 + 1 = W2.heap.size + 2) := rfl
  generalize W2.heap.size = g at *
  clear HW3 HW25 HWB HZB hup a0 a1 a2 b0 b1 b2
  go_loopw [8, 9] (fun u i w' => ∃ (m : Nat) (v : Value), i = .int .i64 (m : Int) ∧ Hid (UfS encGl ownG 107 108 w.heap.size g (g + 2) (w.heap.size + 1) w (scG N) (mkG N) k0 m v u w')) (fun _ i _ => 80001 - (intOf i).toNat)
  case atStart => exact ⟨0, _, by go_num, HU0.out⟩
  case round =>
    obtain ⟨m, v, rfl, HU⟩ := hrel
    obtain ⟨wo, rfl⟩ : ∃ wo : World, wo = wr := ⟨_, rfl⟩
    clear HU0
    obtain ⟨L, hL⟩ : ∃ L, L = rch (scG N) k0 m := ⟨_, rfl⟩
    have hpl := HU.out.pl
    rw [← hL] at hpl
    have hLn : L.length ≤ 80000 := by rw [hL]; exact HLEN.out m
    have hmL : m ≤ L.length := by rw [hL]; exact HU.out.le
    have hpos : 0 < L.length := by rw [hL]; exact List.length_pos_of_mem (rch_start _ _ m)
    have hBw : w.heap.size ≤ wo.heap.size := HU.out.bl.size
    have c6 := cell_in hpl.c6 (i := 0) rfl
    have how : Owg wo w.heap.size v L := hpl.ow
    obtain ⟨b, cap, rfl, hcap, _, hb, hcell⟩ := how.form rfl hpos
    by_cases hlt : m < L.length
    · have i1 : (m : Int) < (L.length : Int) := by omega
      obtain ⟨x, hx⟩ : ∃ x, L[m]? = some x := ⟨_, List.getElem?_eq_getElem hlt⟩
      obtain ⟨q0, q1, q2⟩ := hcell m hlt
      rw [tg_at hx] at q0 q1 q2
      have hxn : OkG n x := HLT.out m x (by rw [← hL]; exact List.mem_of_getElem? hx)
      obtain ⟨L', hL'⟩ : ∃ L', L' = addAll L (scG N x) := ⟨_, rfl⟩
      obtain ⟨⟨y0, y1, y2⟩, hy⟩ : ∃ y, y = mkG N x ((scG N x).map (ixK L')) := ⟨_, rfl⟩
      have HCA : Hid (Calls Try.prog 64 #[.agg #[.int .i64 (x.1 : Int), .int .i64 (x.2.1 : Int), .int .i64 (x.2.2 : Int)], .func (.func 68) #[] #[.pointer (some ⟨g, 0, none⟩), .pointer (some ⟨g + 1 + 1, 0, none⟩)], .pointer (some ⟨sT, 0, none⟩)] wo fun e w' =>
          ∃ v', e = .returned (.agg #[.int .i64 (y0 : Int), .int .i64 (y1 : Int), .int .i64 (y2 : Int)]) ∧ PlQ encGl ownG 107 108 w.heap.size g (g + 2) (w.heap.size + 1) L (.slice (some ⟨b, 0, none⟩) L.length cap) wo L' v' w') := by
        refine (HNO.out g (g + 2) (w.heap.size + 1) L _ x wo HU.out.bl hpl hxn (by omega)).mono ?_
        rintro e w' ⟨v', rfl, q⟩
        rw [← hL'] at q
        refine ⟨v', ?_, q⟩
        show Ending.returned (ndV (mkG N x ((scG N x).map (ixK (addAll L (scG N x)))))) = _
        rw [← hL', ← hy]
      have HX := Lib.hid hx
      have HLL := Lib.hid hL
      have HLP := Lib.hid hL'
      have HY := Lib.hid hy
      have HPL := Lib.hid hpl
      have HBW := Lib.hid hBw
      have HOL : Hid ((outL (scG N) (mkG N) L m).length ≤ 1099511627776) := by
        rw [Hid]; unfold outL; rw [List.length_map, List.length_take]; omega
      have HCL : Hid (∀ {v1 w1}, PlQ encGl ownG 107 108 w.heap.size g (g + 2) (w.heap.size + 1) L (.slice (some ⟨b, 0, none⟩) L.length cap) wo L' v1 w1 → Ow3 w1 w.heap.size u8 (outL (scG N) (mkG N) L m) ∧ ∀ k, u8.ownBlock = some k → v1.ownBlock ≠ some k) := fun {v1 w1} q => by
        have := HU.out.call (L' := L') (v' := v1) (W' := w1) (by rw [← hL]; exact q)
        rw [← hL] at this
        exact this
      generalize hn1 : L.length = ll at *
      clear hx hL hL' hy hpl how hcell hxn
      go_wp2_with (first
        | (go_at_call 64; refine HCA.out.mono ?_; rintro e w1 ⟨v1, rfl, q1⟩; have Q1 := Lib.hid q1; clear q1)
        | (at_builtin; go_must (refine push3_at _ rfl (.tmp 30) (.tmp 32) 22 rfl w.heap.size i0 Try.underlying22 HI.out _ (outL (scG N) (mkG N) L m) y0 y1 y2 _ rfl rfl (by simp) ((HCL.out Q1.out).1.alloc _) HOL.out (by have := Q1.out.t.size; simp; omega) ?_); intro u2 w2 hu2 hgr2 hat2; have HU2 := Lib.hid hu2; have HG2 := Lib.hid hgr2; have HA2 := Lib.hid hat2; clear hu2 hgr2 hat2))
      have HN' : Hid (UfS encGl ownG 107 108 w.heap.size g (g + 2) (w.heap.size + 1) w (scG N) (mkG N) k0 (m + 1) v1 u2 w2) := by
        refine HU.out.next HBW.out (x := x) (by rw [← HLL.out]; exact HX.out) (v' := v1) (u' := u2) (W' := w1) (W1 := w1.alloc (.cells #[.int .i64 (y0 : Int), .int .i64 (y1 : Int), .int .i64 (y2 : Int)] 59)) (by rw [← HLL.out, ← HLP.out]; exact Q1.out) ((Below.refl _ _).alloc (Nat.le_refl _) _) (by
          show Ow3 _ _ _ (_ ++ [mkG N x ((scG N x).map (ixK (addAll (rch (scG N) k0 m) (scG N x))))])
          rw [← HLL.out, ← HLP.out, ← HY.out]; exact HU2.out) HG2.out HA2.out
      exact ⟨⟨m + 1, v1, by go_num, HN'.out⟩, by simp [intOf]; omega⟩
    · have hmm' : m = L.length := by omega
      have i1 : ¬ (m : Int) < (L.length : Int) := by omega
      have HUF : Hid (Unf (scG N) k0 (mkG N) (outL (scG N) (mkG N) (rch (scG N) k0 m) m)) := ⟨m, by rw [← hL, hmm'], rfl⟩
      have HOW := Lib.hid HU.out.nd
      clear hcell how hmm'
      generalize L.length = ll at *
      go_wp2
      go_ret
      exact ⟨⟨u8, rfl, _, HUF.out, HOW.out⟩, HU.out.bl⟩
end Go.Proofs.Ytmbdjjkgjnemiaa
/- Layer 6: combine, Join, Meet. -/
namespace Go.Proofs.Ytmbdjjkgjnemiaa
open Go.RowKit Go.Maps
set_option linter.unusedVariables false

theorem slice_mid {W : World} {g t u : Nat} {x i j : Int} (h : W.heap[g]? = some (.cells #[.int .i64 x, .int .i64 i, .int .i64 j] t (0, 0))) : Sl W (some ⟨g, 1, none⟩) 2 2 [i, j] := by
  refine ⟨rfl, Nat.le_refl _, by omega, fun e => (by cases e), fun k hk => ⟨g, 1, rfl, ?_⟩, fun b off e _ => ?_⟩
  · match k, hk with
    | 0, _ => exact cell_in h (i := 1) rfl
    | 1, _ => exact cell_in h (i := 2) rfl
  · injection e with e
    injection e with e _
    rw [← e]
    exact (Array.getElem?_eq_some_iff.1 h).1
set_option maxRecDepth 100000 in
set_option maxHeartbeats 6400000 in
theorem comb_bad (zs : List Ty) (A : Option Addr) (n c : Nat) (u i j : Int) (w : World) (hN : Tl w A n c zs) (h : bad2 zs i j) :
    Calls Try.prog 49 #[.slice A n c, .agg #[.int .i64 u, .int .i64 i, .int .i64 j]] w fun e w' => e = .returned (.tuple #[.slice none 0 0, .int .i64 2]) ∧ Below w.heap.size w w' := by
  obtain ⟨W, hW⟩ : ∃ W, W = (w.alloc (.cells #[.slice A n c] 22)).alloc (.cells #[.int .i64 u, .int .i64 i, .int .i64 j] 76) := ⟨_, rfl⟩
  have hb : Below w.heap.size w W := by rw [hW]; exact ((Below.refl _ w).alloc (Nat.le_refl _) _).alloc (by simp) _
  have hT : W.heap[w.heap.size]? = some (.cells #[.slice A n c] 22 (0, 0)) := by
    rw [hW]
    show ((w.heap.push _).push _)[w.heap.size]? = _
    rw [Array.getElem?_push, if_neg (by simp), Array.getElem?_push, if_pos rfl]
  have hg : W.heap[w.heap.size + 1]? = some (.cells #[.int .i64 u, .int .i64 i, .int .i64 j] 76 (0, 0)) := by
    rw [hW]
    show ((w.heap.push _).push _)[w.heap.size + 1]? = _
    rw [Array.getElem?_push, if_pos (by simp)]
  have hz : W.heap.size = w.heap.size + 2 := by rw [hW]; simp
  have HCE : Hid (∀ V, Below W.heap.size W V → V.cell? ⟨w.heap.size, 0, none⟩ = some (.slice A n c)) := fun V hV => cell_in ((hV.block _ (by omega)).trans hT) (i := 0) rfl
  have HV : Hid (∀ V, Below W.heap.size W V → Calls Try.prog 40 #[.slice A n c, .slice (some ⟨w.heap.size + 1, 1, none⟩) 2 2] V fun e w' => e = .returned (.bool false) ∧ Below V.heap.size V w') := fun V hV => by
    have := valid_any A n c zs _ 2 2 [i, j] V (hN.below (hb.trans (hV.mono hb.size)) (Nat.le_refl _)) (slice_mid (u := 0) ((hV.block _ (by omega)).trans hg))
    rw [validB_is, insB_two, h] at this
    exact this
  have HB := Lib.hid hb
  have HW := Lib.hid hW
  have HK0 : Hid (Below W.heap.size W W.drew) := (Below.refl _ _).drew
  clear hW hb hT hg hz hN h
  go_enter Try.func49, Try.ntmps49
  go_wp2
  rw [← HW.out]
  go_region_held_law (fun V => V.cell? ⟨w.heap.size, 0, none⟩ = some (.slice A n c))
    (first | assumption | exact HCE.out _ HK0.out | exact HCE.out _ HK1.out)
    ((go_at_call 40; (with_reducible refine (HV.out _ HK0.out).mono ?_); rintro e w2 ⟨rfl, hb2⟩; have HK1 : Hid (Below W.heap.size W w2) := (HK0.out.trans (hb2.mono HK0.out.size)); clear hb2))
  go_wp2
  go_ret2
  exact ⟨rfl, HB.out.trans (HK1.out.mono HB.out.size)⟩
set_option maxRecDepth 100000 in
set_option maxHeartbeats 6400000 in
theorem comb_any (zs : List Ty) (A : Option Addr) (n c u i j : Nat) (w : World) (hN : Tl w A n c zs) (hv : valB zs = true) (hu : u ≤ 1) (hi : i < n) (hj : j < n) :
    Calls Try.prog 49 #[.slice A n c, .agg #[.int .i64 (u : Int), .int .i64 (i : Int), .int .i64 (j : Int)]] w fun e w' => (∃ y can, e = .returned (.tuple #[y, .int .i64 0]) ∧ GoC (toN zs) (u, i, j) can ∧ Ow3 w' w.heap.size y can) ∧ Below w.heap.size w w' := by
  have hl := hN.len
  have h24 := (valB_len hv).2
  have hNl := hN.nl hv
  have hok := valB_ok hv
  have hln := hNl.len
  have hgo : OkG n ((u, i, j) : Tri) := ⟨hu, hi, hj⟩
  obtain ⟨W, hW⟩ : ∃ W, W = (w.alloc (.cells #[.slice A n c] 22)).alloc (.cells #[.int .i64 (u : Int), .int .i64 (i : Int), .int .i64 (j : Int)] 76) := ⟨_, rfl⟩
  have hb : Below w.heap.size w W := by rw [hW]; exact ((Below.refl _ w).alloc (Nat.le_refl _) _).alloc (by simp) _
  have hT : W.heap[w.heap.size]? = some (.cells #[.slice A n c] 22 (0, 0)) := by
    rw [hW]
    show ((w.heap.push _).push _)[w.heap.size]? = _
    rw [Array.getElem?_push, if_neg (by simp), Array.getElem?_push, if_pos rfl]
  have hg : W.heap[w.heap.size + 1]? = some (.cells #[.int .i64 (u : Int), .int .i64 (i : Int), .int .i64 (j : Int)] 76 (0, 0)) := by
    rw [hW]
    show ((w.heap.push _).push _)[w.heap.size + 1]? = _
    rw [Array.getElem?_push, if_pos (by simp)]
  have hz : W.heap.size = w.heap.size + 2 := by rw [hW]; simp
  have HCE : Hid (∀ V, Below W.heap.size W V → V.cell? ⟨w.heap.size, 0, none⟩ = some (.slice A n c)) := fun V hV => cell_in ((hV.block _ (by omega)).trans hT) (i := 0) rfl
  have HCG : Hid (∀ V, Below W.heap.size W V → V.cell? ⟨w.heap.size + 1, 0, none⟩ = some (.int .i64 (u : Int)) ∧ V.cell? ⟨w.heap.size + 1, 1, none⟩ = some (.int .i64 (i : Int)) ∧ V.cell? ⟨w.heap.size + 1, 2, none⟩ = some (.int .i64 (j : Int))) := fun V hV => by
    have := (hV.block _ (by omega)).trans hg
    exact ⟨cell_in this (i := 0) rfl, cell_in this (i := 1) rfl, cell_in this (i := 2) rfl⟩
  have HV : Hid (∀ V, Below W.heap.size W V → Calls Try.prog 40 #[.slice A n c, .slice (some ⟨w.heap.size + 1, 1, none⟩) 2 2] V fun e w' => e = .returned (.bool true) ∧ Below V.heap.size V w') := fun V hV => by
    have := valid_any A n c zs _ 2 2 [(i : Int), (j : Int)] V (hN.below (hb.trans (hV.mono hb.size)) (Nat.le_refl _)) (slice_mid (u := 0) ((hV.block _ (by omega)).trans hg))
    rw [validB_is, insB_two, hv, inB_nat (by omega), inB_nat (by omega)] at this
    exact this
  have HUN : Hid (∀ V, Below W.heap.size W V → Calls Try.prog 63 #[.agg #[.int .i64 (u : Int), .int .i64 (i : Int), .int .i64 (j : Int)], .func (.func 64) #[] #[.pointer (some ⟨w.heap.size, 0, none⟩)]] V fun e w' =>
      (∃ Y m d out, e = .returned (.slice Y m d) ∧ Unf (scG (toN zs)) (u, i, j) (mkG (toN zs)) out ∧ OkN out ∧ m ≤ 100000 ∧ Nl w' Y m d out) ∧ Below V.heap.size V w') := fun V hV => by
    refine (unfoldG_any (toN zs) A n c w.heap.size (u, i, j) V (hNl.below (hb.trans (hV.mono hb.size)) (Nat.le_refl _)) hok (cell_in ((hV.block _ (by omega)).trans hT) (i := 0) rfl) hgo (by omega)).mono ?_
    rintro e w' ⟨⟨y, out, rfl, hu, ho⟩, hb⟩
    obtain ⟨L, hL⟩ := goU_of hok (g := (u, i, j)) (by rw [hln]; exact hgo) hu
    have hoo := hL.okN hok
    have hlen : out.length ≤ 100000 := by
      rw [hL.len]
      refine Nat.le_trans hL.le ?_
      have := Nat.mul_le_mul (show (toN zs).length ≤ 24 by omega) (show (toN zs).length ≤ 24 by omega)
      omega
    obtain ⟨Y, d, rfl, hnl⟩ := ho.nl (n := out.length) rfl hoo.pos (by omega)
    exact ⟨⟨Y, _, d, out, rfl, hu, hoo, hlen, hnl⟩, hb⟩
  have HB := Lib.hid hb
  have HW := Lib.hid hW
  have HZ := Lib.hid hz
  have HK0 : Hid (Below W.heap.size W W.drew) := (Below.refl _ _).drew
  clear hW hb hT hg hz hN hv hNl hok hln hgo
  go_enter Try.func49, Try.ntmps49
  go_wp2
  rw [← HW.out]
  go_region_held_law (fun V => V.cell? ⟨w.heap.size, 0, none⟩ = some (.slice A n c))
    (first | assumption | exact HCE.out _ HK0.out | exact HCE.out _ HK1.out)
    ((go_at_call 40; (with_reducible refine (HV.out _ HK0.out).mono ?_); rintro e w2 ⟨rfl, hb2⟩; have HK1 : Hid (Below W.heap.size W w2) := (HK0.out.trans (hb2.mono HK0.out.size)); clear hb2))
  obtain ⟨g0, g1, g2⟩ := HCG.out _ HK1.out
  go_wp2_with (first
    | (go_at_call 63; refine (HUN.out _ HK1.out).mono ?_; rintro e w3 ⟨⟨Y, m, d, out, rfl, hun, hoo, hm, hnl⟩, hb3⟩; have HB3 := Lib.hid (HK1.out.trans (hb3.mono HK1.out.size)); have HUF := Lib.hid hun; have HCA := Lib.hid (canonical_any out Y m d 0 w3 hnl hoo (by rw [← hnl.len]; exact hoo.pos) hm); clear hun hoo hnl hb3 hm)
    | (go_at_call 47; refine HCA.out.mono ?_; rintro e w4 ⟨⟨y, can, rfl, hca, how⟩, hb4⟩; have HCC := Lib.hid hca; have HOW := Lib.hid how; have HB4 := Lib.hid hb4; clear hca how hb4))
  go_ret2
  exact ⟨⟨y, can, rfl, ⟨out, HUF.out, HCC.out⟩, HOW.out.base (by have := HB3.out.size; have := HZ.out; omega)⟩, HB.out.trans ((HB3.out.trans (HB4.out.mono HB3.out.size)).mono HB.out.size)⟩
theorem join_bad (zs : List Ty) (A : Option Addr) (n c : Nat) (i j : Int) (w : World) (hN : Tl w A n c zs) (h : bad2 zs i j) :
    Calls Try.prog 28 #[.slice A n c, .int .i64 i, .int .i64 j] w fun e w' => e = .returned (.tuple #[.slice none 0 0, .int .i64 2]) ∧ Below w.heap.size w w' := by
  have HC := Lib.hid (comb_bad zs A n c 0 i j w hN h)
  clear hN h
  go_enter Try.func28, Try.ntmps28
  go_wp2_with (go_at_call 49; refine HC.out.mono ?_; rintro e w1 ⟨rfl, hb1⟩)
  go_ret2
  exact ⟨rfl, hb1⟩
theorem meet_bad (zs : List Ty) (A : Option Addr) (n c : Nat) (i j : Int) (w : World) (hN : Tl w A n c zs) (h : bad2 zs i j) :
    Calls Try.prog 29 #[.slice A n c, .int .i64 i, .int .i64 j] w fun e w' => e = .returned (.tuple #[.slice none 0 0, .int .i64 2]) ∧ Below w.heap.size w w' := by
  have HC := Lib.hid (comb_bad zs A n c 1 i j w hN h)
  clear hN h
  go_enter Try.func29, Try.ntmps29
  go_wp2_with (go_at_call 49; refine HC.out.mono ?_; rintro e w1 ⟨rfl, hb1⟩)
  go_ret2
  exact ⟨rfl, hb1⟩
theorem join_any (zs : List Ty) (A : Option Addr) (n c i j : Nat) (w : World) (hN : Tl w A n c zs) (hv : valB zs = true) (hi : i < n) (hj : j < n) :
    Calls Try.prog 28 #[.slice A n c, .int .i64 (i : Int), .int .i64 (j : Int)] w fun e w' => (∃ y can, e = .returned (.tuple #[y, .int .i64 0]) ∧ GoC (toN zs) (0, i, j) can ∧ Ow3 w' w.heap.size y can) ∧ Below w.heap.size w w' := by
  have HC : Hid (Calls Try.prog 49 #[.slice A n c, .agg #[.int .i64 0, .int .i64 (i : Int), .int .i64 (j : Int)]] w fun e w' => (∃ y can, e = .returned (.tuple #[y, .int .i64 0]) ∧ GoC (toN zs) (0, i, j) can ∧ Ow3 w' w.heap.size y can) ∧ Below w.heap.size w w') := comb_any zs A n c 0 i j w hN hv (Nat.zero_le _) hi hj
  clear hN hv
  go_enter Try.func28, Try.ntmps28
  go_wp2_with (go_at_call 49; refine HC.out.mono ?_; rintro e w1 ⟨⟨y, can, rfl, h1, h2⟩, hb1⟩)
  go_ret2
  exact ⟨⟨y, can, rfl, h1, h2⟩, hb1⟩
theorem meet_any (zs : List Ty) (A : Option Addr) (n c i j : Nat) (w : World) (hN : Tl w A n c zs) (hv : valB zs = true) (hi : i < n) (hj : j < n) :
    Calls Try.prog 29 #[.slice A n c, .int .i64 (i : Int), .int .i64 (j : Int)] w fun e w' => (∃ y can, e = .returned (.tuple #[y, .int .i64 0]) ∧ GoC (toN zs) (1, i, j) can ∧ Ow3 w' w.heap.size y can) ∧ Below w.heap.size w w' := by
  have HC : Hid (Calls Try.prog 49 #[.slice A n c, .agg #[.int .i64 1, .int .i64 (i : Int), .int .i64 (j : Int)]] w fun e w' => (∃ y can, e = .returned (.tuple #[y, .int .i64 0]) ∧ GoC (toN zs) (1, i, j) can ∧ Ow3 w' w.heap.size y can) ∧ Below w.heap.size w w') := comb_any zs A n c 1 i j w hN hv (Nat.le_refl _) hi hj
  clear hN hv
  go_enter Try.func29, Try.ntmps29
  go_wp2_with (go_at_call 49; refine HC.out.mono ?_; rintro e w1 ⟨⟨y, can, rfl, h1, h2⟩, hb1⟩)
  go_ret2
  exact ⟨⟨y, can, rfl, h1, h2⟩, hb1⟩
/-- At nodes of naturals. -/
theorem join_at (N : List Nd) (A : Option Addr) (n c i j : Nat) (w : World) (hN : Nl w A n c N) (hok : OkN N) (h24 : n ≤ 24) (hi : i < n) (hj : j < n) :
    Calls Try.prog 28 #[.slice A n c, .int .i64 (i : Int), .int .i64 (j : Int)] w fun e w' => (∃ Y m d can, e = .returned (.tuple #[.slice Y m d, .int .i64 0]) ∧ GoC N (0, i, j) can ∧ OkN can ∧ can.length ≤ 2 * (n * n) ∧ Nl w' Y m d can) ∧ Below w.heap.size w w' := by
  have hl := hN.len
  have h := join_any (upN N) A n c i j w (hN.tl (by omega)) (valB_up hok (by omega)) hi hj
  rw [toN_up] at h
  refine h.mono ?_
  rintro e w' ⟨⟨y, can, rfl, hg, ho⟩, hb⟩
  obtain ⟨R, _, _, hoc, _, hlen⟩ := hg.rep hok (g := (0, i, j)) ⟨Nat.zero_le _, by rw [hl]; exact hi, by rw [hl]; exact hj⟩
  rw [hl] at hlen
  have hm := Nat.mul_le_mul h24 h24
  obtain ⟨Y, d, rfl, hn⟩ := ho.nl (n := can.length) rfl hoc.pos (by omega)
  exact ⟨⟨Y, _, d, can, rfl, hg, hoc, hlen, hn⟩, hb⟩
theorem meet_at (N : List Nd) (A : Option Addr) (n c i j : Nat) (w : World) (hN : Nl w A n c N) (hok : OkN N) (h24 : n ≤ 24) (hi : i < n) (hj : j < n) :
    Calls Try.prog 29 #[.slice A n c, .int .i64 (i : Int), .int .i64 (j : Int)] w fun e w' => (∃ Y m d can, e = .returned (.tuple #[.slice Y m d, .int .i64 0]) ∧ GoC N (1, i, j) can ∧ OkN can ∧ can.length ≤ 2 * (n * n) ∧ Nl w' Y m d can) ∧ Below w.heap.size w w' := by
  have hl := hN.len
  have h := meet_any (upN N) A n c i j w (hN.tl (by omega)) (valB_up hok (by omega)) hi hj
  rw [toN_up] at h
  refine h.mono ?_
  rintro e w' ⟨⟨y, can, rfl, hg, ho⟩, hb⟩
  obtain ⟨R, _, _, hoc, _, hlen⟩ := hg.rep hok (g := (1, i, j)) ⟨Nat.le_refl _, by rw [hl]; exact hi, by rw [hl]; exact hj⟩
  rw [hl] at hlen
  have hm := Nat.mul_le_mul h24 h24
  obtain ⟨Y, d, rfl, hn⟩ := ho.nl (n := can.length) rfl hoc.pos (by omega)
  exact ⟨⟨Y, _, d, can, rfl, hg, hoc, hlen, hn⟩, hb⟩
end Go.Proofs.Ytmbdjjkgjnemiaa
