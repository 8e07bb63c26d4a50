import Derived.Test.YtkemcmeagnggeaaT37
/- Layer 3: the reference's Free. -/
namespace Go.Proofs.Ytkemcmeagnggeaa
open Go.RowKit
set_option linter.unusedVariables false

theorem free_zero {ss : List ByteArray} {k : Nat} (h : hasS ss ByteArray.empty = true) (n : Nat) : freeL ss k n = List.replicate (n + 1) 0 := by
  unfold freeL
  have hT : ∀ j, freeT ss k j = 0 := fun j => by unfold freeT start4; rw [if_pos h]; rfl
  refine List.ext_getElem (by simp) fun i h1 h2 => ?_
  rw [List.getElem_map, List.getElem_replicate, hT]
  rfl
theorem size_zero {s : ByteArray} (h : s.toList.isEmpty = true) : s = ByteArray.empty := by
  have h1 : s.toList = [] := List.isEmpty_iff.1 h
  rw [ByteArray.toList_eq] at h1
  cases s with | mk d => have : d = #[] := Array.toList_eq_nil_iff.1 h1; rw [this]; rfl
theorem size_full3 {s : ByteArray} (h : s.toList.isEmpty = false) : s ≠ ByteArray.empty := fun e => by
  subst e
  rw [ByteArray.toList_eq] at h
  cases h
/-- What stands behind the first loop. -/
theorem free_start {ss : List ByteArray} {k : Nat} (h : hasS ss ByteArray.empty = false) (w : World) : ∀ wr, wr = ((w.alloc (.cells #[.int .i64 0, .int .i64 0, .int .i64 0, .int .i64 0] 70)).alloc (.cells #[.int .i64 1] 3)) →
    FrR ss k w wr [(((0, 0), (0, 0)), 1)] (.slice (some ⟨w.heap.size, 0, none⟩) 1 1) (.slice (some ⟨w.heap.size + 1, 0, none⟩) 1 1) (.slice none 0 0) 0 := by
  rintro wr rfl
  have hst : start4 ss = [(((0, 0), (0, 0)), 1)] := by unfold start4; rw [if_neg (by rw [h]; simp)]
  have h1 : Owq (w.alloc (.cells #[.int .i64 0, .int .i64 0, .int .i64 0, .int .i64 0] 70)) w.heap.size 70 (.slice (some ⟨w.heap.size, 0, none⟩) 1 1) [((0, 0), (0, 0))] := by
    have h := World.ownsRow_lit (base := w.heap.size) (e := 70) (size := 4) w #[.int .i64 0, .int .i64 0, .int .i64 0, .int .i64 0] 1 (Nat.le_refl _) (by unfold maxLen; omega) rfl
    simpa [Owq, stsC, st4C] using h
  have h2 : Ow ((w.alloc (.cells #[.int .i64 0, .int .i64 0, .int .i64 0, .int .i64 0] 70)).alloc (.cells #[.int .i64 1] 3)) w.heap.size 3 (.slice (some ⟨w.heap.size + 1, 0, none⟩) 1 1) [1] := by
    have h := Ow.one (w.alloc (.cells #[.int .i64 0, .int .i64 0, .int .i64 0, .int .i64 0] 70)) w.heap.size 3 1 (by simp)
    simpa using h
  exact ⟨by simp [keysL], fun p hp => (by rw [← hst] at hp; exact start_ok p hp), fun g => (by rw [hst]; rfl), by simp [sumL], h1.alloc _, h2, Ow.nil _ _ _, .inr (by simp [Value.ownBlock]), .inr (by simp [Value.ownBlock]), ((Below.refl _ w).alloc (Nat.le_refl _) _).alloc (by simp) _⟩
set_option maxRecDepth 100000 in
set_option maxHeartbeats 6400000 in
theorem freeR_any (A : Option Addr) (n c : Nat) (ss : List ByteArray) (k m : Nat) (w : World) (hs : Sls w A n c ss) (hf : famB ss = true) (hk1 : 1 ≤ k) (hk : k ≤ 4) (hm : m ≤ 30) :
    Calls Try.prog 45 #[.slice A n c, .int .i64 (k : Int), .int .i64 (m : Int)] w fun e w' => ∃ v, e = .returned v ∧ Ow w' w.heap.size 3 v (freeL ss k m) ∧ Below w.heap.size w w' := by
  have HL := Lib.hid hs.len
  have hn4 : n ≤ 4 := by rw [← hs.len]; exact famB_len hf
  have HZ := Lib.hid (famB_mem hf)
  have HS := Lib.hid hs
  obtain ⟨i0, hi, hz0, hz1, hz2⟩ := info_parts Try.infoInt
  have HI : Hid (Try.prog.info? 3 = some i0 ∧ i0.zero = some (.int .i64 0) ∧ i0.size = 1 ∧ i0.bytes = 8) := ⟨hi, hz0, hz1, hz2⟩
  obtain ⟨i4, ki, kz0, kz1, kz2⟩ := info_parts Try.infoSt
  have HI4 : Hid (Try.prog.info? 70 = some i4 ∧ i4.zero = some (.agg #[.int .i64 0, .int .i64 0, .int .i64 0, .int .i64 0]) ∧ i4.size = 4 ∧ i4.bytes = 32) := ⟨ki, kz0, kz1, kz2⟩
  clear hi hz0 hz1 hz2 ki kz0 kz1 kz2 hf hs
  go_enter Try.func45, Try.ntmps45
  go_wp2
  obtain ⟨w2, hw2⟩ : ∃ w2, w2 = ((w.alloc (.cells #[.int .i64 0, .int .i64 0, .int .i64 0, .int .i64 0] 70)).alloc (.cells #[.int .i64 1] 3)) := ⟨_, rfl⟩
  rw [← hw2]
  have HW2 := Lib.hid hw2
  have HB2 : Hid (Below w.heap.size w w2) := by rw [hw2]; exact ((Below.refl _ w).alloc (Nat.le_refl _) _).alloc (by simp) _
  have HS2 := Lib.hid (HS.out.below HB2.out (Nat.le_refl _))
  clear hw2
  go_loopw [10] (fun i w' => ∃ x : Nat, x ≤ n ∧ i = .int .i64 (x : Int) ∧ w2 = w' ∧ Hid (∀ y, y < x → ss[y]?.getD ByteArray.empty ≠ ByteArray.empty)) (fun i _ => n - (intOf i).toNat)
  case atStart => exact ⟨0, by omega, by go_num, rfl, fun y hy => absurd hy (Nat.not_lt_zero _)⟩
  case round =>
    obtain ⟨x, hx, rfl, rfl, HN⟩ := hrel
    by_cases hlt : x < n
    · obtain ⟨b, off, rfl, hc⟩ := HS2.out.rd x (by rw [HL.out]; exact hlt)
      obtain ⟨s, hs⟩ : ∃ s, s = ss[x]?.getD ByteArray.empty := ⟨_, rfl⟩
      rw [← hs] at hc
      cases hse : s.toList.isEmpty with
      | true =>
        have HH : Hid (hasS ss ByteArray.empty = true) := (hasS_at (by rw [HL.out]; exact hlt) ((size_zero hse).symm.trans hs)).symm
        clear hs
        go_wp2_with (at_make; go_must (refine make_law _ rfl (.tmp 40) (.tmp 40) 23 rfl w.heap.size 3 i0 Try.underlying23 HI.out _ _ (m + 1) rfl rfl (by omega) (by omega) (by omega) HB2.out.size ?_); intro w3 hv3 hg3; have HV3 := Lib.hid hv3; clear hv3; have HG3 := Lib.hid hg3; clear hg3)
        go_ret
        exact ⟨_, rfl, by rw [free_zero HH.out]; exact HV3.out, HB2.out.grown HG3.out HB2.out.size (fun b h => (by cases h))⟩
      | false =>
        have HN2 : Hid (∀ y, y < x + 1 → ss[y]?.getD ByteArray.empty ≠ ByteArray.empty) := fun y hy => by
          by_cases e : y = x
          · rw [e, ← hs]; exact size_full3 hse
          · exact HN.out y (by omega)
        clear hs
        go_wp2
        exact ⟨⟨x + 1, by omega, by go_num, trivial, HN2.out⟩, by simp [intOf] <;> omega⟩
    · have HNO : hasS ss ByteArray.empty = false := (hasS_none fun j hj => decide_eq_false (fun e => HN.out j (by rw [HL.out] at hj; omega) e.symm)).symm
      have HR0 := Lib.hid (free_start (k := k) HNO w w2 HW2.out)
      clear HNO HN HW2 HB2
      go_wp2
      go_loopw [7, 8, 9, 11, 12, 13, 14, 15, 16, 17, 18, 19, 20, 21, 22, 23, 24] (fun v7 v8 v9 i _ _ _ _ _ _ _ _ _ _ _ _ _ w' => ∃ (L : List (St4 × Nat)) (j : Nat), j ≤ m + 1 ∧ i = .int .i64 (j : Int) ∧ Hid (FrR ss k w w' L v7 v8 v9 j)) (fun _ _ _ i _ _ _ _ _ _ _ _ _ _ _ _ _ _ => m + 1 - (intOf i).toNat)
      case atStart => exact ⟨_, 0, by omega, by go_num, HR0⟩
      case round =>
        obtain ⟨L, j, hj, rfl, HR⟩ := hrel
        obtain ⟨w3, rfl⟩ : ∃ wo : World, wo = wr := ⟨_, rfl⟩
        clear HR0
        by_cases hjm : j < m + 1
        · obtain ⟨ln, hln⟩ : ∃ ln, L.length = ln := ⟨_, rfl⟩
          have hln2 : ln ≤ 6561 := by rw [← hln]; exact len_le HR.out.nd HR.out.ok
          obtain ⟨A8, c8, rfl, hsl8⟩ := HR.out.ct.sl_len (n := ln) (by rw [cntsL_len, hln]) (by omega)
          obtain ⟨A7, c7, rfl, hsl7⟩ := HR.out.st.sl (n := ln) (by rw [keysL_len, hln])
          have HS8 := Lib.hid hsl8
          have HP : Hid (sumL (fun _ => 1) L ≤ 4 ^ j) := HR.out.num
          have HP2 : Hid (4 ^ j ≤ 1152921504606846976) := pow30 (by omega)
          have HLN := Lib.hid hln
          clear hsl8 hsl7 hln
          go_wp2
          go_loopw [12, 13] (fun s i w' => ∃ x : Nat, x ≤ ln ∧ i = .int .i64 (x : Int) ∧ s = .int .i64 (sumL (fun _ => 1) (L.take x) : Nat) ∧ w3 = w') (fun _ i _ => ln - (intOf i).toNat)
          case atStart => exact ⟨0, by omega, by go_num, by go_num, rfl⟩
          case round =>
            obtain ⟨y, hy, rfl, rfl, rfl⟩ := hrel
            by_cases hyl : y < ln
            · obtain ⟨g, o, rfl, hc⟩ := HS8.out.rd y (by rw [cntsL_len, HLN.out]; exact hyl)
              have hyL : y < L.length := by rw [HLN.out]; exact hyl
              rw [cntsL_at hyL] at hc
              have hsum : sumL (fun _ => 1) (L.take (y + 1)) = sumL (fun _ => 1) (L.take y) + L[y].2 := by
                rw [List.take_add_one, List.getElem?_eq_getElem hyL, sumL_append]
                simp [sumL]
              have hle := sumL_take (fun _ => 1) L (y + 1)
              have hpp := HP.out
              have hp2 := HP2.out
              have HSU := Lib.hid hsum
              rw [hsum] at hle
              generalize L[y].2 = u at hc HSU hle
              generalize sumL (fun _ => 1) (L.take y) = t at HSU hle
              generalize sumL (fun _ => 1) L = T at hle hpp
              have hb : t + u ≤ 1152921504606846976 := by omega
              clear hsum hle hpp hp2
              go_wp2
              exact ⟨⟨y + 1, by omega, by go_num, (by rw [HSU.out]; simp), trivial⟩, by simp [intOf] <;> omega⟩
            · have hye : ln = y := by omega
              subst hye
              rw [show L.take ln = L from List.take_of_length_le (by rw [HLN.out]; exact Nat.le_refl _)]
              have HFT : Hid (sumL (fun _ => 1) L = freeT ss k j) := HR.out.sum _
              have hfb : freeT ss k j ≤ 1152921504606846976 := by rw [← HFT.out]; exact Nat.le_trans HP.out HP2.out
              have HFM : Hid (freeM ss k (j + 1) = freeM ss k j ++ [(freeT ss k j : Int)]) := freeM_succ ss k j
              rw [HFT.out]
              have HML : Hid ((freeM ss k j).length ≤ 1099511627776) := by rw [Hid, freeM_len]; omega
              have HSZ : Hid (w.heap.size ≤ w3.heap.size) := HR.out.bl.size
              go_wp2_with (first | (at_builtin; go_must (refine push_law _ rfl (.tmp 59) (.tmp 61) 23 rfl w.heap.size 3 i0 Try.underlying23 HI.out _ (freeM ss k j) (freeT ss k j : Nat) rfl rfl HR.out.out HML.out HSZ.out ?_); intro v9' w4 hv4 hg4 hat4; have HG := Lib.hid (HR.out.gather (by rw [HFM.out]; exact hv4) hg4); have HS7 := Lib.hid (HG.out.states HLN.out); clear hv4 hg4 hat4) | (at_make; go_must (refine make_law _ rfl (.const (.int .i64 6561)) (.const (.int .i64 6561)) 23 rfl w4.heap.size 3 i0 Try.underlying23 HI.out _ _ 6561 rfl rfl (by omega) (by omega) (by omega) (Nat.le_refl _) ?_); intro w5 hv5 hg5; have HQ0 : Hid (FqI w4 w5 w4.heap.size (keysL []) (cntsL []) (keysL []) (.slice none 0 0) (.slice none 0 0)) := ⟨Owq.nil _ _ _, Ow.nil _ _ _, ⟨_, IxT.zero, hv5⟩, .inl rfl, (by simp [Value.ownBlock]), (by simp [Value.ownBlock]), (Below.refl _ _).grown hg5 (Nat.le_refl _) (fun b h => (by cases h))⟩; clear hv5 hg5))
              obtain ⟨g16, hg16⟩ : ∃ g, g = w4.heap.size := ⟨_, rfl⟩
              rw [← hg16] at HQ0
              simp only [← hg16]
              clear hg16
              go_loopw [14, 15, 17, 18, 19, 20, 21, 22, 23, 24] (fun v14 v15 q _ _ _ _ _ _ _ w' => ∃ (N : List (St4 × Nat)) (y : Nat), y ≤ ln ∧ q = .int .i64 (y : Int) ∧ Hid (GaN ss k L y 0 N) ∧ Hid (FqI w4 w' g16 (keysL N) (cntsL N) (keysL N) v14 v15)) (fun _ _ q _ _ _ _ _ _ _ _ => ln - (intOf q).toNat)
              case atStart => exact ⟨[], 0, by omega, by go_num, GaN.zero ss k L, HQ0⟩
              case round =>
                obtain ⟨N, y, hy, rfl, HGA, HQ⟩ := hrel
                clear HQ0
                by_cases hyl : y < ln
                · go_wp2
                  go_loopw [14, 15, 18, 19, 20, 21, 22, 23, 24] (fun v14 v15 c _ _ _ _ _ _ w' => ∃ (N : List (St4 × Nat)) (z : Nat), z ≤ k ∧ c = .int .i64 (z : Int) ∧ Hid (GaN ss k L y z N) ∧ Hid (FqI w4 w' g16 (keysL N) (cntsL N) (keysL N) v14 v15)) (fun _ _ c _ _ _ _ _ _ _ => k - (intOf c).toNat)
                  case atStart => exact ⟨N, 0, by omega, by go_num, HGA, HQ⟩
                  case round =>
                    clear HQ HGA
                    obtain ⟨N, z, hz, rfl, HGA, HQ⟩ := hrel
                    obtain ⟨wz, rfl⟩ : ∃ wo : World, wo = wr := ⟨_, rfl⟩
                    by_cases hzk : z < k
                    · have hyL : y < L.length := by rw [HLN.out]; exact hyl
                      obtain ⟨g7, rfl, hg7, c0, c1, c2, c3⟩ := HS7.out y hyL
                      have hbl : Below w4.heap.size w4 wz := HQ.out.bl
                      have c0 := (hbl.cell (p := ⟨g7, y * 4, none⟩) hg7).trans c0
                      have c1 := (hbl.cell (p := ⟨g7, y * 4 + 1, none⟩) hg7).trans c1
                      have c2 := (hbl.cell (p := ⟨g7, y * 4 + 2, none⟩) hg7).trans c2
                      have c3 := (hbl.cell (p := ⟨g7, y * 4 + 3, none⟩) hg7).trans c3
                      have hok := HG.out.ok _ (List.getElem_mem hyL)
                      have HST0 : Hid (stepS ss L[y].1 z = (advF ss (getS L[y].1) (97 + (z : Int))).map mkS) := rfl
                      have HFN : Hid (∀ i, i < n → getS L[y].1 i < memN ss i) := fun i hi => hok.1 i (by rw [HL.out]; exact hi)
                      have HF8 : Hid (∀ i, getS L[y].1 i ≤ 8) := hok.2
                      have HOK : Hid (∀ f', advF ss (getS L[y].1) (97 + (z : Int)) = some f' → okS ss (mkS f')) := fun f' hf' => hok.step (by rw [HL.out]; exact hn4) HZ.out hf'
                      go_wp2
                      obtain ⟨w6, hw6⟩ : ∃ w6, w6 = wz.alloc (.cells #[.int .i64 (L[y].1.1.1 : Int), .int .i64 (L[y].1.1.2 : Int), .int .i64 (L[y].1.2.1 : Int), .int .i64 (L[y].1.2.2 : Int)] 70) := ⟨_, rfl⟩
                      rw [← hw6]
                      have HB6 : Hid (Below wz.heap.size wz w6) := by rw [hw6]; exact (Below.refl _ _).alloc (Nat.le_refl _) _
                      have HRW : Hid (Rw w6 wz.heap.size 70 4 (fun i => (getS L[y].1 i : Int))) := by rw [hw6]; have h4 := Rw.new wz 70 4 (fun i => (getS L[y].1 i : Int)); rw [rowV_four] at h4; exact h4
                      have HBW : Hid (Below w.heap.size w wz) := HG.out.bl.trans (HQ.out.bl.mono HG.out.bl.size)
                      generalize getS L[y].1 = f at HST0 HFN HF8 HRW HOK
                      clear hw6 c0 c1 c2 c3 hok hbl
                      obtain ⟨cc, hcc⟩ : ∃ cc : Int, cc = 97 + (z : Int) := ⟨_, rfl⟩
                      rw [← hcc] at HST0 HOK
                      have HCC := Lib.hid hcc
                      clear hcc
                      obtain ⟨sb, hsb⟩ : ∃ sb, sb = wz.heap.size := ⟨_, rfl⟩
                      rw [← hsb] at HRW
                      simp only [← hsb]
                      have HSB := Lib.hid hsb
                      clear hsb
                      go_loopw [20, 21] (fun q i w' => ∃ x : Nat, x ≤ n ∧ i = .int .i64 (x : Int) ∧ q = .bool (advR ss f cc x).2 ∧ Hid (Rw w' sb 70 4 (fun i => ((advR ss f cc x).1 i : Int))) ∧ Hid (Below wz.heap.size wz w')) (fun _ i _ => n - (intOf i).toNat)
                      case atStart => exact ⟨0, by omega, by go_num, rfl, HRW, HB6⟩
                      case round =>
                        obtain ⟨x, hx, rfl, rfl, HR2, HB7⟩ := hrel
                        clear HRW HB6
                        obtain ⟨wi, rfl⟩ : ∃ wo : World, wo = wr := ⟨_, rfl⟩
                        by_cases hxn : x < n
                        · have hbw : Below w.heap.size w wi := HBW.out.trans (HB7.out.mono HBW.out.size)
                          obtain ⟨b, off, rfl, hc⟩ := (HS.out.below hbw (Nat.le_refl _)).rd x (by rw [HL.out]; exact hxn)
                          have hb1 : b < wi.heap.size := lt_of_cell hc
                          have hb0 : b < w.heap.size := HS.out.old b off rfl (by omega)
                          have hsb1 : sb < wi.heap.size := HR2.out.lt
                          have hcell := HR2.out.cell (i := x) (by omega)
                          have hfr := HR2.out.free x
                          have hfar := advR_far ss f cc x x (Nat.le_refl _)
                          have hlt := HFN.out x hxn
                          have hz8 := HZ.out x
                          have hm' : memN ss x = (ss[x]?.getD ByteArray.empty).size := rfl
                          have hmb : ∀ p, memB ss x p = (bs (ss[x]?.getD ByteArray.empty))[p]?.getD 0 := fun _ => rfl
                          have HSU : Hid (advR ss f cc (x + 1) = (advN ss (advR ss f cc x).1 cc x, (advR ss f cc x).2 || decide (advN ss (advR ss f cc x).1 cc x x = memN ss x))) := rfl
                          have HAN : Hid (advN ss (advR ss f cc x).1 cc x = if memB ss x ((advR ss f cc x).1 x) = cc then updN (advR ss f cc x).1 x ((advR ss f cc x).1 x + 1) else (advR ss f cc x).1) := rfl
                          rw [hm'] at HSU hlt hz8
                          rw [hmb] at HAN
                          obtain ⟨s, hs⟩ : ∃ s, s = ss[x]?.getD ByteArray.empty := ⟨_, rfl⟩
                          rw [← hs] at hc HSU HAN hlt hz8
                          generalize (advR ss f cc x).1 = h at *
                          generalize (advR ss f cc x).2 = bq at *
                          rw [← hfar] at hlt
                          rw [bs_at s (h x) hlt] at HAN
                          obtain ⟨b8, hb8⟩ : ∃ b8 : Nat, b8 = s[h x].toNat := ⟨_, rfl⟩
                          rw [← hb8] at HAN
                          obtain ⟨q, hq⟩ : ∃ q, q = h x := ⟨_, rfl⟩
                          have HQQ := Lib.hid hq
                          simp only [← hq] at hcell hlt HAN
                          have hbq : (s[q]'hlt).toNat = b8 := by subst hq; exact hb8.symm
                          have hb256 : b8 < 256 := by rw [hb8]; exact s[h x].toNat_lt
                          clear hs hq hb8 hm' hmb hfar
                          have hq0 : (q : Int) < (s.size : Int) := by omega
                          have hx4 : (x : Int) < 4 := by omega
                          have HC2 : Hid (∀ W, Below wi.heap.size wi W → W.cell? ⟨b, off + x, none⟩ = some (.string s) ∧ W.cell? ⟨sb, x, none⟩ = some (.int .i64 (q : Int))) := fun W hb => ⟨(hb.cell (p := ⟨b, off + x, none⟩) hb1).trans hc, (hb.cell (p := ⟨sb, x, none⟩) hsb1).trans hcell⟩
                          have HK0 : Hid (Below wi.heap.size wi wi.drew) := (Below.refl _ _).drew
                          have hcw : IntKind.i64.wrap (97 + (z : Int)) = cc := by rw [HCC.out]; exact IntWalk.i64_in _ (by omega)
                          go_wp2
                          go_region_held_law (fun W => W.cell? ⟨b, off + x, none⟩ = some (.string s) ∧ W.cell? ⟨sb, x, none⟩ = some (.int .i64 (q : Int)))
                            (first | assumption | exact HC2.out _ HK0.out)
                            (fail)
                          have hcu : IntKind.u8.wrap cc = cc := IntWalk.u8_in _ (by have := HCC.out; omega)
                          have HB8 : Hid (Below wz.heap.size wz wi.drew) := HB7.out.drew
                          have HR8 : Hid (Rw wi.drew sb 70 4 (fun i => (h i : Int))) := HR2.out
                          obtain ⟨hs9, hc9⟩ := HC2.out _ HK0.out
                          clear HC2 HK0 HB7 HR2 hc hcell hfr hcw hb256
                          obtain ⟨wj, hwj⟩ : ∃ wj, wj = wi.drew := ⟨_, rfl⟩
                          have hjs : wi.heap.size = wj.heap.size := by rw [hwj]; rfl
                          rw [← hwj] at HB8 HR8 hs9 hc9
                          rw [← hwj]
                          rw [hjs] at hb1 hsb1
                          clear hwj hjs
                          by_cases e : (b8 : Int) = cc
                          · have ge : ((b8 : Int) == IntKind.u8.wrap cc) = true := by rw [hcu]; simpa using e
                            rw [if_pos e] at HAN
                            rw [HAN.out, updN_same] at HSU
                            have hf9 := HR8.out.free x
                            have HRN : Hid (Rw (wj.setCell ⟨sb, x, none⟩ (.int .i64 ((q : Int) + 1))) sb 70 4 (fun i => (updN h x (q + 1) i : Int))) := (HR8.out.set (i := x) _).congr fun i _ => by unfold upd updN; split <;> simp
                            have HBN : Hid (Below wz.heap.size wz (wj.setCell ⟨sb, x, none⟩ (.int .i64 ((q : Int) + 1)))) := HB8.out.setCell (p := ⟨sb, x, none⟩) (by rw [HSB.out]; exact Nat.le_refl _) _
                            have hsw : w.heap.size ≤ sb := by rw [HSB.out]; exact HBW.out.size
                            have hs10 : (wj.setCell ⟨sb, x, none⟩ (.int .i64 ((q : Int) + 1))).cell? ⟨b, off + x, none⟩ = some (.string s) := (Tn.set (p := ⟨sb, x, none⟩) (T := fun b => b = sb) (Tn.refl wj _) (fun _ => rfl) _).cell hs9 (by show ¬ b = sb; omega)
                            have hc10 : (wj.setCell ⟨sb, x, none⟩ (.int .i64 ((q : Int) + 1))).cell? ⟨sb, x, none⟩ = some (.int .i64 ((q : Int) + 1)) := by
                              have := HRN.out.cell (i := x) (by omega)
                              rw [this]; simp [updN]
                            have hb9 : b < (wj.setCell ⟨sb, x, none⟩ (.int .i64 ((q : Int) + 1))).heap.size := by have h1 := HBN.out.size; have h2 := HBW.out.size; omega
                            have hsb9 : sb < (wj.setCell ⟨sb, x, none⟩ (.int .i64 ((q : Int) + 1))).heap.size := HRN.out.lt
                            simp only [ge]
                            clear ge e hcu HAN HB8 HR8 hbq
                            go_wp2
                            clear hf9 hs9 hc9
                            obtain ⟨W9, hW9⟩ : ∃ W9, W9 = wj.setCell ⟨sb, x, none⟩ (.int .i64 ((q : Int) + 1)) := ⟨_, rfl⟩
                            rw [← hW9] at HRN HBN hs10 hc10 hb9 hsb9
                            rw [← hW9]
                            clear hW9
                            have HK9 : Hid (Below W9.heap.size W9 W9.drew) := (Below.refl _ _).drew
                            have HBD : Hid (Below wz.heap.size wz W9) := HBN.out
                            have HRD : Hid (Rw W9.drew sb 70 4 (fun i => (updN h x (q + 1) i : Int))) := HRN.out
                            have HC3 : Hid (∀ W, Below W9.heap.size W9 W → W.cell? ⟨b, off + x, none⟩ = some (.string s) ∧ W.cell? ⟨sb, x, none⟩ = some (.int .i64 ((q : Int) + 1))) := fun W hb => ⟨(hb.cell (p := ⟨b, off + x, none⟩) hb9).trans hs10, (hb.cell (p := ⟨sb, x, none⟩) hsb9).trans hc10⟩
                            clear HRN HBN
                            cases bq with
                            | true =>
                              have HSV : Hid ((advR ss f cc (x + 1)).2 = true ∧ (advR ss f cc (x + 1)).1 = updN h x (q + 1)) := by rw [Hid, HSU.out]; exact ⟨rfl, rfl⟩
                              clear HSU
                              go_quiet (fail)
                              clear hs10 hc10 HC3 hb9 hsb9
                              go_wp2
                              exact ⟨⟨x + 1, by omega, by go_num, by rw [HSV.out.1], by rw [HSV.out.2]; exact HRD.out, below_dn HBD.out _⟩, by simp [intOf] <;> omega⟩
                            | false =>
                              by_cases e2 : q + 1 = s.size
                              · have g1 : ((q : Int) + 1 == (s.size : Int)) = true := by simpa using (by omega : (q : Int) + 1 = (s.size : Int))
                                have HSV : Hid ((advR ss f cc (x + 1)).2 = true ∧ (advR ss f cc (x + 1)).1 = updN h x (q + 1)) := by rw [Hid, HSU.out]; exact ⟨by rw [decide_eq_true e2]; rfl, rfl⟩
                                clear HSU e2
                                go_quiet (fail)
                                clear hs10 hc10 HC3 hb9 hsb9 g1
                                go_wp2
                                exact ⟨⟨x + 1, by omega, by go_num, by rw [HSV.out.1], by rw [HSV.out.2]; exact HRD.out, below_dn HBD.out _⟩, by simp [intOf] <;> omega⟩
                              · have g1 : ((q : Int) + 1 == (s.size : Int)) = false := by simpa using (by omega : ¬ (q : Int) + 1 = (s.size : Int))
                                have HSV : Hid ((advR ss f cc (x + 1)).2 = false ∧ (advR ss f cc (x + 1)).1 = updN h x (q + 1)) := by rw [Hid, HSU.out]; exact ⟨by rw [decide_eq_false e2]; rfl, rfl⟩
                                clear HSU e2
                                go_quiet (fail)
                                clear hs10 hc10 HC3 hb9 hsb9 g1
                                go_wp2
                                exact ⟨⟨x + 1, by omega, by go_num, by rw [HSV.out.1], by rw [HSV.out.2]; exact HRD.out, below_dn HBD.out _⟩, by simp [intOf] <;> omega⟩
                          · have ge : ((b8 : Int) == IntKind.u8.wrap cc) = false := by rw [hcu]; simpa using e
                            rw [if_neg e] at HAN
                            rw [HAN.out, ← HQQ.out, decide_eq_false (p := q = s.size) (by omega), Bool.or_false] at HSU
                            have HSV : Hid ((advR ss f cc (x + 1)).2 = bq ∧ (advR ss f cc (x + 1)).1 = h) := by rw [Hid, HSU.out]; exact ⟨rfl, rfl⟩
                            have g1 : ((q : Int) == (s.size : Int)) = false := by simpa using (by omega : ¬ (q : Int) = (s.size : Int))
                            have HBD : Hid (Below wz.heap.size wz wj) := HB8.out
                            have HRD : Hid (Rw wj.drew sb 70 4 (fun i => (h i : Int))) := HR8.out
                            simp only [ge]
                            clear ge e hcu HAN HSU hbq HB8 HR8
                            go_wp2
                            cases bq with
                            | true =>
                              go_quiet (fail)
                              clear hs9 hc9 hb1 hsb1 g1
                              go_wp2
                              exact ⟨⟨x + 1, by omega, by go_num, by rw [HSV.out.1], by rw [HSV.out.2]; exact HRD.out, below_dn HBD.out _⟩, by simp [intOf] <;> omega⟩
                            | false =>
                              go_quiet (fail)
                              clear hs9 hc9 hb1 hsb1 g1
                              go_wp2
                              exact ⟨⟨x + 1, by omega, by go_num, by rw [HSV.out.1], by rw [HSV.out.2]; exact HRD.out, below_dn HBD.out _⟩, by simp [intOf] <;> omega⟩
                        · have hxe : x = n := by omega
                          have HADV : Hid (stepS ss L[y].1 z = if (advR ss f cc n).2 = true then none else some (mkS (advR ss f cc n).1)) := by
                            have h1 := advR_is (ss := ss) (f := f) (c := cc) (fun i hi => HFN.out i (by rw [← HL.out]; exact hi)) ss.length (Nat.le_refl _)
                            rw [Hid, HST0.out]
                            unfold advF
                            rw [h1, HL.out]
                            split <;> rfl
                          have HLE : Hid (∀ i, (advR ss f cc n).1 i ≤ 8) := advR_le (fun i hi => HFN.out i (by rw [← HL.out]; exact hi)) HZ.out HF8.out n (by rw [HL.out]; exact Nat.le_refl _)
                          have HOT : Hid (∀ t, stepS ss L[y].1 z = some t → okS ss t) := fun t ht => by
                            have h1 := HST0.out
                            rw [ht] at h1
                            obtain ⟨f', hf', e⟩ := Option.map_eq_some_iff.1 h1.symm
                            rw [← e]
                            exact HOK.out f' hf'
                          rw [hxe] at HR2
                          rw [hxe]
                          clear hxe
                          generalize (advR ss f cc n).1 = h at HADV HLE HR2
                          generalize (advR ss f cc n).2 = bq at HADV
                          cases bq with
                          | true =>
                            rw [if_pos rfl] at HADV
                            have HGA2 : Hid (GaN ss k L y (z + 1) N) := HGA.out.skip hyL HADV.out
                            have HQ2 : Hid (FqI w4 wi g16 (keysL N) (cntsL N) (keysL N) _ _) := HQ.out.mono HB7.out
                            go_wp2
                            exact ⟨⟨N, z + 1, by omega, by go_num, HGA2.out, HQ2.out⟩, by simp [intOf] <;> omega⟩
                          | false =>
                            rw [if_neg (by simp)] at HADV
                            have HOT2 := Lib.hid (HOT.out _ HADV.out)
                            have HT8 : Hid (st8 (mkS h)) := mkS_eight HLE.out
                            have HQ2 := Lib.hid (HQ.out.mono HB7.out)
                            have HGA2 := Lib.hid (HGA.out.add hyL HADV.out HOT2.out)
                            clear HQ HST0 HFN HF8 HOK HOT
                            go_wp2
                            go_loopw [22, 23] (fun c i w' => ∃ x : Nat, x ≤ 4 ∧ i = .int .i64 (x : Int) ∧ c = .int .i64 (codeTo h x : Nat) ∧ wi = w') (fun _ i _ => 4 - (intOf i).toNat)
                            case atStart => exact ⟨0, by omega, by go_num, by go_num, rfl⟩
                            case round =>
                              obtain ⟨x, hx4, rfl, rfl, rfl⟩ := hrel
                              by_cases hx5 : x < 4
                              · have hcell := HR2.out.cell (i := x) hx5
                                have hle := HLE.out x
                                have hlt := codeTo_lt HLE.out x
                                have hpw : 9 ^ x ≤ 6561 := Nat.le_trans (Nat.pow_le_pow_right (by omega) hx4) (by decide)
                                have HCS : Hid (codeTo h (x + 1) = codeTo h x * 9 + h x) := rfl
                                generalize codeTo h x = u at hlt HCS
                                generalize h x = v at hcell hle HCS
                                have hu : u < 6561 := by omega
                                clear hlt hpw
                                go_wp2
                                exact ⟨⟨x + 1, by omega, by go_num, (by rw [HCS.out]; simp), trivial⟩, by simp [intOf] <;> omega⟩
                              · have hx6 : x = 4 := by omega
                                rw [hx6]
                                clear hx6
                                have HCD : Hid (codeTo h 4 = codeS (mkS h)) := rfl
                                rw [HCD.out]
                                obtain ⟨p, hp⟩ : ∃ p, p = posK (keysL N) (mkS h) := ⟨_, rfl⟩
                                obtain ⟨hc16, hf16⟩ := HQ2.out.cell HT8.out
                                rw [← hp] at hc16
                                have hcl := codeS_lt HT8.out
                                have hnl : N.length ≤ 6561 := len_le HGA.out.nd HGA.out.ok
                                have hc0 : wi.cell? ⟨sb, 0, none⟩ = some (.int .i64 (h 0 : Int)) := HR2.out.cell (i := 0) (by omega)
                                have hc1 : wi.cell? ⟨sb, 1, none⟩ = some (.int .i64 (h 1 : Int)) := HR2.out.cell (i := 1) (by omega)
                                have hc2 : wi.cell? ⟨sb, 2, none⟩ = some (.int .i64 (h 2 : Int)) := HR2.out.cell (i := 2) (by omega)
                                have hc3 : wi.cell? ⟨sb, 3, none⟩ = some (.int .i64 (h 3 : Int)) := HR2.out.cell (i := 3) (by omega)
                                obtain ⟨g8, rfl, hg8, hc8⟩ := HG.out.counts y hyL
                                have HKL : Hid ((keysL N).length ≤ 1099511627776) := by rw [Hid, keysL_len]; omega
                                have HCL : Hid ((cntsL N).length ≤ 1099511627776) := by rw [Hid, cntsL_len]; omega
                                have HXB : Hid (∀ i (hi : i < (addL N (mkS h) L[y].2).length), ((addL N (mkS h) L[y].2)[i]).2 ≤ 4611686018427387904) := fun i hi => HGA2.out.cnt (by omega) hk HP.out (by omega) hi
                                by_cases hp0 : p = 0
                                · have hnot : mkS h ∉ keysL N := posK_zero.1 (by rw [← hp]; exact hp0)
                                  have HNOT := Lib.hid hnot
                                  rw [hp0] at hc16
                                  have HP0 := Lib.hid hp0
                                  clear hp hp0 hnot
                                  go_upto_region 43 with (at_builtin; go_must (refine pushq_law _ rfl (.tmp 131) (.tmp 133) 103 rfl w4.heap.size 70 i4 Try.underlying103 HI4.out _ (keysL N) (mkS h) rfl rfl HQ2.out.st HKL.out HQ2.out.bl.size ?_); intro v14n wA hvA hgA hatA; have HQA := Lib.hid (HQ2.out.pushK hvA hgA hatA); clear hvA hgA hatA)
                                  obtain ⟨g14, cp14, e14, _, _, _, _⟩ := HQA.out.st.form (n := N.length + 1) (by rw [List.length_append, keysL_len]; rfl) (by omega)
                                  subst e14
                                  clear hc0 hc1 hc2 hc3
                                  go_upto_region 44 with (at_builtin; go_must (refine push_law _ rfl (.tmp 135) (.tmp 136) 23 rfl w4.heap.size 3 i0 Try.underlying23 HI.out _ (cntsL N) 0 rfl rfl HQA.out.ct HCL.out HQA.out.bl.size ?_); intro v15n wB hvB hgB hatB; have HQB := Lib.hid (HQA.out.pushC hvB hgB hatB); clear hvB hgB hatB)
                                  obtain ⟨g15, cp15, e15, _, _, _, _⟩ := HQB.out.ct.form (by rw [List.length_append]; show 0 < _ + 1; omega)
                                  have hl15 : (cntsL N ++ [0]).length = N.length + 1 := by rw [List.length_append, cntsL_len]; rfl
                                  rw [hl15] at e15
                                  subst e15
                                  obtain ⟨hb16, hbf⟩ := HQB.out.cell HT8.out
                                  have HQC := Lib.hid (HQB.out.putIx HT8.out HNOT.out (x := (N.length : Int) + 1) (by rw [keysL_len]))
                                  obtain ⟨hd16, hdf⟩ := HQC.out.cell HT8.out
                                  rw [posK_snoc HNOT.out, if_pos rfl, keysL_len] at hd16
                                  obtain ⟨hce, hcf⟩ := HQC.out.cellC hl15 (i := N.length) (by omega)
                                  have h00 : (cntsL N ++ [0])[N.length]?.getD 0 = 0 := by rw [List.getElem?_append_right (by rw [cntsL_len]; exact Nat.le_refl _), cntsL_len, Nat.sub_self]; rfl
                                  rw [h00] at hce
                                  clear h00 hf16 hc16
                                  go_upto_region 46 with (fail)
                                  have hc8' := (HQC.out.bl.cell (p := ⟨g8, y, none⟩) hg8).trans hc8
                                  have hub : L[y].2 ≤ 1152921504606846976 := Nat.le_trans (cnt_at_le hyL) (Nat.le_trans HP.out HP2.out)
                                  rw [addL_new HNOT.out] at HGA2
                                  obtain ⟨WC, hWC⟩ : ∃ WC, WC = wB.setCell ⟨g16, codeS (mkS h), none⟩ (.int .i64 ((N.length : Int) + 1)) := ⟨_, rfl⟩
                                  rw [← hWC] at HQC hce hcf hc8'
                                  rw [← hWC]
                                  clear hWC hb16 hbf hd16 hdf hc8 HQB HQA HQ2 HXB HR2 HB7
                                  obtain ⟨u, hu⟩ : ∃ u, u = L[y].2 := ⟨_, rfl⟩
                                  rw [← hu] at hc8' hub HGA2
                                  clear hu
                                  have HQN : Hid (FqI w4 (WC.setCell ⟨g15, N.length, none⟩ (.int .i64 (u : Int))) g16 (keysL (N ++ [(mkS h, u)])) (cntsL (N ++ [(mkS h, u)])) (keysL (N ++ [(mkS h, u)])) (.slice (some ⟨g14, 0, none⟩) (N.length + 1) cp14) (.slice (some ⟨g15, 0, none⟩) (N.length + 1) cp15)) := by
                                    have h1 := HQC.out.putC hl15 N.length (u : Int)
                                    rw [List.set_append_right _ _ (by rw [cntsL_len]; exact Nat.le_refl _), cntsL_len, Nat.sub_self] at h1
                                    have e1 : keysL (N ++ [(mkS h, u)]) = keysL N ++ [mkS h] := by unfold keysL; rw [List.map_append]; rfl
                                    have e2 : cntsL (N ++ [(mkS h, u)]) = cntsL N ++ [(u : Int)] := by unfold cntsL; rw [List.map_append]; rfl
                                    rw [Hid, e1, e2]
                                    exact h1
                                  have hn1 : (N.length : Int) < (N.length : Int) + 1 := by omega
                                  have hn2 : N.length < N.length + 1 := by omega
                                  go_region
                                  have HQE := Lib.hid (HQN.out.mono ((Below.refl _ _).drew))
                                  clear HQN HQC hce hcf hc8' hub hn1 hn2
                                  go_wp2
                                  exact ⟨⟨_, z + 1, by omega, by go_num, HGA2.out, HQE.out⟩, by simp [intOf] <;> omega⟩
                                · obtain ⟨i, hi⟩ : ∃ i, p = i + 1 := ⟨p - 1, by omega⟩
                                  have hpos : 0 < posK (keysL N) (mkS h) := by omega
                                  have hat : (keysL N)[i]? = some (mkS h) := by
                                    have h1 := posK_at hpos
                                    rwa [← hp, hi, Nat.add_sub_cancel] at h1
                                  have hiN : i < N.length := by
                                    have h1 := posK_lt hpos
                                    rw [keysL_len, ← hp] at h1
                                    omega
                                  obtain ⟨hko, hco⟩ := addL_old (x := L[y].2) HGA.out.nd hat hiN
                                  obtain ⟨hxl, hxv⟩ := addL_old_at (x := L[y].2) HGA.out.nd hat hiN
                                  have hxb := HXB.out i hxl
                                  rw [hxv] at hxb
                                  clear hxv hxl
                                  rw [hi] at hc16
                                  obtain ⟨g15, cp15, e15, _, _, _, _⟩ := HQ2.out.ct.form (by rw [cntsL_len]; omega)
                                  rw [cntsL_len] at e15
                                  subst e15
                                  obtain ⟨hce, hcf⟩ := HQ2.out.cellC (cntsL_len N) hiN
                                  rw [cntsL_at hiN] at hce
                                  have hc8' := (HQ2.out.bl.cell (p := ⟨g8, y, none⟩) hg8).trans hc8
                                  have h1 := HQ2.out.putC (cntsL_len N) i ((N[i].2 + L[y].2 : Nat) : Int)
                                  rw [← hco, ← hko, Int.natCast_add] at h1
                                  have HQN := Lib.hid h1
                                  clear h1
                                  generalize addL N (mkS h) L[y].2 = N2 at HGA2 HQN
                                  generalize N[i].2 = v at hce hxb HQN
                                  generalize L[y].2 = u at hc8' hxb HQN
                                  clear hp hp0 hi hpos hat hko hco HXB hc0 hc1 hc2 hc3 HR2 HQ2 HB7 hc8
                                  have hip : ((i + 1 : Nat) : Int) - 1 = (i : Int) := by omega
                                  have hi1 : (i : Int) < (N.length : Int) := by omega
                                  go_upto_region 46 with (fail)
                                  clear hc16 hf16
                                  go_region
                                  have HQE := Lib.hid (HQN.out.mono ((Below.refl _ _).drew))
                                  clear HQN hce hcf hc8'
                                  go_wp2
                                  exact ⟨⟨_, z + 1, by omega, by go_num, HGA2.out, HQE.out⟩, by simp [intOf] <;> omega⟩
                    · have hzk2 : z = k := by omega
                      rw [hzk2] at HGA
                      have HGN := Lib.hid (HGA.out.next (by rw [HLN.out]; exact hyl))
                      clear hzk2
                      go_wp2
                      exact ⟨⟨N, y + 1, by omega, by go_num, HGN.out, HQ.out⟩, by simp [intOf] <;> omega⟩
                · have hye : y = ln := by omega
                  rw [hye, ← HLN.out] at HGA
                  have HRN := Lib.hid (HG.out.done hk HGA.out HQ.out)
                  clear hye
                  go_wp2
                  exact ⟨⟨N, j + 1, by omega, by go_num, HRN.out⟩, by simp [intOf] <;> omega⟩
        · have hjm2 : j = m + 1 := by omega
          have h1 := HR.out.out
          rw [hjm2] at h1
          have HOU := Lib.hid h1
          clear h1
          clear hjm2
          go_wp2
          go_ret
          exact ⟨_, rfl, HOU.out, HR.out.bl⟩
end Go.Proofs.Ytkemcmeagnggeaa
