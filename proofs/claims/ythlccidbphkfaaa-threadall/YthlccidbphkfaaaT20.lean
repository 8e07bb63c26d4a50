import Derived.Test.YthlccidbphkfaaaT19
import Derived.Test.YthlccidbphkfaaaT18
/- Layer 3: the walk of ThreadRanked. -/
namespace Go.Proofs.Ythlccidbphkfaaa
open Go.RowKit
set_option linter.unusedVariables false

theorem item_facts {ws us : List Int} {k : Nat} (hw : wordB ws = true) (h : (subsF ws 0)[k]? = some us) : wordB us = true ∧ (withinF us ws).isSome = true := by
  have hm := (subs_mem ws us).1 (List.mem_of_getElem? h)
  have hl := hm.2.length_le
  have : ws.length ≤ 60 := by unfold wordB at hw; simp at hw; exact hw.1
  exact ⟨isW_word hm.1 (by omega), sub_iff.2 hm.2⟩
theorem index_is {ws us : List Int} {k : Nat} {e : Ending} (hp : IxPost ws us e) (hs : (withinF us ws).isSome = true) (h : (subsF ws 0)[k]? = some us) : e = .returned (.tuple #[.int .i64 k, .int .i64 0]) := by
  rcases hp with ⟨h1, _⟩ | ⟨j, _, h2, h3⟩
  · rw [h1] at hs; cases hs
  · rw [h2, nodup_at (subsF_nodup ws 0) h3 h]
theorem ranked_index (x o : ByteArray) (r : Nat) (hx : wordB (bs x) = true) (W : World) (ho : (subsF (bs x) 0)[r]? = some (bs o)) :
    Calls Try.prog 29 #[.string x, .string o] W fun e w' => e = .returned (.tuple #[.int .i64 r, .int .i64 0]) ∧ Below W.heap.size W w' := by
  have hf := item_facts hx ho
  refine (indexP_any x o W hx hf.1).mono ?_
  rintro e w' ⟨h, hb⟩
  exact ⟨index_is h hf.2 ho, hb⟩
theorem ranked_within (x o : ByteArray) (r : Nat) (hx : wordB (bs x) = true) (W : World) (ho : (subsF (bs x) 0)[r]? = some (bs o)) :
    Calls Try.prog 23 #[.string o, .string x] W fun e w' => ∃ v, e = .returned (.tuple #[v, .bool true]) ∧ Below W.heap.size W w' := by
  have hf := item_facts hx ho
  have h1 := word_size hx
  have h2 := word_size hf.1
  refine (within_any o x W (by omega) (by omega)).mono ?_
  rintro e w' ⟨v, rfl, _, hb⟩
  exact ⟨v, by rw [hf.2], hb⟩
set_option maxRecDepth 100000 in
set_option maxHeartbeats 1600000 in
theorem ranked_walk (a0 : ByteArray) (a1 : Int) (w0 : a0.size ≤ maxLen) (w1 : (Lit.int .i64 a1).wf = true) (w : World) :
    Calls Try.prog 9 #[.string a0, .int .i64 a1] w fun e w' => e = .returned (.bool true) ∧ Below w.heap.size w w' := by
  have HTM : Hid (∀ W, Calls Try.prog 46 #[.string a0, .int .i64 60, .int .i64 4] W fun e w' => e = .returned (.string (tmB a0 60 4)) ∧ Below W.heap.size W w') := fun W => tame_max a0 60 4 W (by unfold maxLen at w0; omega) (by omega) (by omega) (by omega)
  have hx : wordB (bs (tmB a0 60 4)) = true := tmB_word a0 60 4 (by omega) (by omega) (by omega)
  generalize tmB a0 60 4 = x at HTM hx
  have HC := Lib.hid (fun W => countP_any x W hx)
  have hx60 := word_size hx
  have hn1 := cntF_pos (bs x) 0 (Nat.zero_le _)
  have hn2 := cntF_bound (bs x) 0 (Nat.zero_le _) (by rw [bs_len]; exact hx60)
  have HIT := Lib.hid (fun k0 W hk => itemP_any x k0 W hx hk)
  have HIX := Lib.hid (fun o r W => ranked_index x o r hx W)
  have HWI := Lib.hid (fun o r W => ranked_within x o r hx W)
  generalize hn : cntF (bs x) 0 = n at HC HIT hn1 hn2
  have HMO := Lib.hid (fun W => mod_max a1 n W hn1 (by omega))
  clear hx w1
  go_enter Try.func9, Try.ntmps9
  go_wp2_with (first | (go_at_call 46; refine (HTM.out _).mono ?_; rintro e w1 ⟨rfl, hb1⟩) | (go_at_call 25; refine (HC.out _).mono ?_; rintro e w2 ⟨rfl, hb2⟩))
  refine (HMO.out _).mono ?_
  rintro e w3 ⟨⟨r, rfl, hr⟩, rfl⟩
  have HIT1 := Lib.hid (fun W => HIT.out r W hr)
  by_cases hl : (r : Int) + 1 = n
  · clear HIT
    go_wp2_with (first | (go_at_call 26; (with_reducible refine (HIT1.out _).mono ?_); rintro e w4 ⟨o, rfl, ho, hb4⟩; have HO := Lib.hid ho; clear ho) | (go_at_call 29; refine (HIX.out _ _ _ HO.out).mono ?_; rintro e w5 ⟨rfl, hb5⟩) | (go_at_call 23; refine (HWI.out _ _ _ HO.out).mono ?_; rintro e w6 ⟨v, rfl, hb6⟩) | (go_at_call 21; refine (awake_here _).mono ?_; rintro e w7 ⟨rfl, hb7⟩))
    go_ret
    have k1 : Kp w w1 := hb1
    exact ⟨rfl, ((((k1.call hb2).call hb4).call hb5).call hb6).call hb7⟩
  · have HIT2 : Hid (∀ W, Calls Try.prog 26 #[.string x, .int .i64 ((r : Int) + 1)] W fun e w' => ∃ o : ByteArray, e = .returned (.tuple #[.string o, .int .i64 0]) ∧ (subsF (bs x) 0)[r + 1]? = some (bs o) ∧ Below W.heap.size W w') := fun W => by
      have := HIT.out (r + 1) W (by omega)
      rw [show ((r + 1 : Nat) : Int) = (r : Int) + 1 from by omega] at this
      exact this
    clear HIT
    go_wp2_with (first | (go_at_call 26; (with_reducible refine (HIT1.out _).mono ?_); rintro e w4 ⟨o, rfl, ho, hb4⟩; have HO := Lib.hid ho; clear ho HIT1) | (go_at_call 29; refine (HIX.out _ _ _ HO.out).mono ?_; rintro e w5 ⟨rfl, hb5⟩) | (go_at_call 23; refine (HWI.out _ _ _ HO.out).mono ?_; rintro e w6 ⟨v, rfl, hb6⟩) | (go_at_call 26; (with_reducible refine (HIT2.out _).mono ?_); rintro e w8 ⟨t, rfl, ht, hb8⟩; have hlt : Op.bytesLess o.toList t.toList = true := (ltL_bs o t).trans (subs_lt (Nat.lt_succ_self r) HO.out ht); clear ht) | (go_at_call 21; refine (awake_here _).mono ?_; rintro e w7 ⟨rfl, hb7⟩))
    go_ret
    have k1 : Kp w w1 := hb1
    exact ⟨rfl, (((((k1.call hb2).call hb4).call hb5).call hb6).call hb8).call hb7⟩
end Go.Proofs.Ythlccidbphkfaaa
/- Layer 3: the walk of ThreadGrows. -/
namespace Go.Proofs.Ythlccidbphkfaaa
open Go.RowKit
set_option linter.unusedVariables false

theorem bs_one (x : ByteArray) (j : Nat) (h : j < x.size) : bs (x.extract j (j + 1)) = [(bs x)[j]?.getD 0] := by
  have h2 : j < x.data.toList.length := by simpa using h
  have e : (x.extract j (j + 1)).data.toList = [x.data.toList[j]] := by
    rw [ByteArray.data_extract, Array.toList_extract, List.extract_eq_take_drop, show j + 1 - j = 1 from by omega, List.drop_eq_getElem_cons h2]
    rfl
  unfold bs
  rw [e, List.getElem?_map, List.getElem?_eq_getElem h2]
  rfl
theorem back_step {x b : ByteArray} {j : Nat} (h : j < x.size) (hb : bs b = ((bs x).take j).reverse) : bs (x.extract j (j + 1) ++ b) = ((bs x).take (j + 1)).reverse := by
  rw [bs_append, bs_one x j h, hb, take_snoc (by rw [bs_len]; exact h), List.reverse_append, List.reverse_singleton]
theorem other_step {x b : ByteArray} {j d : Nat} (h : j < x.size) (hd : d < 256) (hr : rot ((bs x)[j]?.getD 0) = (d : Int)) (hb : bs b = ((bs x).take j).map rot) : bs (b ++ chr d) = ((bs x).take (j + 1)).map rot := by
  rw [bs_append, bs_chr d hd, hb, take_snoc (by rw [bs_len]; exact h), List.map_append, List.map_singleton, hr]
theorem u8_small (n : Nat) (h : n < 256) : IntKind.u8.wrap (n : Int) = (n : Int) := IntWalk.u8_in _ (by omega)
set_option maxRecDepth 100000 in
set_option maxHeartbeats 1600000 in
theorem grows_walk (a0 : ByteArray) (a1 : Int) (w0 : a0.size ≤ maxLen) (w1 : (Lit.int .u8 a1).wf = true) (w : World) :
    Calls Try.prog 11 #[.string a0, .int .u8 a1] w fun e w' => e = .returned (.bool true) ∧ Below w.heap.size w w' := by
  have HTM : Hid (∀ W, Calls Try.prog 46 #[.string a0, .int .i64 50, .int .i64 4] W fun e w' => e = .returned (.string (tmB a0 50 4)) ∧ Below W.heap.size W w') := fun W => tame_max a0 50 4 W (by unfold maxLen at w0; omega) (by omega) (by omega) (by omega)
  have hxW : isW 4 (bs (tmB a0 50 4)) := tmB_isW a0 50 4 (by omega) (by omega)
  have hx50 := tmB_size a0 50 4
  generalize tmB a0 50 4 = x at HTM hxW hx50
  have hxl := bs_len x
  obtain ⟨q, hq4, g1⟩ : ∃ q : Nat, q < 4 ∧ a1.tmod 4 = (q : Int) := by
    have h0 : 0 ≤ a1 ∧ a1 ≤ 255 := by
      have := w1
      have e1 : IntKind.u8.min = 0 := rfl
      have e2 : IntKind.u8.max = 255 := rfl
      simp [Lit.wf] at this
      omega
    refine ⟨(a1.tmod 4).toNat, ?_, ?_⟩ <;> rw [Int.tmod_eq_emod_of_nonneg h0.1] <;> omega
  have g2 := u8_small q (by omega)
  have HC := Lib.hid (fun s W h => countP_any s W h)
  have HX := Lib.hid hxW; clear hxW
  go_enter Try.func11, Try.ntmps11
  go_wp2_with (go_at_call 46; refine (HTM.out _).mono ?_; rintro e w2 ⟨rfl, hb2⟩; have hcv := one_letter w2 (97 + q) (by omega) (97 + (q : Int)) (by omega) _ rfl)

  clear hcv
  go_loopw [6, 7, 8] (fun b o i w' => ∃ (j : Nat) (bb oo : ByteArray), j ≤ x.size ∧ i = .int .i64 (j : Int) ∧ b = .string bb ∧ o = .string oo ∧ bb.size = j ∧ oo.size = j ∧ Hid (bs bb = ((bs x).take j).reverse) ∧ Hid (bs oo = ((bs x).take j).map rot) ∧ Below w2.heap.size w2 w') (fun _ _ i _ => x.size - (intOf i).toNat)
  case atStart => exact ⟨0, ⟨#[]⟩, ⟨#[]⟩, by omega, by go_num, rfl, rfl, rfl, rfl, rfl, rfl, (Below.refl _ w2).alloc (Nat.le_refl _) _⟩
  case round =>
    obtain ⟨j, bb, oo, hj, rfl, rfl, rfl, hzb, hzo, HB, HO, hD⟩ := hrel
    obtain ⟨wo, rfl⟩ : ∃ wo : World, wo = wr := ⟨_, rfl⟩
    by_cases hlt : j < x.size
    · obtain ⟨c, hc4, hcx⟩ : ∃ c : Nat, c < 4 ∧ x[j].toNat = 97 + c := by
        have h1 := bs_at x j hlt
        have h2 := HX.out ((bs x)[j]) (List.getElem_mem (by rw [hxl]; exact hlt))
        rw [List.getElem?_eq_getElem (by rw [hxl]; exact hlt), Option.getD_some] at h1
        exact ⟨x[j].toNat - 97, by omega, by omega⟩
      obtain ⟨d, hd⟩ : ∃ d : Nat, d = (c + 1) % 4 := ⟨_, rfl⟩
      have hd4 : d < 4 := by omega
      have HR : Hid (rot ((bs x)[j]?.getD 0) = ((97 + d : Nat) : Int)) := by
        rw [Hid, bs_at x j hlt, hcx, rot, hd]; omega
      have f1 : IntKind.u8.wrap ((x[j].toNat : Int) - 97) = (c : Int) := by
        rw [show ((x[j].toNat : Int) - 97) = (c : Int) from by omega]; exact u8_small _ (by omega)
      have f2 : IntKind.u8.wrap ((c : Int) + 1) = ((c + 1 : Nat) : Int) := by rw [show (c : Int) + 1 = ((c + 1 : Nat) : Int) from by omega]; exact u8_small _ (by omega)
      have HB2 : Hid (bs (x.extract j (j + 1) ++ bb) = ((bs x).take (j + 1)).reverse) := back_step hlt HB.out
      have HO2 : Hid (bs (oo ++ chr (97 + d)) = ((bs x).take (j + 1)).map rot) := other_step hlt (by omega) HR.out HO.out
      have hs1 : (x.extract j (j + 1)).size = 1 := by rw [ByteArray.size_extract]; omega
      have hs2 : (chr (97 + d)).size = 1 := rfl
      have hZ1 : Hid ((x.extract j (j + 1) ++ bb).size = j + 1) := by rw [Hid, ByteArray.size_append]; omega
      have hZ2 : Hid ((oo ++ chr (97 + d)).size = j + 1) := by rw [Hid, ByteArray.size_append]; omega
      have hz1 : (x.extract j (j + 1)).size + bb.size ≤ 9223372036854775807 := by omega
      have hz2 : oo.size + (chr (97 + d)).size ≤ 9223372036854775807 := by omega
      have hcv := one_letter wo (97 + d) (by omega) (97 + ((c : Int) + 1) % 4) (by omega) _ rfl
      have hDn := hD.alloc hD.size (.cells #[.int .u8 (97 + ((c : Int) + 1) % 4)] 5)
      have hsl : (Instr.slice 9 (.string x) (some (.int .i64 (j : Int))) (some (.int .i64 ((j : Int) + 1))) none).run Try.prog wo = .ok (.string (x.extract j (j + 1))) wo :=
        (run_slice_string (P := Try.prog) wo 9 x .i64 .i64 (j : Int) ((j : Int) + 1) Try.underlying9 (by omega) (by omega) (by omega)).trans (by rw [show ((j : Int) + 1).toNat = j + 1 from by omega, Int.toNat_natCast])
      clear hcx hd
      go_wp2
      clear hcv
      exact ⟨⟨j + 1, x.extract j (j + 1) ++ bb, oo ++ chr (97 + d), by omega, by go_num, rfl, rfl, hZ1.out, hZ2.out, HB2, HO2, hDn⟩, by simp [intOf]; omega⟩
    · obtain rfl : j = x.size := by omega
      have hxw : wordB (bs x) = true := isW_word HX.out (by omega)
      have hf : (bs x).take x.size = bs x := by rw [← hxl, List.take_length]
      rw [hf] at HB HO
      have hm := cnt_more HX.out (c := 97 + (q : Int)) (by omega)
      have hwc : wordB (bs (x ++ chr (97 + q))) = true := by
        refine isW_word ?_ ?_
        · rw [bs_append, bs_chr _ (by omega)]
          exact isW_snoc HX.out hq4
        · rw [bs_append, bs_chr _ (by omega), List.length_append, hxl]
          simp; omega
      have hwb : wordB (bs bb) = true := by
        rw [HB.out]
        exact isW_word (fun b hb => HX.out b (List.mem_reverse.1 hb)) (by rw [List.length_reverse]; omega)
      have hwo : wordB (bs oo) = true := by
        rw [HO.out]
        exact isW_word (isW_rot HX.out) (by rw [List.length_map]; omega)
      have HC1 := Lib.hid (fun W => HC.out x W hxw)
      have HC2 : Hid (∀ W, Calls Try.prog 25 #[.string (x ++ chr (97 + q))] W fun e w' => e = .returned (.tuple #[.int .i64 (cntF (bs x ++ [97 + (q : Int)]) 0), .int .i64 0]) ∧ Below W.heap.size W w') := fun W => by
        have := HC.out _ W hwc
        rw [bs_append, bs_chr _ (by omega), show ((97 + q : Nat) : Int) = 97 + (q : Int) from by omega] at this
        exact this
      have HC3 : Hid (∀ W, Calls Try.prog 25 #[.string bb] W fun e w' => e = .returned (.tuple #[.int .i64 (cntF (bs x) 0), .int .i64 0]) ∧ Below W.heap.size W w') := fun W => by
        have := HC.out _ W hwb
        rw [HB.out, cnt_reverse] at this
        exact this
      have HC4 : Hid (∀ W, Calls Try.prog 25 #[.string oo] W fun e w' => e = .returned (.tuple #[.int .i64 (cntF (bs x) 0), .int .i64 0]) ∧ Below W.heap.size W w') := fun W => by
        have := HC.out _ W hwo
        rw [HO.out, cnt_rot HX.out] at this
        exact this
      have hn2 := cntF_bound (bs x) 0 (Nat.zero_le _) (by omega)
      have hn1 := cntF_nonneg (bs x) 0
      generalize cntF (bs x) 0 = n at *
      generalize cntF (bs x ++ [97 + (q : Int)]) 0 = m at *
      have hz2 : x.size + (chr (97 + q)).size ≤ 9223372036854775807 := by have : (chr (97 + q)).size = 1 := rfl; omega
      clear hwc hwb hwo hxw hf HC HB HO
      go_wp2_with (first | (go_at_call 25; (with_reducible refine (HC1.out _).mono ?_); rintro e w3 ⟨rfl, hb3⟩; clear HC1) | (go_at_call 25; (with_reducible refine (HC2.out _).mono ?_); rintro e w4 ⟨rfl, hb4⟩; clear HC2) | (go_at_call 25; (with_reducible refine (HC3.out _).mono ?_); rintro e w5 ⟨rfl, hb5⟩; clear HC3) | (go_at_call 25; (with_reducible refine (HC4.out _).mono ?_); rintro e w6 ⟨rfl, hb6⟩; clear HC4) | (go_at_call 21; refine (awake_here _).mono ?_; rintro e w7 ⟨rfl, hb7⟩))
      go_ret
      have k1 : Kp w w2 := hb2
      exact ⟨rfl, (((((k1.call hD).call hb3).call hb4).call hb5).call hb6).call hb7⟩
end Go.Proofs.Ythlccidbphkfaaa
