import Derived.Test.YtkemcmeagnggeaaT38
import Derived.Test.YtkemcmeagnggeaaT36
import Derived.Test.YtkemcmeagnggeaaT35
import Derived.Test.YtkemcmeagnggeaaT18
/- Layer 3: the walk of ThreadFamilies. -/
namespace Go.Proofs.Ytkemcmeagnggeaa
open Go.RowKit
set_option linter.unusedVariables false

set_option maxHeartbeats 1600000 in
theorem family_max (A : Option Addr) (n c : Nat) (ss : List ByteArray) (w : World) (hs : Sls w A n c ss) (hn : n ≤ 9223372036854775807) (hz : ∀ i : Nat, (ss[i]?.getD ByteArray.empty).size ≤ 9223372036854775807) :
    Calls Try.prog 39 #[.slice A n c] w fun e w' => ∃ v, e = .returned v ∧ Ows w' w.heap.size 9 v (famOf ss) ∧ Below w.heap.size w w' := by
  have HS := Lib.hid hs; clear hs
  have HZ := Lib.hid hz; clear hz
  obtain ⟨i0, hi0, hz0, hsz, hby⟩ := info_parts Try.infoStr
  have HI := Lib.hid (And.intro hi0 (And.intro hz0 (And.intro hsz hby))); clear hi0 hz0 hsz hby
  go_enter Try.func39, Try.ntmps39
  go_wp2
  go_loopw [3, 4] (fun o i w' => ∃ k : Nat, k ≤ n ∧ k ≤ 6 ∧ i = .int .i64 k ∧ Hid (Ows w' w.heap.size 9 o ((ss.take k).map cutS)) ∧ Below w.heap.size w w') (fun _ i _ => n - (intOf i).toNat)
  case atStart => exact ⟨0, Nat.zero_le _, by omega, rfl, Ows.nil _ _ _, Below.refl _ _⟩
  case round =>
    obtain ⟨k, hk, hk6, rfl, HO, hW⟩ := hrel
    obtain ⟨wo, rfl⟩ : ∃ wo : World, wo = wr := ⟨_, rfl⟩
    by_cases hlt : k < n
    · by_cases h6 : k < 6
      · obtain ⟨b, off, rfl, hc1⟩ := (HS.out.below hW (Nat.le_refl _)).rd k (by rw [HS.out.len]; exact hlt)
        have hzk := HZ.out k
        have HT : Hid ((ss.take (k + 1)).map cutS = (ss.take k).map cutS ++ [cutS (ss[k]?.getD ByteArray.empty)]) := by
          have : k < ss.length := by rw [HS.out.len]; exact hlt
          rw [Hid, List.take_add_one, List.map_append, List.getElem?_eq_getElem this]; rfl
        have HL : Hid (((ss.take k).map cutS).length ≤ 1099511627776) := by rw [Hid, List.length_map, List.length_take]; omega
        obtain ⟨x, hx⟩ : ∃ x, x = ss[k]?.getD ByteArray.empty := ⟨_, rfl⟩
        rw [← hx] at hc1 HT hzk
        clear hx
        have HC : Hid (∀ W, Calls Try.prog 17 #[.string x] W fun e w' => e = .returned (.string (cutS x)) ∧ W = w') := fun W => short_max x W hzk
        generalize (ss.take k).map cutS = l at *
        generalize cutS x = y at *
        have hbs := hW.size
        go_wp2_with (first | (go_at_call 17; refine (HC.out _).mono ?_; clear HC; rintro e w1 ⟨rfl, rfl⟩) | (at_builtin; go_must (refine pushs_law _ rfl (.tmp 15) (.tmp 21) 51 rfl w.heap.size 9 i0 Try.underlying51 HI.out _ l y rfl rfl HO.out HL.out hbs ?_); intro v4 w4 hv4 hg4 hat4; have HO4 := Lib.hid hv4; have HB4 := Lib.hid (hW.grown hg4 hbs (fun b hb => (HO.out.lt hb).1)); clear hv4 hg4 hat4))
        exact ⟨⟨k + 1, by omega, by omega, by go_num, (by rw [Hid, HT.out]; exact HO4.out), HB4.out⟩, by simp [intOf]; omega⟩
      · have HR : Hid (famOf ss = (ss.take k).map cutS) := by rw [Hid, famOf, show k = 6 by omega]
        go_wp2
        go_ret
        exact ⟨_, rfl, by rw [HR.out]; exact HO.out, hW⟩
    · have HR : Hid (famOf ss = (ss.take k).map cutS) := by
        rw [Hid, famOf, List.take_of_length_le (by rw [HS.out.len]; omega), List.take_of_length_le (by rw [HS.out.len]; omega)]
      go_wp2
      go_ret
      exact ⟨_, rfl, by rw [HR.out]; exact HO.out, hW⟩
theorem minimalP_bad (A : Option Addr) (m c : Nat) (L : List ByteArray) (w : World) (hs : Sls w A m c L) (hm : m ≤ 1099511627776) (hz : ∀ i : Nat, (L[i]?.getD ByteArray.empty).size ≤ 1099511627776) (hf : famB L = false) :
    Calls Try.prog 40 #[.slice A m c] w fun e w' => e = .returned (.tuple #[.slice none 0 0, .int .i64 2]) ∧ Dr w w' := by
  have HF := Lib.hid (isFamily_any A m c L w hs.len hm hs.rd hz)
  rw [hf] at HF
  clear hs hf
  go_enter Try.func40, Try.ntmps40
  go_wp2_with (go_at_call 61; refine HF.out.mono ?_; rintro e w1 ⟨rfl, hd1⟩)
  go_ret2
  exact ⟨rfl, hd1⟩
theorem famOf_size (ss : List ByteArray) (i : Nat) : ((famOf ss)[i]?.getD ByteArray.empty).size ≤ 61 := by
  unfold famOf
  rw [List.getElem?_map]
  cases (ss.take 6)[i]? with
  | none => exact Nat.zero_le _
  | some s => exact cut61_size s
theorem famOf_len (ss : List ByteArray) : (famOf ss).length ≤ 6 := by unfold famOf; rw [List.length_map, List.length_take]; omega
theorem famB_words {L : List ByteArray} (h : famB L = true) (j : Nat) (hj : j < L.length) : wordB (bs (L[j]?.getD ByteArray.empty)) = true := by
  have := famB_fam h hj
  unfold famTo at this
  rw [Bool.and_eq_true] at this
  exact this.1
/-- The arguments of Free that are wrong. -/
theorem free_four {k n : Int} (h : ¬ (1 ≤ k ∧ k ≤ 4 ∧ 0 ≤ n ∧ n ≤ 30)) : k < 1 ∨ (¬ k < 1 ∧ 4 < k) ∨ (¬ k < 1 ∧ ¬ 4 < k ∧ n < 0) ∨ (¬ k < 1 ∧ ¬ 4 < k ∧ ¬ n < 0 ∧ 30 < n) := by omega
theorem free_not {L : List ByteArray} {k n : Int} (h : ¬ (1 ≤ k ∧ k ≤ 4 ∧ 0 ≤ n ∧ n ≤ 30)) : freeOk L k n = false := by
  cases e : freeOk L k n with
  | false => rfl
  | true =>
    unfold freeOk lettersK at e
    simp only [Bool.and_eq_true, decide_eq_true_eq] at e
    omega
theorem free_bad {L : List ByteArray} {k n : Int} (h : famB L = false) : freeOk L k n = false := by unfold freeOk; rw [h]; rfl
set_option maxRecDepth 100000 in
set_option maxHeartbeats 3200000 in
theorem families_walk (a0 a1 : Int) (A : Option Addr) (n c : Nat) (ss : List ByteArray) (w : World) (hs : Sls w A n c ss) (hn : n ≤ maxLen) (hz : ∀ i : Nat, (ss[i]?.getD ByteArray.empty).size ≤ maxLen) :
    Calls Try.prog 8 #[.slice A n c, .agg #[.int .i64 a0, .int .i64 a1]] w fun e w' => e = .returned (.bool true) ∧ Below w.heap.size w w' := by
  unfold maxLen at hn hz
  obtain ⟨ob, hob⟩ : ∃ ob : Obj, ob = .cells #[.int .i64 a0, .int .i64 a1] 52 := ⟨_, rfl⟩
  have HBX : Hid (∀ W, Kp (w.alloc ob) W → W.cell? ⟨w.heap.size, 0, none⟩ = some (.int .i64 a0) ∧ W.cell? ⟨w.heap.size, 1, none⟩ = some (.int .i64 a1)) := fun W hk => by
    have e : W.heap[w.heap.size]? = some ob := (hk.block w.heap.size (by show _ < (w.heap.push ob).size; simp)).trans (heap_alloc_new w ob)
    subst hob
    refine ⟨?_, ?_⟩ <;> simp [World.cell?, e]
  have HS1 : Hid (Sls (w.alloc ob) A n c ss) := hs.below ((Below.refl _ _).alloc (Nat.le_refl _) _) (Nat.le_refl _)
  have HB1 : Hid (Below w.heap.size w (w.alloc ob)) := Kp.fresh w ob
  have HFA := Lib.hid (family_max A n c ss (w.alloc ob) HS1.out hn hz)
  have HAW := Lib.hid (fun W => awake_here W)
  have hl6 := famOf_len ss
  have HLZ := Lib.hid (famOf_size ss)
  generalize famOf ss = L at HFA hl6 HLZ
  obtain ⟨m, hm⟩ : ∃ m, L.length = m := ⟨_, rfl⟩
  rw [hm] at hl6
  have HM := Lib.hid hm
  clear hs hz hm HS1
  subst hob
  go_enter Try.func8, Try.ntmps8
  go_wp2_with (go_at_call 39; refine HFA.out.mono ?_; rintro e w2 ⟨v, rfl, hv, hb2⟩; have HB2 := Lib.hid (bcall HB1.out hb2); have HBY := Lib.hid (HBX.out w2 hb2); obtain ⟨A5, c5, rfl, hs5⟩ := hv.sls HM.out; have HS5 := Lib.hid hs5; have HL5 := Lib.hid (hv.lie HM.out); clear hv hb2 hs5)
  obtain ⟨hx0, hx1⟩ := HBY.out
  go_quiet (fail)
  obtain ⟨w3, hw3⟩ : ∃ w3, w3 = w2.drewN nq := ⟨_, rfl⟩
  have HB3 : Hid (Below w.heap.size w w3) := by rw [hw3]; exact below_dn HB2.out _
  have HS6 : Hid (Sls w3 A5 m c5 L) := by rw [hw3]; exact HS5.out.below (below_dn (Below.refl w2.heap.size w2) nq) (Nat.le_refl _)
  have HL6 : Hid (∀ a, A5 = some a → a.block < w3.heap.size) := by rw [hw3]; exact HL5.out
  rw [← hw3]
  clear hw3 hx0 hx1 HBY HBX HB1 HB2 HS5 HL5 HFA
  have HRF := Lib.hid (fun W (h : Sls W A5 m c5 L) => family_ref A5 m c5 L W h.len (by omega) h.rd (fun i => Nat.le_trans (HLZ.out i) (by omega)))
  cases hf : famB L with
  | false =>
    have HMB := Lib.hid (fun W (h : Sls W A5 m c5 L) => minimalP_bad A5 m c5 L W h (by omega) (fun i => Nat.le_trans (HLZ.out i) (by omega)) hf)
    have HFB := Lib.hid (fun W (h : Sls W A5 m c5 L) => freeP_bad A5 m c5 L a0 a1 W h.len (by omega) h.rd (fun i => Nat.le_trans (HLZ.out i) (by omega)) (free_bad hf))
    rw [hf] at HRF
    clear hf
    go_wp2_with (first
      | (go_at_call 40; refine (HMB.out _ HS6.out).mono ?_; rintro e w4 ⟨rfl, hd4⟩; have HB4 := Lib.hid (bcall HB3.out (hd4.below w3.heap.size)); have HS7 := Lib.hid (HS6.out.below (hd4.below w3.heap.size) (Nat.le_refl _)); clear hd4)
      | (go_at_call 41; refine (HFB.out _ HS7.out).mono ?_; rintro e w5 ⟨rfl, hd5⟩; have HB5 := Lib.hid (bcall HB4.out (hd5.below w4.heap.size)); have HS8 := Lib.hid (HS7.out.below (hd5.below w4.heap.size) (Nat.le_refl _)); clear hd5)
      | (go_at_call 42; refine (HRF.out _ HS8.out).mono ?_; rintro e w6 ⟨rfl, hd6⟩; have HB6 := Lib.hid (bcall HB5.out (hd6.below w5.heap.size)); clear hd6)
      | (go_at_call 21; refine (HAW.out _).mono ?_; rintro e wl ⟨rfl, hbl⟩; have HBL := Lib.hid (bcall HB6.out hbl); clear hbl))
    go_ret
    exact ⟨rfl, HBL.out⟩
  | true =>
    have hm4 : m ≤ 4 := by rw [← HM.out]; exact famB_len hf
    obtain ⟨q, hq⟩ : ∃ q, (minOf L).length = q := ⟨_, rfl⟩
    have hq4 : q ≤ 4 := by have := minTo_len L L.length; rw [show minTo L L.length = minOf L from rfl, hq, HM.out] at this; omega
    have HMi := Lib.hid (fun A c W h => own_minimal A m c q L W h hm4 (fun j hj => famB_words hf j (by rw [HM.out]; exact hj)) hf hq)
    have HMR : Hid (∀ W, Sls W A5 m c5 L → Calls Try.prog 44 #[.slice A5 m c5] W fun e w' => ∃ A' c', e = .returned (.slice A' q c') ∧ Sls w' A' q c' (minOf L) ∧ Below W.heap.size W w') := fun W h => (minimal_any A5 m c5 L W h (by omega) (fun i => Nat.le_trans (HLZ.out i) (by omega))).mono (by
      rintro e w' ⟨v, rfl, hv, hb⟩
      obtain ⟨A', c', rfl, h'⟩ := hv.sls hq
      exact ⟨A', c', rfl, h', hb⟩)
    have hf' := hf
    rw [hf] at HRF
    by_cases hok : 1 ≤ a0 ∧ a0 ≤ 4 ∧ 0 ≤ a1 ∧ a1 ≤ 30
    · obtain ⟨k, hk⟩ : ∃ k : Nat, (k : Int) = a0 := ⟨a0.toNat, by omega⟩
      obtain ⟨z, hz⟩ : ∃ z : Nat, (z : Int) = a1 := ⟨a1.toNat, by omega⟩
      subst hk hz
      obtain ⟨p, hp⟩ : ∃ p, z + 1 = p := ⟨_, rfl⟩
      have hfo : freeOk L (k : Int) (z : Int) = true := by
        unfold freeOk lettersK
        rw [hf, decide_eq_true hok.1, decide_eq_true hok.2.1, decide_eq_true hok.2.2.1, decide_eq_true hok.2.2.2]; rfl
      have hk1 : 1 ≤ k := by omega
      have hk4 : k ≤ 4 := by omega
      have hz30 : z ≤ 30 := by omega
      have HFG : Hid (∀ W, Sls W A5 m c5 L → (∀ a, A5 = some a → a.block < W.heap.size) → Calls Try.prog 41 #[.slice A5 m c5, .int .i64 (k : Int), .int .i64 (z : Int)] W fun e w' => ∃ A' c', e = .returned (.tuple #[.slice A' p c', .int .i64 0]) ∧ Sl w' A' p c' (freeL L k z) ∧ Below W.heap.size W w') := fun W h hA => (freeP_any A5 m c5 L k z W h.len h.rd hA hfo).mono (by
        rintro e w' ⟨⟨v, rfl, hv⟩, hb⟩
        obtain ⟨A', c', rfl, hsl⟩ := hv.sl_len (by rw [freeL_length, hp]) (by omega)
        exact ⟨A', c', rfl, hsl, hb⟩)
      have HFR : Hid (∀ W, Sls W A5 m c5 L → Calls Try.prog 45 #[.slice A5 m c5, .int .i64 (k : Int), .int .i64 (z : Int)] W fun e w' => ∃ A' c', e = .returned (.slice A' p c') ∧ Sl w' A' p c' (freeL L k z) ∧ Below W.heap.size W w') := fun W h => (freeR_any A5 m c5 L k z W h hf hk1 hk4 hz30).mono (by
        rintro e w' ⟨v, rfl, hv, hb⟩
        obtain ⟨A', c', rfl, hsl⟩ := hv.sl_len (by rw [freeL_length, hp]) (by omega)
        exact ⟨A', c', rfl, hsl, hb⟩)
      have hp31 : p ≤ 31 := by omega
      have g1 : ¬ ((k : Int) < 1) := by omega
      have g2 : ¬ (4 < (k : Int)) := by omega
      have g3 : ¬ ((z : Int) < 0) := by omega
      have g4 : ¬ (30 < (z : Int)) := by omega
      clear hf hf' hok hfo hp hq
      go_wp2_with (first
        | (go_at_call 40; refine (HMi.out _ _ _ HS6.out).mono ?_; rintro e w4 ⟨A6, c6, rfl, _, hs4, hb4⟩; have HB4 := Lib.hid (bcall HB3.out hb4); have HS7 := Lib.hid (HS6.out.below hb4 (Nat.le_refl _)); have HL7 : Hid (∀ a, A5 = some a → a.block < w4.heap.size) := (fun a e => Nat.lt_of_lt_of_le (HL6.out a e) hb4.size); have HM4 := Lib.hid hs4; clear hb4 hs4)
        | (go_at_call 41; refine (HFG.out _ HS7.out HL7.out).mono ?_; rintro e w5 ⟨A7, c7, rfl, hs5, hb5⟩; have HB5 := Lib.hid (bcall HB4.out hb5); have HS8 := Lib.hid (HS7.out.below hb5 (Nat.le_refl _)); have HM5 := Lib.hid (HM4.out.below hb5 (Nat.le_refl _)); have HF5 := Lib.hid hs5; clear hb5 hs5)
        | (go_at_call 42; refine (HRF.out _ HS8.out).mono ?_; rintro e w6 ⟨rfl, hd6⟩; have HB6 := Lib.hid (bcall HB5.out (hd6.below w5.heap.size)); have HS9 := Lib.hid (HS8.out.below (hd6.below w5.heap.size) (Nat.le_refl _)); have HM6 := Lib.hid (HM5.out.below (hd6.below w5.heap.size) (Nat.le_refl _)); have HF6 := Lib.hid (HF5.out.below (hd6.below w5.heap.size) (Nat.le_refl _)); clear hd6)
        | (go_at_call 44; refine (HMR.out _ HS9.out).mono ?_; rintro e w7 ⟨A8, c8, rfl, hs7, hb7⟩; have HB7 := Lib.hid (bcall HB6.out hb7); have HS10 := Lib.hid (HS9.out.below hb7 (Nat.le_refl _)); have HM7 := Lib.hid (HM6.out.below hb7 (Nat.le_refl _)); have HF7 := Lib.hid (HF6.out.below hb7 (Nat.le_refl _)); have HR7 := Lib.hid hs7; clear hs7 hb7)
        | (go_at_call 43; refine (own_texts A6 A8 q c6 c8 _ _ HM7.out HR7.out hq4).mono ?_; rintro e w8 ⟨rfl, hb8⟩; have HB8 := Lib.hid (bcall HB7.out hb8); have HS11 := Lib.hid (HS10.out.below hb8 (Nat.le_refl _)); have HF8 := Lib.hid (HF7.out.below hb8 (Nat.le_refl _)); clear hb8)
        | (go_at_call 45; refine (HFR.out _ HS11.out).mono ?_; rintro e w9 ⟨A9, c9, rfl, hs9, hb9⟩; have HB9 := Lib.hid (bcall HB8.out hb9); have HF9 := Lib.hid (HF8.out.below hb9 (Nat.le_refl _)); have HR9 := Lib.hid hs9; clear hs9 hb9)
        | (go_at_call 24; refine (own_ints A7 A9 p c7 c9 _ _ HF9.out HR9.out (by omega)).mono ?_; rintro e wa ⟨rfl, hba⟩; have HBA := Lib.hid (bcall HB9.out hba); clear hba)
        | (go_at_call 21; refine (HAW.out _).mono ?_; rintro e wl ⟨rfl, hbl⟩; have HBL := Lib.hid (bcall HBA.out hbl); clear hbl))
      go_ret
      exact ⟨rfl, HBL.out⟩
    · have HFB := Lib.hid (fun W (h : Sls W A5 m c5 L) => freeP_bad A5 m c5 L a0 a1 W h.len (by omega) h.rd (fun i => Nat.le_trans (HLZ.out i) (by omega)) (free_not hok))
      have h4 := free_four hok
      clear hf hf' hok hq
      rcases h4 with g1 | ⟨g1, g2⟩ | ⟨g1, g2, g3⟩ | ⟨g1, g2, g3, g4⟩
      all_goals (
        go_wp2_with (first
          | (go_at_call 40; refine (HMi.out _ _ _ HS6.out).mono ?_; rintro e w4 ⟨A6, c6, rfl, _, hs4, hb4⟩; have HB4 := Lib.hid (bcall HB3.out hb4); have HS7 := Lib.hid (HS6.out.below hb4 (Nat.le_refl _)); have HM4 := Lib.hid hs4; clear hb4 hs4)
          | (go_at_call 41; refine (HFB.out _ HS7.out).mono ?_; rintro e w5 ⟨rfl, hd5⟩; have HB5 := Lib.hid (bcall HB4.out (hd5.below w4.heap.size)); have HS8 := Lib.hid (HS7.out.below (hd5.below w4.heap.size) (Nat.le_refl _)); have HM5 := Lib.hid (HM4.out.below (hd5.below w4.heap.size) (Nat.le_refl _)); clear hd5)
          | (go_at_call 42; refine (HRF.out _ HS8.out).mono ?_; rintro e w6 ⟨rfl, hd6⟩; have HB6 := Lib.hid (bcall HB5.out (hd6.below w5.heap.size)); have HS9 := Lib.hid (HS8.out.below (hd6.below w5.heap.size) (Nat.le_refl _)); have HM6 := Lib.hid (HM5.out.below (hd6.below w5.heap.size) (Nat.le_refl _)); clear hd6)
          | (go_at_call 44; refine (HMR.out _ HS9.out).mono ?_; rintro e w7 ⟨A8, c8, rfl, hs7, hb7⟩; have HB7 := Lib.hid (bcall HB6.out hb7); have HM7 := Lib.hid (HM6.out.below hb7 (Nat.le_refl _)); have HR7 := Lib.hid hs7; clear hs7 hb7)
          | (go_at_call 43; refine (own_texts A6 A8 q c6 c8 _ _ HM7.out HR7.out hq4).mono ?_; rintro e w8 ⟨rfl, hb8⟩; have HB8 := Lib.hid (bcall HB7.out hb8); clear hb8)
          | (go_at_call 21; refine (HAW.out _).mono ?_; rintro e wl ⟨rfl, hbl⟩; have HBL := Lib.hid (bcall HB8.out hbl); clear hbl))
        go_ret
        exact ⟨rfl, HBL.out⟩)
theorem families_law (a0 : Option Addr) (len0 cap0 : Nat) (ss : List ByteArray) (x0 x1 : Int) (b0 : (Lit.int .i64 x0).wf = true) (b1 : (Lit.int .i64 x1).wf = true) (w : World) (h : IsTexts w a0 len0 cap0 ss) :
    Calls Try.prog 8 #[.slice a0 len0 cap0, .agg #[.int .i64 x0, .int .i64 x1]] w fun e w' => e = .returned (.bool true) ∧ Below w.heap.size w w' :=
  families_walk x0 x1 a0 len0 cap0 _ w (Sls.of_row h).1 (Sls.of_row h).2.1 (Sls.of_row h).2.2
end Go.Proofs.Ytkemcmeagnggeaa
