import Derived.Test.YtkemcmeagnggeaaT16
import Derived.Test.YtkemcmeagnggeaaT12
import Derived.Test.YtkemcmeagnggeaaT13
/- Layer 3: the program's Free. -/
namespace Go.Proofs.Ytkemcmeagnggeaa
open Go.RowKit Go.Maps Go.ChangeShapes Go.WideMaps
set_option linter.unusedVariables false

/-- A sum over the states after j letters more. -/
def freeU (ss : List ByteArray) (k : Nat) : Nat → (St4 → Nat) → St4 → Nat
  | 0, g => g
  | j + 1, g => freeU ss k j (outS ss k g)
def freeOk (ss : List ByteArray) (k n : Int) : Bool := famB ss && lettersK k && decide (0 ≤ n) && decide (n ≤ 30)
def start4 (ss : List ByteArray) : List (St4 × Nat) := if hasS ss ByteArray.empty then [] else [(((0, 0), (0, 0)), 1)]
/-- How many words of j letters hold no member. -/
def freeT (ss : List ByteArray) (k j : Nat) : Nat := sumL (freeU ss k j fun _ => 1) (start4 ss)
def freeL (ss : List ByteArray) (k n : Nat) : List Int := (List.range (n + 1)).map fun j => (freeT ss k j : Int)
theorem freeL_zero (ss : List ByteArray) (k : Nat) : freeL ss k 0 = [(freeT ss k 0 : Int)] := rfl
theorem freeL_succ (ss : List ByteArray) (k n : Nat) : freeL ss k (n + 1) = freeL ss k n ++ [(freeT ss k (n + 1) : Int)] := by
  unfold freeL
  rw [List.range_succ, List.map_append]; rfl
theorem freeL_length (ss : List ByteArray) (k n : Nat) : (freeL ss k n).length = n + 1 := by unfold freeL; simp
theorem st4_len {l : List St4} (hn : l.Nodup) (h : ∀ s ∈ l, s.1.1 ≤ 8 ∧ s.1.2 ≤ 8 ∧ s.2.1 ≤ 8 ∧ s.2.2 ≤ 8) : l.length ≤ 6561 := by
  have := nodup_into (l := l) (m := (List.range 9).flatMap fun a => (List.range 9).flatMap fun b => (List.range 9).flatMap fun c => (List.range 9).map fun d => (((a, b), (c, d)) : St4)) hn fun s hs => by
    obtain ⟨⟨a, b⟩, ⟨c, d⟩⟩ := s
    have h0 := h _ hs
    dsimp only at h0
    simp only [List.mem_flatMap, List.mem_map, List.mem_range]
    exact ⟨a, by omega, b, by omega, c, by omega, d, by omega, rfl⟩
  refine Nat.le_trans this ?_
  simp [List.length_flatMap]
  decide
theorem okS_len {ss : List ByteArray} {L : List (St4 × Nat)} (hn : (L.map (·.1)).Nodup) (h : ∀ p ∈ L, okS ss p.1) : L.length ≤ 6561 := by
  have := st4_len hn fun s hs => by
    obtain ⟨p, hp, rfl⟩ := List.mem_map.1 hs
    have h0 := (h p hp).2 0
    have h1 := (h p hp).2 1
    have h2 := (h p hp).2 2
    have h3 := (h p hp).2 3
    simp [getS] at h0 h1 h2 h3
    exact ⟨h0, h1, h2, h3⟩
  simpa using this
/-- After j letters. -/
structure FrI (ss : List ByteArray) (k : Nat) (w wr : World) (nb n' : Nat) (L : List (St4 × Nat)) (v : Value) (j : Nat) : Prop where
  map : KL encProg wr nb n' L
  ok : ∀ p ∈ L, okS ss p.1
  sum : ∀ g, sumL g L = sumL (freeU ss k j g) (start4 ss)
  num : sumL (fun _ => 1) L ≤ 4 ^ j
  out : Ow wr w.heap.size 3 v (freeL ss k j)
  below : Below w.heap.size w wr
theorem FrI.nodup {ss : List ByteArray} {k : Nat} {w wr : World} {nb n' : Nat} {L : List (St4 × Nat)} {v : Value} {j : Nat} (h : FrI ss k w wr nb n' L v j) : (L.map (·.1)).Nodup := by
  obtain ⟨D, _, hR⟩ := h.map
  exact hR.nodup
theorem pow30 {j : Nat} (h : j ≤ 30) : 4 ^ j ≤ 1152921504606846976 := Nat.le_trans (Nat.pow_le_pow_right (by omega) h) (by decide)
theorem famB_fam {ss : List ByteArray} (h : famB ss = true) {i : Nat} (hi : i < ss.length) : famTo ss i = true := by
  cases hq : famTo ss i with
  | true => rfl
  | false => have := famB_bad hi hq; rw [h] at this; cases this
theorem famB_len {ss : List ByteArray} (h : famB ss = true) : ss.length ≤ 4 := by
  have := famB_good fun j hj => famB_fam h hj
  rw [h] at this
  exact of_decide_eq_true this
theorem famB_mem {ss : List ByteArray} (h : famB ss = true) (i : Nat) : memN ss i ≤ 8 := by
  by_cases hi : i < ss.length
  · have := famB_fam h hi
    unfold famTo at this
    rw [Bool.and_eq_true] at this
    exact of_decide_eq_true this.2
  · unfold memN
    rw [List.getElem?_eq_none (by omega)]
    exact Nat.zero_le _
theorem start_ok {ss : List ByteArray} : ∀ p ∈ start4 ss, okS ss p.1 := by
  intro p hp
  unfold start4 at hp
  split at hp
  · cases hp
  · rename_i hno
    rw [List.mem_singleton] at hp
    subst hp
    refine ⟨fun i hi => ?_, fun i => ?_⟩
    · have h0 : getS ((0, 0), (0, 0)) i = 0 := by unfold getS; split <;> (try split) <;> (try split) <;> rfl
      rw [h0]
      unfold memN
      rw [List.getElem?_eq_getElem hi, Option.getD_some]
      refine Nat.pos_of_ne_zero fun e => hno (hasS_iff.2 ?_)
      have he : ss[i] = ByteArray.empty := by
        cases hx : ss[i] with | mk d => rw [hx] at e; have : d = #[] := Array.eq_empty_of_size_eq_zero e; rw [this]; rfl
      rw [← he]
      exact List.getElem_mem _
    · unfold getS; split <;> (try split) <;> (try split) <;> exact Nat.zero_le _
theorem freeT_zero (ss : List ByteArray) (k : Nat) : freeT ss k 0 = sumL (fun _ => 1) (start4 ss) := rfl
theorem start_le (ss : List ByteArray) : sumL (fun _ => 1) (start4 ss) ≤ 1 := by
  unfold start4
  split <;> simp [sumL]
section
variable (w : World) {ops : Array Oper} {rest : List Oper} {o : Oper} {a : Act} {Q : Exit → Act → World → Prop}
set_option maxRecDepth 100000 in
/-- 'm[k] = c' at a map of counts that holds nothing. -/
theorem storeL_law (hg : o.guard = none) (m x v : Operand) (t : TypeId) (hop : o.op = Op.mapUpdate t m x v) (ht : Try.prog.underlying t = some (.map 100 3)) (b n : Nat) (L : List (St4 × Nat))
    (hm : a.eval m = .map (some b)) (hown : KL encProg w b n L) (hn : n ≤ 1099511627776) {k : St4} (hk : stOk k) (hx : a.eval x = stV k) (c z : Nat) (hv : a.eval v = .int .i64 (z : Int)) (hz : z = cntL L k + c) (hz2 : z ≤ 1152921504606846976)
    (hK : ∀ w', KL encProg w' b (n + 1) (addL L k c) → World.grownBy w w' (some b) → wpList Try.prog ops Q rest (a.put o.dst undef) w') : wpList Try.prog ops Q (o :: rest) a w := by
  obtain ⟨D, hD, hR⟩ := hown
  exact wpList_mapUpdate_own w hg m x v t hop 100 3 keyProg ht _ b n D hm hD (by unfold maxLen; omega) _ _ _ hx hv (encProg.key k hk) _ [] (plainElem_int Try.underlying3 (WalkArith.wf_i64 (by omega))) fun w' h1 h2 => hK w' ⟨_, h1, hR.put encProg hk c z hz⟩ h2
end
theorem next_le {ss : List ByteArray} {k j : Nat} {L L2 : List (St4 × Nat)} (hs : ∀ g, sumL g L2 = sumL (outS ss k g) L) (h4 : sumL (fun _ => 1) L * k ≤ 4 ^ (j + 1)) (hp : 4 ^ (j + 1) ≤ 1152921504606846976) : sumL (fun _ => 1) L2 ≤ 1152921504606846976 := by
  rw [hs]
  exact Nat.le_trans (sum_out ss k L) (Nat.le_trans h4 hp)
theorem map_ne {w : World} {nb n B e : Nat} {L : List (St4 × Nat)} {v : Value} {zs : List Int} (h : KL encProg w nb n L) (hv : Ow w B e v zs) : some nb ≠ v.ownBlock := fun e1 => by
  obtain ⟨D, ⟨es, clock, hb, _⟩, _⟩ := h
  rcases hv.2 with ⟨h, _⟩ | ⟨g', cap, cur, h, _, hh, _⟩
  · rw [h] at e1; cases e1
  · rw [h] at e1
    have : nb = g' := by simpa [Value.ownBlock] using e1
    subst this
    rw [hb] at hh
    cases hh
/-- A letter more, and what the append leaves. -/
theorem FrI.step {ss : List ByteArray} {k : Nat} {w wr w6 w7 : World} {nb n' nb2 n2 : Nat} {L L2 : List (St4 × Nat)} {v : Value} {j : Nat} (h : FrI ss k w wr nb n' L v j) (hj : j ≤ 30) (hs : ∀ g, sumL g L2 = sumL (outS ss k g) L) (ho : ∀ p ∈ L2, okS ss p.1) (hm : KL encProg w6 nb2 n2 L2)
    (h4 : sumL (fun _ => 1) L * k ≤ 4 ^ (j + 1)) (hb6 : Below wr.heap.size wr w6) (hb7 : Below w6.heap.size w6 w7) :
    True ∧ Ow w7 w.heap.size 3 v (freeL ss k j) ∧ (freeL ss k j).length ≤ 1099511627776 ∧ w.heap.size ≤ w7.heap.size ∧
      ∀ v8 w8, Ow w8 w.heap.size 3 v8 (freeL ss k j ++ [((sumL (fun _ => 1) L2 : Nat) : Int)]) → w7.grownBy w8 v.ownBlock → FrI ss k w w8 nb2 n2 L2 v8 (j + 1) := by
  have hw7 : w.heap.size ≤ w7.heap.size := Nat.le_trans h.below.size (Nat.le_trans hb6.size hb7.size)
  have ho7 : Ow w7 w.heap.size 3 v (freeL ss k j) := (h.out.below hb6 (Nat.le_refl _)).below hb7 (Nat.le_refl _)
  have hm7 : KL encProg w7 nb2 n2 L2 := hm.below hb7 hm.lt
  have hsum : ∀ g, sumL g L2 = sumL (freeU ss k (j + 1) g) (start4 ss) := fun g => by rw [hs, h.sum]; rfl
  refine ⟨trivial, ho7, by rw [freeL_length]; omega, hw7, fun v8 w8 h8 hg => ⟨hm7.grown hg (map_ne hm7 ho7), ho, hsum, ?_, ?_, ?_⟩⟩
  · rw [hs]
    exact Nat.le_trans (sum_out ss k L) h4
  · rw [freeL_succ]
    have : sumL (fun _ => 1) L2 = freeT ss k (j + 1) := hsum _
    rw [← this]
    exact h8
  · exact ((h.below.trans (hb6.mono h.below.size)).trans (hb7.mono (Nat.le_trans h.below.size hb6.size))).grown hg hw7 (fun g e => (ho7.lt e).1)
set_option maxRecDepth 100000 in
set_option maxHeartbeats 3200000 in
theorem freeP_any (A : Option Addr) (m cp : Nat) (ss : List ByteArray) (k n : Nat) (w : World) (hl : ss.length = m) (hr : Rds w A ss) (hA : ∀ a, A = some a → a.block < w.heap.size) (h : freeOk ss k n = true) :
    Calls Try.prog 41 #[.slice A m cp, .int .i64 k, .int .i64 n] w fun e w' => (∃ v, e = .returned (.tuple #[v, .int .i64 0]) ∧ Ow w' w.heap.size 3 v (freeL ss k n)) ∧ Below w.heap.size w w' := by
  unfold freeOk at h
  simp only [Bool.and_eq_true, decide_eq_true_eq] at h
  obtain ⟨⟨⟨hf, hk⟩, -⟩, hn⟩ := h
  have hn30 : n ≤ 30 := by omega
  have hm4 : m ≤ 4 := by rw [← hl]; exact famB_len hf
  obtain ⟨k', hk', hk1, hk4⟩ := lettersK_iff.1 hk
  obtain rfl : k = k' := by omega
  have hz8 := famB_mem hf
  have HF1 := Lib.hid (isFamily_any A m cp ss w hl (by omega) hr (fun i => Nat.le_trans (hz8 i) (by omega)))
  rw [hf] at HF1
  have HL := Lib.hid (fun W => isLetters_is k true W hk)
  have HCT : Hid (∀ W, Below w.heap.size w W → Calls Try.prog 62 #[.slice A m cp, .string ByteArray.empty] W fun e w' => e = .returned (.bool (hasS ss ByteArray.empty)) ∧ W = w') := fun W hb => containsS_any A m cp ss _ W hl (by omega) (rds_below hr hA hb)
  have HLG : Hid (∀ W b n' L, Below w.heap.size w W → KL encProg W b n' L → (∀ p ∈ L, okS ss p.1) → L.length ≤ 100000 → sumL (fun _ => 1) L * k ≤ 1152921504606846976 →
      Calls Try.prog 67 #[.slice A m cp, .int .i64 k, .map (some b)] W fun e w' => (∃ nb n' L', e = .returned (.map (some nb)) ∧ KL encProg w' nb n' L' ∧ (∀ p ∈ L', okS ss p.1) ∧ (∀ g, sumL g L' = sumL (outS ss k g) L)) ∧ Below W.heap.size W w') :=
    fun W b n' L hb h1 h2 h3 h4 => longer_any A m cp k ss b n' L W hl hm4 hk4 (rds_below hr hA hb) (fun a e => Nat.lt_of_lt_of_le (hA a e) hb.size) hz8 h1 h2 h3 h4
  have HTO : Hid (∀ W b n' L, KL encProg W b n' L → sumL (fun _ => 1) L ≤ 1152921504606846976 → Calls Try.prog 66 #[.map (some b)] W fun e w' => e = .returned (.int .i64 (sumL (fun _ => 1) L : Nat)) ∧ Below W.heap.size W w') := fun W b n' L h1 h2 => total_any b n' L W h1 h2
  obtain ⟨i0, hi, hz0, hz1, hz2⟩ := info_parts Try.infoInt
  have HI : Hid (Try.prog.info? 3 = some i0 ∧ i0.zero = some (.int .i64 0) ∧ i0.size = 1 ∧ i0.bytes = 8) := ⟨hi, hz0, hz1, hz2⟩
  have hmm := @run_makeMap Try.prog
  have hnn : decide ((n : Int) < 0) = false := decide_eq_false (by omega)
  have hn31 : decide (30 < (n : Int)) = false := decide_eq_false (by omega)
  clear hi hz0 hz1 hz2 hr hl hf hk hk' hn hz8
  go_enter Try.func41, Try.ntmps41
  have hst4 : start4 ss = if hasS ss ByteArray.empty then [] else [(((0, 0), (0, 0)), 1)] := rfl
  cases hq : hasS ss ByteArray.empty
  · rw [hq] at HCT hst4
    rw [if_neg (by simp)] at hst4
    have HST4 := Lib.hid hst4
    clear hst4
    go_wp2_with (first | (go_at_call 61; refine HF1.out.mono ?_; rintro e w1 ⟨rfl, hd1⟩; have hb1 := below_of_dr (B := w.heap.size) hd1) | (go_at_call 56; refine (HL.out _).mono ?_; rintro e w2 ⟨rfl, rfl⟩) | (go_at_call 62; refine (HCT.out _ (hb1.alloc hb1.size _)).mono ?_; rintro e w3 ⟨rfl, rfl⟩) | (refine storeL_law _ rfl (.tmp 30) (.tmp 31) (.const (.int .i64 1)) 99 rfl Try.underlying99 w1.heap.size 0 [] rfl (KL.made encProg w1) (by omega) (k := ((0, 0), (0, 0))) ⟨by simp, by simp, by simp, by simp⟩ rfl 1 1 rfl rfl (by omega) ?_; intro w4 hm4 hg4; have HM4 : Hid (KL encProg w4 w1.heap.size 1 (start4 ss)) := (by rw [HST4.out]; exact hm4); have HB4 : Hid (Below w.heap.size w w4) := ((hb1.alloc hb1.size _).grown hg4 (by have := hb1.size; simp; omega) (fun j e => by injection e with e; have := hb1.size; omega)); clear hm4 hg4) | (go_at_call 66; refine (HTO.out _ _ _ _ HM4.out (Nat.le_trans (start_le ss) (by omega))).mono ?_; rintro e w5 ⟨rfl, hb5⟩))
    clear hmm hnn hn31 HF1 HL HCT
    have HJ0 : Hid (FrI ss k w (w5.alloc (.cells #[.int .i64 (sumL (fun _ => 1) (start4 ss) : Nat)] 3)) w1.heap.size 1 (start4 ss) (.slice (some ⟨w5.heap.size, 0, none⟩) 1 1) 0) :=
      ⟨(HM4.out.below hb5 HM4.out.lt).grown (World.grownBy_alloc _ _ none) (by simp), start_ok, fun g => rfl, start_le ss, Ow.one _ _ _ _ (by have := HB4.out.size; have := hb5.size; omega), (HB4.out.trans (hb5.mono HB4.out.size)).alloc (by have := HB4.out.size; have := hb5.size; omega) _⟩
    clear hb5 HM4 HB4
    go_loopw [8, 9, 36] (fun mp v i wr => ∃ (nb n' : Nat) (L : List (St4 × Nat)) (j : Nat), j ≤ n ∧ mp = .map (some nb) ∧ i = .int .i64 (j : Int) ∧ Hid (FrI ss k w wr nb n' L v j)) (fun _ _ i _ => n - (intOf i).toNat)
    case atStart => exact ⟨_, _, _, 0, by omega, rfl, by go_num, HJ0⟩
    case round =>
      obtain ⟨nb, n', L, j, hj, rfl, rfl, HJ⟩ := hrel
      clear HJ0
      by_cases hlt : j < n
      · have hlj : (j : Int) < (n : Int) := by omega
        have hs4 : sumL (fun _ => 1) L * k ≤ 4 ^ (j + 1) := Nat.le_trans (Nat.mul_le_mul HJ.out.num hk4) (by rw [Nat.pow_succ]; exact Nat.le_refl _)
        have hp4 := pow30 (j := j + 1) (by omega)
        have HLL := Lib.hid (HLG.out _ nb n' L HJ.out.below HJ.out.map HJ.out.ok (Nat.le_trans (okS_len HJ.out.nodup HJ.out.ok) (by omega)) (Nat.le_trans hs4 hp4))
        have HS4 := Lib.hid hs4; clear hs4
        have HP4 := Lib.hid hp4; clear hp4
        go_wp2_with (first | (go_at_call 67; refine HLL.out.mono ?_; rintro e w6 ⟨⟨nb2, n2, L2, rfl, hm2, ho2, hs2⟩, hb6⟩; have HS2 := Lib.hid hs2; have HO2 := Lib.hid ho2; have HM2 := Lib.hid hm2; clear hs2 ho2 hm2) | (go_at_call 66; refine (HTO.out _ _ _ _ HM2.out (next_le HS2.out HS4.out HP4.out)).mono ?_; rintro e w7 ⟨rfl, hb7⟩; have HJ7 := Lib.hid (HJ.out.step (by omega) HS2.out HO2.out HM2.out HS4.out hb6 hb7); clear hb6 hb7) | (at_builtin; go_must (refine push_law _ rfl (.tmp 42) (.tmp 45) 23 rfl w.heap.size 3 i0 Try.underlying23 HI.out _ (freeL ss k j) (sumL (fun _ => 1) L2 : Nat) rfl rfl HJ7.out.2.1 HJ7.out.2.2.1 HJ7.out.2.2.2.1 ?_); intro v8 w8 hv8 hg8 hat8; have HN := Lib.hid (HJ7.out.2.2.2.2 v8 w8 hv8 hg8); clear hv8 hg8 hat8))
        go_roundw
        case rel => exact ⟨_, _, _, j + 1, by omega, rfl, by go_num, HN⟩
        case measure => (simp [intOf]; try omega)
      · obtain rfl : j = n := by omega
        go_wp2
        go_ret2
        exact ⟨⟨_, rfl, HJ.out.out⟩, HJ.out.below⟩
  · rw [hq] at HCT hst4
    rw [if_pos rfl] at hst4
    have HST4 := Lib.hid hst4
    clear hst4
    go_wp2_with (first | (go_at_call 61; refine HF1.out.mono ?_; rintro e w1 ⟨rfl, hd1⟩; have hb1 := below_of_dr (B := w.heap.size) hd1) | (go_at_call 56; refine (HL.out _).mono ?_; rintro e w2 ⟨rfl, rfl⟩) | (go_at_call 62; refine (HCT.out _ (hb1.alloc hb1.size _)).mono ?_; rintro e w3 ⟨rfl, rfl⟩; have HM4 : Hid (KL encProg (w1.alloc (.map #[] 0)) w1.heap.size 0 (start4 ss)) := (by rw [HST4.out]; exact KL.made encProg w1); have HB4 : Hid (Below w.heap.size w (w1.alloc (.map #[] 0))) := hb1.alloc hb1.size _) | (go_at_call 66; refine (HTO.out _ _ _ _ HM4.out (Nat.le_trans (start_le ss) (by omega))).mono ?_; rintro e w5 ⟨rfl, hb5⟩))
    clear hmm hnn hn31 HF1 HL HCT
    have HJ0 : Hid (FrI ss k w (w5.alloc (.cells #[.int .i64 (sumL (fun _ => 1) (start4 ss) : Nat)] 3)) w1.heap.size 0 (start4 ss) (.slice (some ⟨w5.heap.size, 0, none⟩) 1 1) 0) :=
      ⟨(HM4.out.below hb5 HM4.out.lt).grown (World.grownBy_alloc _ _ none) (by simp), start_ok, fun g => rfl, start_le ss, Ow.one _ _ _ _ (by have := HB4.out.size; have := hb5.size; omega), (HB4.out.trans (hb5.mono HB4.out.size)).alloc (by have := HB4.out.size; have := hb5.size; omega) _⟩
    clear hb5 HM4 HB4
    go_loopw [8, 9, 36] (fun mp v i wr => ∃ (nb n' : Nat) (L : List (St4 × Nat)) (j : Nat), j ≤ n ∧ mp = .map (some nb) ∧ i = .int .i64 (j : Int) ∧ Hid (FrI ss k w wr nb n' L v j)) (fun _ _ i _ => n - (intOf i).toNat)
    case atStart => exact ⟨_, _, _, 0, by omega, rfl, by go_num, HJ0⟩
    case round =>
      obtain ⟨nb, n', L, j, hj, rfl, rfl, HJ⟩ := hrel
      clear HJ0
      by_cases hlt : j < n
      · have hlj : (j : Int) < (n : Int) := by omega
        have hs4 : sumL (fun _ => 1) L * k ≤ 4 ^ (j + 1) := Nat.le_trans (Nat.mul_le_mul HJ.out.num hk4) (by rw [Nat.pow_succ]; exact Nat.le_refl _)
        have hp4 := pow30 (j := j + 1) (by omega)
        have HLL := Lib.hid (HLG.out _ nb n' L HJ.out.below HJ.out.map HJ.out.ok (Nat.le_trans (okS_len HJ.out.nodup HJ.out.ok) (by omega)) (Nat.le_trans hs4 hp4))
        have HS4 := Lib.hid hs4; clear hs4
        have HP4 := Lib.hid hp4; clear hp4
        go_wp2_with (first | (go_at_call 67; refine HLL.out.mono ?_; rintro e w6 ⟨⟨nb2, n2, L2, rfl, hm2, ho2, hs2⟩, hb6⟩; have HS2 := Lib.hid hs2; have HO2 := Lib.hid ho2; have HM2 := Lib.hid hm2; clear hs2 ho2 hm2) | (go_at_call 66; refine (HTO.out _ _ _ _ HM2.out (next_le HS2.out HS4.out HP4.out)).mono ?_; rintro e w7 ⟨rfl, hb7⟩; have HJ7 := Lib.hid (HJ.out.step (by omega) HS2.out HO2.out HM2.out HS4.out hb6 hb7); clear hb6 hb7) | (at_builtin; go_must (refine push_law _ rfl (.tmp 42) (.tmp 45) 23 rfl w.heap.size 3 i0 Try.underlying23 HI.out _ (freeL ss k j) (sumL (fun _ => 1) L2 : Nat) rfl rfl HJ7.out.2.1 HJ7.out.2.2.1 HJ7.out.2.2.2.1 ?_); intro v8 w8 hv8 hg8 hat8; have HN := Lib.hid (HJ7.out.2.2.2.2 v8 w8 hv8 hg8); clear hv8 hg8 hat8))
        go_roundw
        case rel => exact ⟨_, _, _, j + 1, by omega, rfl, by go_num, HN⟩
        case measure => (simp [intOf]; try omega)
      · obtain rfl : j = n := by omega
        go_wp2
        go_ret2
        exact ⟨⟨_, rfl, HJ.out.out⟩, HJ.out.below⟩
set_option maxHeartbeats 1600000 in
theorem freeP_bad (A : Option Addr) (m cp : Nat) (ss : List ByteArray) (k n : Int) (w : World) (hl : ss.length = m) (hm : m ≤ 1099511627776) (hr : Rds w A ss) (hz : ∀ i : Nat, (ss[i]?.getD ByteArray.empty).size ≤ 1099511627776) (h : freeOk ss k n = false) :
    Calls Try.prog 41 #[.slice A m cp, .int .i64 k, .int .i64 n] w fun e w' => e = .returned (.tuple #[.slice none 0 0, .int .i64 2]) ∧ Dr w w' := by
  have HF : Hid (∀ W b, Dr w W → famB ss = b → Calls Try.prog 61 #[.slice A m cp] W fun e w' => e = .returned (.bool b) ∧ Dr W w') := fun W b hd hb => by subst hb; exact isFamily_any A m cp ss W hl hm (hr.dr hd) hz
  by_cases h1 : famB ss = true
  · have HF1 := Lib.hid (HF.out w true (Dr.refl _) h1)
    by_cases h2 : lettersK k = true
    · have HL := Lib.hid (fun W => isLetters_is k true W h2)
      have h3 : ¬ (0 ≤ n ∧ n ≤ 30) := fun h3 => by unfold freeOk at h; rw [h1, h2, decide_eq_true h3.1, decide_eq_true h3.2] at h; cases h
      clear h h1 h2 HF
      by_cases h4 : n < 0
      · go_enter Try.func41, Try.ntmps41
        go_wp2_with (first | (go_at_call 61; refine HF1.out.mono ?_; rintro e w1 ⟨rfl, hd1⟩) | (go_at_call 56; refine (HL.out _).mono ?_; rintro e w2 ⟨rfl, rfl⟩))
        go_ret2
        exact ⟨rfl, hd1⟩
      · have h5 : 30 < n := by omega
        go_enter Try.func41, Try.ntmps41
        go_wp2_with (first | (go_at_call 61; refine HF1.out.mono ?_; rintro e w1 ⟨rfl, hd1⟩) | (go_at_call 56; refine (HL.out _).mono ?_; rintro e w2 ⟨rfl, rfl⟩))
        go_ret2
        exact ⟨rfl, hd1⟩
    · have HL := Lib.hid (fun W => isLetters_is k false W (by simpa using h2))
      clear h h1 h2 HF
      go_enter Try.func41, Try.ntmps41
      go_wp2_with (first | (go_at_call 61; refine HF1.out.mono ?_; rintro e w1 ⟨rfl, hd1⟩) | (go_at_call 56; refine (HL.out _).mono ?_; rintro e w2 ⟨rfl, rfl⟩))
      go_ret2
      exact ⟨rfl, hd1⟩
  · have HF1 := Lib.hid (HF.out w false (Dr.refl _) (by simpa using h1))
    clear h h1 HF
    go_enter Try.func41, Try.ntmps41
    go_wp2_with (first | (go_at_call 61; refine HF1.out.mono ?_; rintro e w1 ⟨rfl, hd1⟩))
    go_ret2
    exact ⟨rfl, hd1⟩
end Go.Proofs.Ytkemcmeagnggeaa
/- Layer 3: the values at the fixed inputs of awake. -/
namespace Go.Proofs.Ytkemcmeagnggeaa
open Go.RowKit
set_option linter.unusedVariables false

def sAbab : ByteArray := ⟨#[97, 98, 97, 98]⟩
def sArch : ByteArray := ⟨#[97, 98, 98, 97, 99, 97, 98]⟩
def sAb : ByteArray := ⟨#[97, 98]⟩
def sBa : ByteArray := ⟨#[98, 97]⟩
def sCc : ByteArray := ⟨#[99, 99]⟩
theorem bs_abab : bs sAbab = [97, 98, 97, 98] := by decide +kernel
theorem bs_arch : bs sArch = [97, 98, 98, 97, 99, 97, 98] := by decide +kernel
theorem bs_ab : bs sAb = [97, 98] := by decide +kernel
theorem bs_ba : bs sBa = [98, 97] := by decide +kernel
theorem bs_cc : bs sCc = [99, 99] := by decide +kernel
theorem word_abab : wordB (bs sAbab) = true := by decide +kernel
theorem word_ab : wordB (bs sAb) = true := by decide +kernel
theorem word_ba : wordB (bs sBa) = true := by decide +kernel
theorem ok_arch : archOk sArch (3 : Nat) = true := by decide +kernel
theorem cnt_abab : cntF (bs sAbab) 0 = 12 := by decide +kernel
theorem arch_arch : archC (bs sArch) 3 62 0 = [4] := by decide +kernel
theorem free_ok : freeOk [sAb] (2 : Nat) (3 : Nat) = true := by decide +kernel
theorem free_ab : freeL [sAb] 2 3 = [1, 2, 3, 4] := by decide +kernel
theorem isW_at {k : Nat} {x : Int} {y : List Int} (h : isW k (x :: y)) : ∃ c : Fin k, x = 97 + (c.val : Int) := by
  have := h x List.mem_cons_self
  exact ⟨⟨(x - 97).toNat, by omega⟩, by simp; omega⟩
theorem isW_tail {k : Nat} {x : Int} {y : List Int} (h : isW k (x :: y)) : isW k y := fun b hb => h b (List.mem_cons_of_mem _ hb)
instance (x y : List Int) : Decidable (leL x y) := by unfold leL; infer_instance
theorem less_long {x y : List Int} (h : x.length < y.length) : leL x y := by
  right
  unfold lessL
  rw [if_neg (by omega)]; exact decide_eq_true h
theorem isFirst_two {k : Nat} {p : List Int → Bool} {x : List Int} (hx : isW k x) (hl : x.length = 2) (hp : p x = true) (h0 : p [] = true → leL x []) (h1 : ∀ a : Fin k, p [97 + (a.val : Int)] = true → leL x [97 + (a.val : Int)])
    (h2 : ∀ a b : Fin k, p [97 + (a.val : Int), 97 + (b.val : Int)] = true → leL x [97 + (a.val : Int), 97 + (b.val : Int)]) : IsFirst k (fun y => p y = true) (some x) := by
  refine ⟨hx, hp, fun y hy hq => ?_⟩
  match y, hy, hq with
  | [], _, hq => exact h0 hq
  | [a], hy, hq =>
    obtain ⟨c, rfl⟩ := isW_at hy
    exact h1 c hq
  | [a, b], hy, hq =>
    obtain ⟨c, rfl⟩ := isW_at hy
    obtain ⟨d, rfl⟩ := isW_at (isW_tail hy)
    exact h2 c d hq
  | a :: b :: c :: y, _, _ => exact less_long (by rw [hl]; simp)
theorem first_cc : IsFirst 3 (fun y => subB y (bs sArch) = false) (some (bs sCc)) := by
  rw [bs_arch, bs_cc]
  have := isFirst_two (k := 3) (p := fun y => !subB y [97, 98, 98, 97, 99, 97, 98]) (x := [99, 99]) (by intro b hb; simp at hb; omega) rfl (by decide +kernel) (by decide +kernel) (by decide +kernel) (by decide +kernel)
  exact this.congr fun y _ => by simp
theorem first_ab : IsFirst 4 (DifP (bs sAb) (bs sBa)) (some (bs sAb)) := by
  rw [bs_ab, bs_ba]
  have := isFirst_two (k := 4) (p := fun y => subB y [97, 98] != subB y [98, 97]) (x := [97, 98]) (by intro b hb; simp at hb; omega) rfl (by decide +kernel) (by decide +kernel) (by decide +kernel) (by decide +kernel)
  exact this.congr fun y _ => by unfold DifP; simp
end Go.Proofs.Ytkemcmeagnggeaa
/- Layer 3: awake answers true. -/
namespace Go.Proofs.Ytkemcmeagnggeaa
open Go.RowKit
set_option linter.unusedVariables false

theorem Ow.four (w : World) (B e : Nat) (a b c d : Int) (hB : B ≤ w.heap.size) : Ow (w.alloc (.cells #[.int .i64 a, .int .i64 b, .int .i64 c, .int .i64 d] e)) B e (.slice (some ⟨w.heap.size, 0, none⟩) 4 4) [a, b, c, d] := by
  have h := World.ownsRow_lit (base := B) (e := e) (size := 1) w #[.int .i64 a, .int .i64 b, .int .i64 c, .int .i64 d] 4 hB (by unfold maxLen; omega) rfl
  simpa [Ow] using h
theorem Sl.four (w : World) (e : Nat) (a b c d : Int) : Sl (w.alloc (.cells #[.int .i64 a, .int .i64 b, .int .i64 c, .int .i64 d] e)) (some ⟨w.heap.size, 0, none⟩) 4 4 [a, b, c, d] := by
  obtain ⟨A, z, h, hs⟩ := (Ow.four w 0 e a b c d (by omega)).sl_len (n := 4) rfl (by omega)
  injection h with h1 h2 h3
  subst h1; subst h3
  exact hs
theorem Sl.one (w : World) (e : Nat) (a : Int) : Sl (w.alloc (.cells #[.int .i64 a] e)) (some ⟨w.heap.size, 0, none⟩) 1 1 [a] := by
  obtain ⟨A, z, h, hs⟩ := (Ow.one w 0 e a (by omega)).sl_len (n := 1) rfl (by omega)
  injection h with h1 h2 h3
  subst h1; subst h3
  exact hs
theorem Sl.alloc' {w : World} {A : Option Addr} {n c : Nat} {zs : List Int} (h : Sl w A n c zs) (o : Obj) : Sl (w.alloc o) A n c zs :=
  h.below ((Below.refl w.heap.size w).alloc (Nat.le_refl _) o) (Nat.le_refl _)
theorem aw_count (u : World) : Calls Try.prog 25 #[.string ⟨#[97, 98, 97, 98]⟩] u fun e w' => e = .returned (.tuple #[.int .i64 12, .int .i64 0]) ∧ Below u.heap.size u w' := by
  have := countP_any sAbab u word_abab
  rw [cnt_abab] at this
  exact this
theorem aw_arches (u : World) : Calls Try.prog 31 #[.string ⟨#[97, 98, 98, 97, 99, 97, 98]⟩, .int .i64 3] u fun e w' => ∃ B d, e = .returned (.tuple #[.slice B 1 d, .int .i64 0]) ∧ Sl w' B 1 d [4] ∧ Below u.heap.size u w' := by
  refine (archesP_any sArch 3 u ok_arch).mono ?_
  rintro e w' ⟨v, rfl, ho, hb⟩
  rw [arch_arch] at ho
  obtain ⟨B, d, rfl, hs⟩ := ho.sl_len (n := 1) rfl (by omega)
  exact ⟨B, d, rfl, hs, hb⟩
theorem aw_absent (u : World) : Calls Try.prog 32 #[.string ⟨#[97, 98, 98, 97, 99, 97, 98]⟩, .int .i64 3] u fun e w' => e = .returned (.tuple #[.string ⟨#[99, 99]⟩, .int .i64 0]) ∧ Below u.heap.size u w' := by
  refine (absentP_any sArch 3 u ok_arch).mono ?_
  rintro e w' ⟨⟨x, rfl, hx⟩ | ⟨rfl, hx⟩, hb⟩
  · have := hx.uniq first_cc
    injection this with this
    rw [bs_inj this]
    exact ⟨rfl, hb⟩
  · have := hx.uniq first_cc
    cases this
theorem aw_differ (u : World) : Calls Try.prog 36 #[.string ⟨#[97, 98]⟩, .string ⟨#[98, 97]⟩] u fun e w' => e = .returned (.tuple #[.string ⟨#[97, 98]⟩, .int .i64 0]) ∧ Below u.heap.size u w' := by
  refine (differP_any sAb sBa u word_ab word_ba).mono ?_
  rintro e w' ⟨⟨x, rfl, hx⟩ | ⟨rfl, hx⟩, hb⟩
  · have := hx.uniq first_ab
    injection this with this
    rw [bs_inj this]
    exact ⟨rfl, hb⟩
  · have := hx.uniq first_ab
    cases this
theorem aw_free (u : World) : Calls Try.prog 41 #[.slice (some ⟨u.heap.size, 0, none⟩) 1 1, .int .i64 2, .int .i64 3] (u.alloc (.cells #[.string ⟨#[97, 98]⟩] 9)) fun e w' => ∃ B d, e = .returned (.tuple #[.slice B 4 d, .int .i64 0]) ∧ Sl w' B 4 d [1, 2, 3, 4] ∧ Below (u.alloc (.cells #[.string ⟨#[97, 98]⟩] 9)).heap.size (u.alloc (.cells #[.string ⟨#[97, 98]⟩] 9)) w' := by
  refine (freeP_any (some ⟨u.heap.size, 0, none⟩) 1 1 [sAb] 2 3 _ rfl ?_ ?_ free_ok).mono ?_
  · intro j hj
    obtain rfl : j = 0 := by simpa using hj
    refine ⟨u.heap.size, 0, rfl, ?_⟩
    rw [cell_of_row _ _ _ _ _ _ (heap_alloc_new u _)]
    rfl
  · intro a e
    injection e with e
    subst e
    simp
  · rintro e w' ⟨⟨v, rfl, ho⟩, hb⟩
    rw [free_ab] at ho
    obtain ⟨B, d, rfl, hs⟩ := ho.sl_len (n := 4) rfl (by omega)
    exact ⟨B, d, rfl, hs, hb⟩
set_option maxHeartbeats 800000 in
theorem awake_here (w : World) : Calls Try.prog 21 #[] w fun e w' => e = .returned (.bool true) ∧ Below w.heap.size w w' := by
  go_enter Try.func21, Try.ntmps21
  go_wp2_with (first | (go_at_call 25; refine (aw_count _).mono ?_; rintro e w1 ⟨rfl, hb1⟩) | (go_at_call 31; refine (aw_arches _).mono ?_; rintro e w2 ⟨B2, d2, rfl, hc2, hb2⟩) | (go_at_call 32; refine (aw_absent _).mono ?_; rintro e w3 ⟨rfl, hb3⟩) | (go_at_call 36; refine (aw_differ _).mono ?_; rintro e w4 ⟨rfl, hb4⟩) | (go_at_call 41; refine (aw_free w4).mono ?_; rintro e w5 ⟨B5, d5, rfl, hc5, hb5⟩))
  have hk1 := hc2.below hb3 (Nat.le_refl _)
  have hk2 := hk1.below hb4 (Nat.le_refl _)
  have hk3 := (hk2.alloc' (.cells #[.string ⟨#[97, 98]⟩] 9)).below hb5 (Nat.le_refl _)
  have HI := Lib.hid (ints_same B2 (some ⟨w5.heap.size, 0, none⟩) [4] 1 d2 1 _ rfl (by omega) (hk3.alloc' (.cells #[.int .i64 4] 3)).rd (Sl.one w5 3 4).rd)
  go_wp2_with (go_at_call 24; refine HI.out.mono ?_; clear HI; rintro e w6 ⟨rfl, hd6⟩)
  have hb6 := hd6.below (w5.alloc (.cells #[.int .i64 4] 3)).heap.size
  have hl6 := (hc5.alloc' (.cells #[.int .i64 4] 3)).below hb6 (Nat.le_refl _)
  have HJ := Lib.hid (ints_same B5 (some ⟨w6.heap.size, 0, none⟩) [1, 2, 3, 4] 4 d5 4 _ rfl (by omega) (hl6.alloc' (.cells #[.int .i64 1, .int .i64 2, .int .i64 3, .int .i64 4] 3)).rd (Sl.four w6 3 1 2 3 4).rd)
  go_wp2_with (go_at_call 24; refine HJ.out.mono ?_; clear HJ; rintro e w7 ⟨rfl, hd7⟩)
  go_ret
  have k1 : Kp w w1 := hb1
  have k2 := k1.call hb2
  have k3 := k2.call hb3
  have k4 := k3.call hb4
  have k5 := (k4.alloc _).call hb5
  have k6 := (k5.alloc _).call hb6
  exact ⟨rfl, (k6.alloc _).call (hd7.below _)⟩
end Go.Proofs.Ytkemcmeagnggeaa
