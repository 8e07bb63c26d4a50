import Derived.Test.YthlccidbphkfaaaT19
import Derived.Test.YthlccidbphkfaaaT22
import Derived.Test.YthlccidbphkfaaaT20
/- Layer 3, plain mathematics: all ways of leaving letters out. -/
namespace Go.Proofs.Ythlccidbphkfaaa
open Go.RowKit
set_option linter.unusedVariables false

def bitN (set i : Nat) : Nat := set / 2 ^ i % 2
/-- The letters of the set below place i. -/
def pickTo (x : List Int) (set : Nat) : Nat → List Int
  | 0 => []
  | i + 1 => pickTo x set i ++ if bitN set i = 1 then [x[i]?.getD 0] else []
theorem pickTo_sub (x : List Int) (set : Nat) : ∀ i, i ≤ x.length → (pickTo x set i).Sublist (x.take i) := by
  intro i
  induction i with
  | zero => intro _; exact List.nil_sublist _
  | succ i ih =>
    intro hi
    rw [pickTo, take_snoc (by omega)]
    refine List.Sublist.append (ih (by omega)) ?_
    split
    · exact List.Sublist.refl _
    · exact List.nil_sublist _
theorem pickTo_len (x : List Int) (set : Nat) : ∀ i, (pickTo x set i).length ≤ i := by
  intro i
  induction i with
  | zero => exact Nat.le_refl _
  | succ i ih =>
    rw [pickTo, List.length_append]
    split
    · rw [List.length_singleton]; omega
    · rw [List.length_nil]; omega
theorem bitN_add {set i n b : Nat} (hi : i < n) : bitN (set + b * 2 ^ n) i = bitN set i := by
  unfold bitN
  obtain ⟨k, rfl⟩ : ∃ k, n = i + (k + 1) := ⟨n - i - 1, by omega⟩
  rw [Nat.pow_add, ← Nat.mul_assoc, Nat.mul_comm b, Nat.mul_assoc, Nat.add_mul_div_left _ _ (Nat.two_pow_pos i), Nat.pow_succ, ← Nat.mul_assoc, Nat.mul_comm _ 2, Nat.add_mul_mod_self_left]
theorem bitN_top {set n b : Nat} (hs : set < 2 ^ n) (hb : b < 2) : bitN (set + b * 2 ^ n) n = b := by
  unfold bitN
  rw [Nat.mul_comm b, Nat.add_mul_div_left _ _ (Nat.two_pow_pos n), Nat.div_eq_of_lt hs, Nat.zero_add, Nat.mod_eq_of_lt hb]
theorem pickTo_congr {x : List Int} {s t : Nat} : ∀ i, (∀ j, j < i → bitN s j = bitN t j) → pickTo x s i = pickTo x t i
  | 0, _ => rfl
  | i + 1, h => by rw [pickTo, pickTo, pickTo_congr i (fun j hj => h j (by omega)), h i (by omega)]
/-- Every word that arises by leaving out letters is picked by a set. -/
theorem pick_all (x : List Int) : ∀ (n : Nat), n ≤ x.length → ∀ y : List Int, y.Sublist (x.take n) → ∃ set, set < 2 ^ n ∧ pickTo x set n = y := by
  intro n
  induction n with
  | zero =>
    intro _ y hy
    rw [List.take_zero] at hy
    exact ⟨0, by decide, (List.sublist_nil.1 hy).symm⟩
  | succ n ih =>
    intro hn y hy
    rw [take_snoc (by omega)] at hy
    obtain ⟨a, b, rfl, ha, hb⟩ := List.sublist_append_iff.1 hy
    obtain ⟨set, h1, h2⟩ := ih (by omega) a ha
    have key : ∀ c, c < 2 → set + c * 2 ^ n < 2 ^ (n + 1) ∧ pickTo x (set + c * 2 ^ n) (n + 1) = a ++ if c = 1 then [x[n]?.getD 0] else [] := fun c hc => by
      refine ⟨?_, ?_⟩
      · rw [Nat.pow_succ]
        have : c * 2 ^ n ≤ 1 * 2 ^ n := Nat.mul_le_mul_right _ (by omega)
        omega
      · rw [pickTo, pickTo_congr n (fun j hj => bitN_add hj), h2, bitN_top h1 hc]
    rcases sub_one hb with rfl | rfl
    · obtain ⟨k1, k2⟩ := key 0 (by omega)
      exact ⟨_, k1, by rw [k2]; rfl⟩
    · obtain ⟨k1, k2⟩ := key 1 (by omega)
      exact ⟨_, k1, by rw [k2]; rfl⟩
theorem pick_full {x y : List Int} : y.Sublist x ↔ ∃ set, set < 2 ^ x.length ∧ pickTo x set x.length = y := by
  constructor
  · intro h
    exact pick_all x x.length (Nat.le_refl _) y (by rw [List.take_length]; exact h)
  · rintro ⟨set, _, rfl⟩
    have := pickTo_sub x set x.length (Nat.le_refl _)
    rwa [List.take_length] at this
/-- A list of the different subsequences, in any order. -/
structure AllL (x : List Int) (L : List (List Int)) (T : Nat) : Prop where
  nd : L.Nodup
  mem : ∀ y, y ∈ L ↔ ∃ set, set < T ∧ pickTo x set x.length = y
theorem AllL.nil (x : List Int) : AllL x [] 0 := ⟨List.nodup_nil, fun y => ⟨fun h => (by cases h), fun ⟨s, hs, _⟩ => absurd hs (Nat.not_lt_zero s)⟩⟩
theorem AllL.skip {x : List Int} {L : List (List Int)} {T : Nat} (h : AllL x L T) (hm : pickTo x T x.length ∈ L) : AllL x L (T + 1) := by
  refine ⟨h.nd, fun y => ⟨fun hy => ?_, fun ⟨s, hs, hy⟩ => ?_⟩⟩
  · obtain ⟨s, h1, h2⟩ := (h.mem y).1 hy
    exact ⟨s, by omega, h2⟩
  · by_cases e : s = T
    · subst e; rw [← hy]; exact hm
    · exact (h.mem y).2 ⟨s, by omega, hy⟩
theorem AllL.push {x : List Int} {L : List (List Int)} {T : Nat} (h : AllL x L T) (hm : pickTo x T x.length ∉ L) : AllL x (L ++ [pickTo x T x.length]) (T + 1) := by
  refine ⟨List.nodup_append.2 ⟨h.nd, by simp, fun a ha b hb e => hm (by rw [← List.mem_singleton.1 hb, ← e]; exact ha)⟩, fun y => ⟨fun hy => ?_, fun ⟨s, hs, hy⟩ => ?_⟩⟩
  · rcases List.mem_append.1 hy with hy | hy
    · obtain ⟨s, h1, h2⟩ := (h.mem y).1 hy
      exact ⟨s, by omega, h2⟩
    · exact ⟨T, by omega, (List.mem_singleton.1 hy).symm⟩
  · by_cases e : s = T
    · subst e; rw [← hy]; exact List.mem_append_right _ (by simp)
    · exact List.mem_append_left _ ((h.mem y).2 ⟨s, by omega, hy⟩)
theorem AllL.subs {x : List Int} {L : List (List Int)} (hx : isW 4 x) (h : AllL x L (2 ^ x.length)) (y : List Int) : y ∈ L ↔ y ∈ subsF x 0 := by
  rw [h.mem, subs_mem, ← pick_full]
  exact ⟨fun hy => ⟨isW_sub hy hx, hy⟩, fun hy => hy.2⟩
/-- There are as many as Count says. -/
theorem AllL.count {x : List Int} {L : List (List Int)} (hx : isW 4 x) (h : AllL x L (2 ^ x.length)) : (L.length : Int) = cntF x 0 := by
  rw [← subsF_len]
  have h1 := nodup_into h.nd fun y hy => (h.subs hx y).1 hy
  have h2 := nodup_into (subsF_nodup x 0) fun y hy => (h.subs hx y).2 hy
  omega
end Go.Proofs.Ythlccidbphkfaaa
/- Layer 3: the walk of ThreadAll. -/
namespace Go.Proofs.Ythlccidbphkfaaa
open Go.RowKit
set_option linter.unusedVariables false

theorem Try.infoBool : (Try.prog.info? 4).map (fun i => (i.zero, i.size, i.bytes)) = some (some (.bool false), 1, 1) := by kernel_rfl
/-- The call owns the slice v of bools. -/
def Owl (w : World) (B : Nat) (v : Value) (vs : List Bool) : Prop := w.ownsRow B 4 1 v vs.length (vs.map Value.bool)
theorem Owl.cellAt {w : World} {B g n cap : Nat} {vs : List Bool} (h : Owl w B (.slice (some ⟨g, 0, none⟩) n cap) vs) (hn : vs.length = n) {k : Nat} (hk : k < n) : w.cell? ⟨g, k, none⟩ = some (.bool (vs[k]?.getD false)) := by
  subst hn
  have h' : w.ownsRow B 4 1 (.slice (some ⟨g, 0, none⟩) vs.length cap) vs.length (vs.map Value.bool) := h
  rw [h'.cellAt k (by omega), List.getElem?_map, List.getElem?_eq_getElem hk]
  rfl
theorem Owl.free {w : World} {B g n cap : Nat} {vs : List Bool} (h : Owl w B (.slice (some ⟨g, 0, none⟩) n cap) vs) (hn : vs.length = n) (k : Nat) : w.frozen? ⟨g, k, none⟩ = false := by
  subst hn
  have h' : w.ownsRow B 4 1 (.slice (some ⟨g, 0, none⟩) vs.length cap) vs.length (vs.map Value.bool) := h
  exact h'.frozenAt k
theorem Owl.put {w : World} {B g n cap : Nat} {vs : List Bool} (h : Owl w B (.slice (some ⟨g, 0, none⟩) n cap) vs) (hn : vs.length = n) (j : Nat) (x : Bool) :
    Owl (w.setCell ⟨g, j, none⟩ (.bool x)) B (.slice (some ⟨g, 0, none⟩) n cap) (vs.set j x) := by
  subst hn
  have h' : w.ownsRow B 4 1 (.slice (some ⟨g, 0, none⟩) vs.length cap) vs.length (vs.map Value.bool) := h
  have := (h'.stored j (.bool x)).1
  unfold Owl
  rw [List.length_set, List.map_set]
  exact this
theorem Owl.below {w w' : World} {B b : Nat} {v : Value} {zs : List Bool} (h : Owl w B v zs) (hb : Below b w w') (hB : w.heap.size ≤ b) : Owl w' B v zs :=
  World.ownsRow.kept (row := none) h ⟨hb.os, hb.tape, hb.output, hb.size, fun k hk _ => hb.block k (by omega)⟩ (by
    rcases hv : v.ownBlock with _ | k
    · exact .inl rfl
    · exact .inr (by simp))
theorem makel_law {P : Program} (w : World) {ops : Array Oper} {rest : List Oper} {o : Oper} {a : Act} {Q : Exit → Act → World → Prop}
    (hg : o.guard = none) (l c : Operand) (t : TypeId) (hop : o.op = Op.makeSlice t l c)
    (B : Nat) (i : TypeInfo) (ht : P.underlying t = some (.slice 4)) (hI : P.info? 4 = some i ∧ i.zero = some (.bool false) ∧ i.size = 1 ∧ i.bytes = 1)
    (L C : Int) (n : Nat) (hl : a.eval l = .int .i64 L) (hc : a.eval c = .int .i64 C) (hL : L = (n : Int)) (hC : C = (n : Int)) (hn : n ≤ 1000000) (hB : B ≤ w.heap.size)
    (hK : ∀ w', Owl w' B (.slice (some ⟨w.heap.size, 0, none⟩) n n) (List.replicate n false) → w.grownBy w' none → wpList P ops Q rest (a.put o.dst (.slice (some ⟨w.heap.size, 0, none⟩) n n)) w') :
    wpList P ops Q (o :: rest) a w := by
  obtain ⟨h1, h2, h3, h4⟩ := hI
  refine wpList_make_full w hg l c t hop B 4 i _ 1 ht h1 h2 h3 .i64 .i64 L C n hl hc hL hC (by rw [h4]; omega) (by unfold maxLen; omega) hB fun w' ho hgr => hK w' ?_ hgr
  have hcs : (Value.bool false).cells = #[.bool false] := rfl
  rw [hcs, Nat.mul_one, toList_madeCells_one] at ho
  unfold Owl
  rw [List.length_replicate, show (List.replicate n false).map Value.bool = List.replicate n (.bool false) from by simp]
  exact ho
theorem bit_int (T j : Nat) : (((T : Int) / 2 ^ j).tmod 2 == 1) = decide (bitN T j = 1) := by
  have e : ((T : Int) / 2 ^ j) = ((T / 2 ^ j : Nat) : Int) := by simp
  unfold bitN
  rw [e]
  generalize T / 2 ^ j = q
  rw [Int.tmod_eq_emod_of_nonneg (by omega), show ((q : Nat) : Int) % 2 = ((q % 2 : Nat) : Int) from by omega]
  by_cases h : q % 2 = 1
  · rw [decide_eq_true h, h]; rfl
  · rw [decide_eq_false h]
    simp
    omega
set_option maxRecDepth 100000 in
set_option maxHeartbeats 3200000 in
theorem all_walk (a0 : ByteArray) (w0 : a0.size ≤ maxLen) (w : World) :
    Calls Try.prog 10 #[.string a0] w fun e w' => e = .returned (.bool true) ∧ Below w.heap.size w w' := by
  obtain ⟨i0, hi, hz0, hz1, hz2⟩ := info_parts Try.infoStr
  have HIS : Hid (Try.prog.info? 9 = some i0 ∧ i0.zero = some (.string ByteArray.empty) ∧ i0.size = 1 ∧ i0.bytes = 16) := ⟨hi, hz0, hz1, hz2⟩
  clear hi hz0 hz1 hz2
  obtain ⟨i1, hi, hz0, hz1, hz2⟩ := info_parts Try.infoBool
  have HIB : Hid (Try.prog.info? 4 = some i1 ∧ i1.zero = some (.bool false) ∧ i1.size = 1 ∧ i1.bytes = 1) := ⟨hi, hz0, hz1, hz2⟩
  clear hi hz0 hz1 hz2
  have HTM : Hid (∀ W, Calls Try.prog 46 #[.string a0, .int .i64 9, .int .i64 4] W fun e w' => e = .returned (.string (tmB a0 9 4)) ∧ Below W.heap.size W w') := fun W => tame_max a0 9 4 W (by unfold maxLen at w0; omega) (by omega) (by omega) (by omega)
  have hxW : isW 4 (bs (tmB a0 9 4)) := tmB_isW a0 9 4 (by omega) (by omega)
  have hx9 := tmB_size a0 9 4
  generalize tmB a0 9 4 = x at HTM hxW hx9
  have hwx : wordB (bs x) = true := isW_word hxW (by rw [bs_len]; omega)
  have HAW := Lib.hid (fun W => awake_here W)
  have HC := Lib.hid (fun W => countP_any x W hwx)
  have HIX := Lib.hid (fun o r W ho => ranked_index x o r hwx W ho)
  have HX := Lib.hid hxW
  have HXL : Hid ((bs x).length = x.size) := bs_len x
  clear hxW hwx
  go_enter Try.func10, Try.ntmps10
  go_wp2_with (go_at_call 46; refine (HTM.out _).mono ?_; rintro e w1 ⟨rfl, hb1⟩)
  have k1 : Kp w w1 := hb1
  clear hb1 HTM
  obtain ⟨n, hn⟩ : ∃ n, x.size = n := ⟨_, rfl⟩
  obtain ⟨N, hN⟩ : ∃ N, N = 2 ^ n := ⟨_, rfl⟩
  have hN512 : N ≤ 512 := by rw [hN]; exact Nat.pow_le_pow_right (by omega) (show n ≤ 9 by omega)
  have hsh : wrap64 ((2 : Int) ^ n) = (N : Int) := by
    have e : ((2 : Int) ^ n) = ((N : Nat) : Int) := by rw [hN]; simp
    rw [e]; exact IntWalk.wrap64_in _ ⟨by omega, by omega⟩
  have HNN := Lib.hid hN
  clear hN
  go_loopw [3, 4, 5, 6, 7, 8] (fun a set _ _ _ _ w' => ∃ (T : Nat) (L : List ByteArray), T ≤ N ∧ set = .int .i64 (T : Int) ∧ L.length ≤ T ∧ Hid (AllL (bs x) (L.map bs) T) ∧ Hid (Ows w' w1.heap.size 9 a L) ∧ Below w1.heap.size w1 w') (fun _ set _ _ _ _ _ => N - (intOf set).toNat)
  case atStart => exact ⟨0, [], by omega, by go_num, by simp, AllL.nil _, Ows.nil _ _ _, Below.refl _ _⟩
  case round =>
    obtain ⟨T, L, hT, rfl, hL, HL, HO, hD⟩ := hrel
    obtain ⟨wo, rfl⟩ : ∃ wo : World, wo = wr := ⟨_, rfl⟩
    by_cases hTN : T < N
    · go_wp2
      go_loopw [5, 6] (fun s i w' => ∃ (j : Nat) (z : ByteArray), j ≤ n ∧ z.size ≤ j ∧ s = .string z ∧ i = .int .i64 (j : Int) ∧ Hid (bs z = pickTo (bs x) T j) ∧ wo = w') (fun _ i _ => n - (intOf i).toNat)
      case atStart => exact ⟨0, ⟨#[]⟩, by omega, by decide, rfl, by go_num, rfl, rfl⟩
      case round =>
        obtain ⟨j, z, hj, hz, rfl, rfl, HZ, rfl⟩ := hrel
        by_cases hjn : j < n
        · have hs1 : (x.extract j (j + 1)).size = 1 := by rw [ByteArray.size_extract]; omega
          have hzz : z.size + (x.extract j (j + 1)).size ≤ 9223372036854775807 := by omega
          have hsl : ∀ V, (Instr.slice 9 (.string x) (some (.int .i64 (j : Int))) (some (.int .i64 ((j : Int) + 1))) none).run Try.prog V = .ok (.string (x.extract j (j + 1))) V := fun V =>
            (run_slice_string (P := Try.prog) V 9 x .i64 .i64 (j : Int) ((j : Int) + 1) Try.underlying9 (by omega) (by omega) (by omega)).trans (by rw [show ((j : Int) + 1).toNat = j + 1 from by omega, Int.toNat_natCast])
          have hadd := fun V => run_string_add_sum (P := Try.prog) (w := V) z (x.extract j (j + 1)) hzz
          have HPK : Hid (pickTo (bs x) T (j + 1) = pickTo (bs x) T j ++ if bitN T j = 1 then [(bs x)[j]?.getD 0] else []) := rfl
          have HB1 := Lib.hid (bs_one x j (by omega))
          have hbi := bit_int T j
          by_cases hbit : bitN T j = 1
          · rw [decide_eq_true hbit] at hbi
            have HN2 : Hid (bs (z ++ x.extract j (j + 1)) = pickTo (bs x) T (j + 1)) := by rw [Hid, HPK.out, if_pos hbit, bs_append, HZ.out, HB1.out]
            have HZS : Hid ((z ++ x.extract j (j + 1)).size = z.size + 1) := by rw [Hid, ByteArray.size_append, hs1]
            clear hbit hs1
            go_wp2
            exact ⟨⟨j + 1, z ++ x.extract j (j + 1), by omega, by rw [HZS.out]; omega, rfl, by go_num, HN2, trivial⟩, by simp [intOf] <;> omega⟩
          · rw [decide_eq_false hbit] at hbi
            have HN2 : Hid (bs z = pickTo (bs x) T (j + 1)) := by rw [Hid, HPK.out, if_neg hbit, HZ.out, List.append_nil]
            clear hbit hs1
            go_wp2
            exact ⟨⟨j + 1, z, by omega, by omega, rfl, by go_num, HN2, trivial⟩, by simp [intOf] <;> omega⟩
        · obtain rfl : j = n := by omega
          have HZ2 : Hid (bs z = pickTo (bs x) T (bs x).length) := by rw [Hid, HXL.out, hn]; exact HZ.out
          clear HZ hjn hj
          obtain ⟨q, hq⟩ : ∃ q, L.length = q := ⟨_, rfl⟩
          have hbase := hD.size
          obtain ⟨A, c, hae, hcl, hrd⟩ := HO.out.rds
          rw [hq] at hae hcl
          subst hae
          have HRD := Lib.hid hrd
          have HQ := Lib.hid hq
          have hq512 : q ≤ 512 := by omega
          clear hrd hq
          go_wp2
          go_loopw [7, 8] (fun f i w' => ∃ (k : Nat) (b : Bool), k ≤ q ∧ f = .bool b ∧ i = .int .i64 (k : Int) ∧ Hid (b = true ↔ z ∈ L.take k) ∧ wo = w') (fun _ i _ => q - (intOf i).toNat)
          case atStart => exact ⟨0, false, by omega, rfl, by go_num, by simp [Hid], rfl⟩
          case round =>
            obtain ⟨k, b, hk, rfl, rfl, HM, rfl⟩ := hrel
            cases b with
            | true =>
              have HS2 : Hid (AllL (bs x) (L.map bs) (T + 1)) := HL.out.skip (by rw [← HZ2.out]; exact List.mem_map_of_mem (List.mem_of_mem_take (HM.out.1 rfl)))
              have HQL : Hid (L.length ≤ T + 1) := by rw [Hid]; omega
              by_cases hkq : k < q
              · go_wp2
                exact ⟨⟨T + 1, L, by omega, by go_num, HQL.out, HS2.out, HO.out, hD⟩, by simp [intOf] <;> omega⟩
              · go_wp2
                exact ⟨⟨T + 1, L, by omega, by go_num, HQL.out, HS2.out, HO.out, hD⟩, by simp [intOf] <;> omega⟩
            | false =>
              by_cases hkq : k < q
              · obtain ⟨g, off, rfl, hc⟩ := HRD.out k (by rw [HQ.out]; exact hkq)
                have HTK : Hid (z ∈ L.take (k + 1) ↔ z = L[k]?.getD ByteArray.empty) := by
                  have hm : z ∉ L.take k := fun h => by have := HM.out.2 h; cases this
                  rw [Hid, List.take_add_one, List.mem_append, List.getElem?_eq_getElem (by rw [HQ.out]; exact hkq)]
                  simp [hm]
                generalize L[k]?.getD ByteArray.empty = y at hc HTK
                clear HM
                go_wp2
                exact ⟨⟨k + 1, y.toList == z.toList, by omega, rfl, by go_num, (by rw [Hid, HTK.out, str_eq, decide_eq_true_iff]; exact eq_comm), trivial⟩, by simp [intOf] <;> omega⟩
              · obtain rfl : k = q := by omega
                have HNM : Hid (pickTo (bs x) T (bs x).length ∉ L.map bs) := fun h => by
                  rw [← HZ2.out] at h
                  obtain ⟨s, hs, he⟩ := List.mem_map.1 h
                  have := HM.out.2 (by rw [List.take_of_length_le (by rw [HQ.out]; exact Nat.le_refl _), ← bs_inj he]; exact hs)
                  cases this
                have HS2 : Hid (AllL (bs x) ((L ++ [z]).map bs) (T + 1)) := by
                  have := HL.out.push HNM.out
                  rw [← HZ2.out] at this
                  rw [Hid, List.map_append]
                  exact this
                have HQL : Hid ((L ++ [z]).length ≤ T + 1) := by rw [Hid, List.length_append, List.length_singleton]; omega
                have HLB : Hid (L.length ≤ 1099511627776) := by rw [Hid]; omega
                clear HNM HM
                go_wp2_with (at_builtin; go_must (refine pushs_law _ rfl (.tmp 60) (.tmp 62) 51 rfl w1.heap.size 9 i0 Try.underlying51 HIS.out _ L z rfl rfl HO.out HLB.out hbase ?_); intro v4 w4 hv4 hg4 hat4; have HO4 := Lib.hid hv4; have HB4 := Lib.hid (hD.grown hg4 hbase (fun b hb => (HO.out.lt hb).1)); clear hv4 hg4 hat4)
                exact ⟨⟨T + 1, L ++ [z], by omega, by go_num, HQL.out, HS2.out, HO4.out, HB4.out⟩, by simp [intOf] <;> omega⟩
    · obtain rfl : T = N := by omega
      have HAL : Hid (AllL (bs x) (L.map bs) (2 ^ (bs x).length)) := by rw [Hid, HXL.out, hn, ← HNN.out]; exact HL.out
      have HCN : Hid ((L.length : Int) = cntF (bs x) 0) := by
        have := HAL.out.count HX.out
        rwa [List.length_map] at this
      have HSB : Hid (((subsF (bs x) 0).length : Int) = (L.length : Int)) := by rw [Hid, subsF_len, HCN.out]
      obtain ⟨q, hq⟩ : ∃ q, L.length = q := ⟨_, rfl⟩
      have HC2 : Hid (∀ W, Calls Try.prog 25 #[.string x] W fun e w' => e = .returned (.tuple #[.int .i64 (q : Int), .int .i64 0]) ∧ Below W.heap.size W w') := fun W => by
        have := HC.out W
        rwa [← HCN.out, hq] at this
      have hq512 : q ≤ 512 := by omega
      obtain ⟨A, c, hae, hcl, _⟩ := HO.out.rds
      rw [hq] at hae hcl
      subst hae
      have HRD : Hid (∀ V, Below wo.heap.size wo V → Rds V A L) := fun V hb => by
        obtain ⟨A', c', e', _, h'⟩ := (HO.out.below hb (Nat.le_refl _)).rds
        rw [hq] at e'
        cases e'
        exact h'
      have HQ := Lib.hid hq
      have HDD := Lib.hid hD
      clear HL HC HNN hq hD
      go_wp2_with (first | (go_at_call 25; refine (HC2.out _).mono ?_; rintro e w2 ⟨rfl, hb2⟩; have HB2 := Lib.hid hb2; clear hb2 HC2) | (at_make; go_must (refine makel_law _ rfl (.tmp 70) (.tmp 70) 63 rfl w2.heap.size i1 Try.underlying63 HIB.out _ _ q rfl rfl rfl rfl (by omega) (Nat.le_refl _) ?_); intro w3 hv3 hg3; have HV3 := Lib.hid hv3; clear hv3; have HG3 : Hid (Below w2.heap.size w2 w3) := (Below.refl _ _).grown hg3 (Nat.le_refl _) (fun k h => by cases h); clear hg3))
      go_loopw [12, 13, 14] (fun i k f w' => ∃ (p : Nat) (vs : List Bool), p ≤ q ∧ i = .int .i64 (p : Int) ∧ Hid (vs.length = q) ∧ Hid (Owl w' w2.heap.size (.slice (some ⟨w2.heap.size, 0, none⟩) q q) vs) ∧ Hid (∀ r : Nat, vs[r]?.getD false = true → ∃ j : Nat, j < p ∧ (subsF (bs x) 0)[r]? = (L.map bs)[j]?) ∧ Hid (Below w2.heap.size w2 w')) (fun i _ _ _ => q - (intOf i).toNat)
      case atStart => exact ⟨0, List.replicate q false, by omega, by go_num, List.length_replicate, HV3.out, (fun r h => by rw [List.getElem?_replicate] at h; split at h <;> simp at h), HG3.out⟩
      case round =>
        obtain ⟨p, vs, hp, rfl, HVL, HOV, HIN, HW⟩ := hrel
        by_cases hpq : p < q
        · obtain ⟨g, off, rfl, hc⟩ := HRD.out wr (HB2.out.trans (HW.out.mono HB2.out.size)) p (by rw [HQ.out]; exact hpq)
          have hpL : p < L.length := by rw [HQ.out]; exact hpq
          have HLP : Hid ((L.map bs)[p]? = some (bs (L[p]?.getD ByteArray.empty))) := by
            rw [Hid, List.getElem?_map, List.getElem?_eq_getElem hpL]; rfl
          clear hpL
          generalize L[p]?.getD ByteArray.empty = y at hc HLP
          obtain ⟨r, hr⟩ := List.getElem?_of_mem ((HAL.out.subs HX.out (bs y)).1 (List.mem_of_getElem? HLP.out))
          have hrq : r < q := by
            have h1 := (List.getElem?_eq_some_iff.1 hr).1
            have h2 := HSB.out
            rw [HQ.out] at h2
            omega
          have HIX2 := Lib.hid (fun W => HIX.out y r W hr)
          have HVF : Hid (vs[r]?.getD false = false) := by
            rw [Hid]
            cases hv : vs[r]?.getD false with
            | false => rfl
            | true =>
              obtain ⟨j, hj, hjr⟩ := HIN.out r hv
              rw [hr, ← HLP.out] at hjr
              have := nodup_at HAL.out.nd (hjr.symm.trans HLP.out) HLP.out
              omega
          have HIN2 : Hid (∀ r', (vs.set r true)[r']?.getD false = true → ∃ j, j < p + 1 ∧ (subsF (bs x) 0)[r']? = (L.map bs)[j]?) := fun r' h => by
            by_cases e : r' = r
            · subst e; exact ⟨p, by omega, by rw [hr, HLP.out]⟩
            · rw [List.getElem?_set_ne (fun h => e h.symm)] at h
              obtain ⟨j, h1, h2⟩ := HIN.out r' h
              exact ⟨j, by omega, h2⟩
          clear hr HIN HLP
          go_wp2_with (go_at_call 29; refine (HIX2.out _).mono ?_; rintro e w5 ⟨rfl, hb5⟩; have HO5 : Hid (Owl w5 w2.heap.size (.slice (some ⟨w2.heap.size, 0, none⟩) q q) vs) := HOV.out.below hb5 (Nat.le_refl _); have d5 := HO5.out.cellAt HVL.out (k := r) hrq; rw [HVF.out] at d5; have f5 := HO5.out.free HVL.out r; have HW5 : Hid (Below w2.heap.size w2 w5) := HW.out.trans (hb5.mono HW.out.size); clear hb5)
          exact ⟨⟨p + 1, vs.set r true, by omega, by go_num, by rw [Hid, List.length_set]; exact HVL.out, HO5.out.put HVL.out r true, HIN2, HW5.out.setCell (p := ⟨w2.heap.size, r, none⟩) (Nat.le_refl _) _⟩, by simp [intOf] <;> omega⟩
        · go_wp2_with (go_at_call 21; refine (HAW.out _).mono ?_; rintro e w7 ⟨rfl, hb7⟩)
          go_ret
          exact ⟨rfl, (((k1.call HDD.out).call HB2.out).call HW.out).call hb7⟩
end Go.Proofs.Ythlccidbphkfaaa
