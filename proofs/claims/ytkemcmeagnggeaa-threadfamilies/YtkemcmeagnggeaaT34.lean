import Derived.Test.YtkemcmeagnggeaaT33
import Derived.Test.YtkemcmeagnggeaaT31
import Derived.Test.YtkemcmeagnggeaaT19
/- Layer 3: slices.SortFunc of at most 4 words. -/
namespace Go.Proofs.Ytkemcmeagnggeaa
open Go.RowKit
set_option linter.unusedVariables false

set_option maxRecDepth 100000 in
set_option maxHeartbeats 1600000 in
theorem len64_any (n : Nat) (w : World) (hn : n ≤ 4) : Calls Try.prog 90 #[.int .u64 (n : Int)] w fun e w' => (∃ l : Int, e = .returned (.int .i64 l)) ∧ w = w' := by
  rcases (show n = 0 ∨ n = 1 ∨ n = 2 ∨ n = 3 ∨ n = 4 from by omega) with rfl | rfl | rfl | rfl | rfl
  all_goals
    go_enter Try.func90, Try.ntmps90
    go_wp2
    go_ret
    exact ⟨⟨_, rfl⟩, rfl⟩
theorem len_any (n : Nat) (w : World) (hn : n ≤ 4) : Calls Try.prog 74 #[.int .u64 (n : Int)] w fun e w' => (∃ l : Int, e = .returned (.int .i64 l)) ∧ w = w' := by
  have HL := Lib.hid (fun W => len64_any n W hn)
  go_enter Try.func74, Try.ntmps74
  go_wp2_with (go_at_call 90; refine (HL.out _).mono ?_; rintro e w1 ⟨⟨l, rfl⟩, rfl⟩)
  go_ret
  exact ⟨⟨_, rfl⟩, rfl⟩
def SortP (w : World) (B g n cap : Nat) (zs : List ByteArray) (e : Ending) (w' : World) : Prop := e = .returned (.tuple #[]) ∧ ∃ zs', zs'.Perm zs ∧ SoS zs' n ∧ Ows w' B 9 (.slice (some ⟨g, 0, none⟩) n cap) zs' ∧ Below B w w'
set_option maxRecDepth 100000 in
set_option maxHeartbeats 1600000 in
theorem pdq_any (B g n cap : Nat) (l : Int) (zs : List ByteArray) (w : World) (ho : Ows w B 9 (.slice (some ⟨g, 0, none⟩) n cap) zs) (hl : zs.length = n) (hg : B ≤ g) (hB : B ≤ w.heap.size) (hgs : g < w.heap.size) (hn : n ≤ 4) (hz : ∀ z ∈ zs, z.size ≤ 1000000) :
    Calls Try.prog 73 #[.slice (some ⟨g, 0, none⟩) n cap, .int .i64 0, .int .i64 n, .int .i64 l, .func (.func 65) #[] #[]] w (SortP w B g n cap zs) := by
  have HI : Hid (Calls Try.prog 81 #[.slice (some ⟨g, 0, none⟩) n cap, .int .i64 0, .int .i64 n, .func (.func 65) #[] #[]] w (SortP w B g n cap zs)) := insSort_any B g n cap zs w ho hl hg hB hgs (by omega) hz
  clear ho hl hz hg hgs hB
  go_enter Try.func73, Try.ntmps73
  go_wp2
  refine wp_loop_rounds 1 ?_
  rw [rounds_succ]
  go_wp2_with (go_at_call 81; refine HI.out.mono ?_; rintro e w1 ⟨rfl, hp⟩; have HP := Lib.hid hp; clear hp)
  (try simp only [Exit.inBlock, Exit.then]); refine bodyPost_ret (results_none rfl _ _ _) rfl ?_
  exact ⟨rfl, HP.out⟩
theorem sort_any (B g n cap : Nat) (zs : List ByteArray) (w : World) (ho : Ows w B 9 (.slice (some ⟨g, 0, none⟩) n cap) zs) (hl : zs.length = n) (hg : B ≤ g) (hB : B ≤ w.heap.size) (hgs : g < w.heap.size) (hn : n ≤ 4) (hz : ∀ z ∈ zs, z.size ≤ 1000000) :
    Calls Try.prog 64 #[.slice (some ⟨g, 0, none⟩) n cap, .func (.func 65) #[] #[]] w (SortP w B g n cap zs) := by
  have HI := Lib.hid (fun l => pdq_any B g n cap l zs w ho hl hg hB hgs hn hz)
  have HL := Lib.hid (fun W => len_any n W hn)
  clear ho hl hz hg hgs hB
  go_enter Try.func64, Try.ntmps64
  go_wp2_with (first | (go_at_call 74; refine (HL.out _).mono ?_; rintro e w1 ⟨⟨l, rfl⟩, rfl⟩) | (go_at_call 73; refine (HI.out _).mono ?_; rintro e w1 ⟨rfl, hp⟩; have HP := Lib.hid hp; clear hp))
  go_end0
  exact ⟨rfl, HP.out⟩
/-- A slice with nothing in it. -/
theorem sort_nil (w : World) :
    Calls Try.prog 64 #[.slice none 0 0, .func (.func 65) #[] #[]] w fun e w' => e = .returned (.tuple #[]) ∧ w = w' := by
  have HI : Hid (∀ W, Calls Try.prog 81 #[.slice none 0 0, .int .i64 0, .int .i64 0, .func (.func 65) #[] #[]] W fun e w' => e = .returned (.tuple #[]) ∧ W = w') := fun W => by
    go_enter Try.func81, Try.ntmps81
    go_wp2
    go_loopw [8, 9] (fun vi _ w' => vi = .int .i64 1 ∧ W = w') (fun _ _ _ => 0)
    case atStart => exact ⟨by go_num, rfl⟩
    case round =>
      obtain ⟨rfl, rfl⟩ := hrel
      go_wp2
      go_end0
      exact ⟨rfl, rfl⟩
  have HP : Hid (∀ l W, Calls Try.prog 73 #[.slice none 0 0, .int .i64 0, .int .i64 0, .int .i64 l, .func (.func 65) #[] #[]] W fun e w' => e = .returned (.tuple #[]) ∧ W = w') := fun l W => by
    go_enter Try.func73, Try.ntmps73
    go_wp2
    refine wp_loop_rounds 1 ?_
    rw [rounds_succ]
    go_wp2_with (go_at_call 81; refine (HI.out _).mono ?_; rintro e w1 ⟨rfl, rfl⟩)
    (try simp only [Exit.inBlock, Exit.then]); refine bodyPost_ret (results_none rfl _ _ _) rfl ?_
    exact ⟨rfl, rfl⟩
  have HL := Lib.hid (fun W => len_any 0 W (by omega))
  go_enter Try.func64, Try.ntmps64
  go_wp2_with (first | (go_at_call 74; refine (HL.out _).mono ?_; rintro e w1 ⟨⟨l, rfl⟩, rfl⟩) | (go_at_call 73; refine (HP.out _ _).mono ?_; rintro e w1 ⟨rfl, rfl⟩))
  go_end0
  exact ⟨rfl, rfl⟩
end Go.Proofs.Ytkemcmeagnggeaa
/- Layer 3: the program's Minimal. -/
namespace Go.Proofs.Ytkemcmeagnggeaa
open Go.RowKit
set_option linter.unusedVariables false

def takesB (ss L : List ByteArray) (x : ByteArray) : Bool := !hasS L x && !anyA x ss
/-- The words that Minimal has taken after k words, in the order of the family. -/
def leastTo (ss : List ByteArray) : Nat → List ByteArray
  | 0 => []
  | k + 1 => if takesB ss (leastTo ss k) (ss[k]?.getD ByteArray.empty) = true then leastTo ss k ++ [ss[k]?.getD ByteArray.empty] else leastTo ss k
theorem leastTo_len (ss : List ByteArray) : ∀ k, (leastTo ss k).length ≤ k
  | 0 => Nat.le_refl _
  | k + 1 => by
    have := leastTo_len ss k
    unfold leastTo
    split
    · rw [List.length_append, List.length_singleton]; omega
    · omega
theorem leastTo_mem {ss : List ByteArray} {y : ByteArray} : ∀ k, k ≤ ss.length → y ∈ leastTo ss k → y ∈ ss
  | 0, _, h => by cases h
  | k + 1, hk, h => by
    unfold leastTo at h
    split at h
    · rcases List.mem_append.1 h with h | h
      · exact leastTo_mem k (by omega) h
      · rw [List.mem_singleton.1 h, List.getElem?_eq_getElem (by omega)]
        exact List.getElem_mem _
    · exact leastTo_mem k (by omega) h
set_option maxRecDepth 100000 in
set_option maxHeartbeats 1600000 in
theorem minimalP_any (A : Option Addr) (n c : Nat) (ss : List ByteArray) (w : World) (hs : Sls w A n c ss) (hn : n ≤ 4) (hw : ∀ j, j < n → wordB (bs (ss[j]?.getD ByteArray.empty)) = true) (hf : famB ss = true) :
    Calls Try.prog 40 #[.slice A n c] w fun e w' => ∃ v ms, e = .returned (.tuple #[v, .int .i64 0]) ∧ ms.Perm (leastTo ss n) ∧ SoS ms ms.length ∧ Ows w' w.heap.size 9 v ms ∧ Below w.heap.size w w' := by
  obtain ⟨i0, hi, hz0, hz1, hz2⟩ := info_parts Try.infoStr
  have HI : Hid (Try.prog.info? 9 = some i0 ∧ i0.zero = some (.string ByteArray.empty) ∧ i0.size = 1 ∧ i0.bytes = 16) := ⟨hi, hz0, hz1, hz2⟩
  clear hi hz0 hz1 hz2
  have HS := Lib.hid hs
  have HL : Hid (ss.length = n) := hs.len
  have HW := Lib.hid hw
  have HSZ : Hid (∀ i : Nat, (ss[i]?.getD ByteArray.empty).size ≤ 60) := fun i => by
    by_cases hi : i < n
    · exact word_size (hw i hi)
    · rw [List.getElem?_eq_none (by rw [hs.len]; omega)]; decide
  have HF : Hid (∀ W, Sls W A n c ss → Calls Try.prog 61 #[.slice A n c] W fun e w' => e = .returned (.bool true) ∧ Dr W w') := fun W h => by
    have := isFamily_any A n c ss W h.len (by omega) h.rd (fun i => Nat.le_trans (HSZ.out i) (by decide))
    rw [hf] at this
    exact this
  have HA := Lib.hid (fun x W h hx => isAboveAny_any A n c ss x W h (by omega) hw hx)
  clear hs hw hf
  go_enter Try.func40, Try.ntmps40
  go_wp2_with (go_at_call 61; refine (HF.out _ HS.out).mono ?_; rintro e w1 ⟨rfl, hd⟩)
  have hW1 : Below w.heap.size w w1 := by
    obtain ⟨k, rfl⟩ := hd
    exact below_dn (Below.refl _ _) k
  clear HF hd
  go_loopw [4, 6, 12] (fun l _ i w' => ∃ k : Nat, k ≤ n ∧ i = .int .i64 (k : Int) ∧ Hid (Ows w' w.heap.size 9 l (leastTo ss k)) ∧ Below w.heap.size w w') (fun _ _ i _ => n - (intOf i).toNat)
  case atStart => exact ⟨0, Nat.zero_le _, by go_num, Ows.nil _ _ _, hW1⟩
  case round =>
    obtain ⟨k, hk, rfl, HO, hV⟩ := hrel
    obtain ⟨wo, rfl⟩ : ∃ wo : World, wo = wr := ⟨_, rfl⟩
    have hbs := hV.size
    by_cases hlt : k < n
    · have hS1 := HS.out.below hV (Nat.le_refl _)
      have HA1 := Lib.hid (fun x => HA.out x wo hS1)
      obtain ⟨b, off, rfl, hc⟩ := hS1.rd k (by rw [HL.out]; exact hlt)
      have hwx := HW.out k hlt
      have HST : Hid (leastTo ss (k + 1) = if takesB ss (leastTo ss k) (ss[k]?.getD ByteArray.empty) = true then leastTo ss k ++ [ss[k]?.getD ByteArray.empty] else leastTo ss k) := rfl
      generalize ss[k]?.getD ByteArray.empty = x at hc hwx HST
      have HA2 := Lib.hid (HA1.out x hwx)
      have HLN : Hid ((leastTo ss k).length ≤ k) := leastTo_len ss k
      obtain ⟨L, hL⟩ : ∃ L, L = leastTo ss k := ⟨_, rfl⟩
      rw [← hL] at HO HST HLN
      clear hL HA1 hS1 hwx
      obtain ⟨AL, cl, hle, hcl, hrl⟩ := HO.out.rds
      subst hle
      have HC := Lib.hid (containsS_any AL L.length cl L x wo rfl (by have := HLN.out; omega) hrl)
      have HLB : Hid (L.length ≤ 1099511627776) := by have := HLN.out; rw [Hid]; omega
      have HTK : Hid (takesB ss L x = (!hasS L x && !anyA x ss)) := rfl
      clear hrl
      generalize hasS L x = p at HC HTK
      generalize anyA x ss = q at HA2 HTK
      generalize hm : L.length = m at hcl HC HLB
      cases p with
      | true =>
        have HST2 : Hid (leastTo ss (k + 1) = L) := by rw [Hid, HST.out, if_neg (by rw [HTK.out]; simp)]
        rw [hm] at HO
        clear HST HTK hm HA2
        go_wp2_with (go_at_call 62; refine HC.out.mono ?_; rintro e w2 ⟨rfl, rfl⟩)
        exact ⟨⟨k + 1, by omega, by go_num, by rw [HST2.out]; exact HO.out, hV⟩, by simp [intOf] <;> omega⟩
      | false =>
        cases q with
        | true =>
          have HST2 : Hid (leastTo ss (k + 1) = L) := by rw [Hid, HST.out, if_neg (by rw [HTK.out]; simp)]
          rw [hm] at HO
          clear HST HTK hm
          go_wp2_with (first | (go_at_call 62; refine HC.out.mono ?_; rintro e w2 ⟨rfl, rfl⟩) | (go_at_call 63; refine HA2.out.mono ?_; rintro e w3 ⟨rfl, hb3⟩; have HO3 : Hid (Ows w3 w.heap.size 9 (.slice AL m cl) L) := HO.out.below hb3 (Nat.le_refl _); have HV3 : Hid (Below w.heap.size w w3) := hV.trans (hb3.mono hbs); clear hb3))
          exact ⟨⟨k + 1, by omega, by go_num, by rw [HST2.out]; exact HO3.out, HV3.out⟩, by simp [intOf] <;> omega⟩
        | false =>
          have HST2 : Hid (leastTo ss (k + 1) = L ++ [x]) := by rw [Hid, HST.out, if_pos (by rw [HTK.out]; rfl)]
          rw [hm] at HO
          have HLB2 : Hid (L.length ≤ 1099511627776) := by rw [Hid, hm]; exact HLB.out
          clear HST HTK hm HLB
          go_wp2_with (first | (go_at_call 62; refine HC.out.mono ?_; rintro e w2 ⟨rfl, rfl⟩) | (go_at_call 63; refine HA2.out.mono ?_; rintro e w3 ⟨rfl, hb3⟩; have HO3 : Hid (Ows w3 w.heap.size 9 (.slice AL m cl) L) := HO.out.below hb3 (Nat.le_refl _); have HV3 : Hid (Below w.heap.size w w3) := hV.trans (hb3.mono hbs); clear hb3) | (at_builtin; go_must (refine pushs_law _ rfl (.tmp 26) (.tmp 28) 51 rfl w.heap.size 9 i0 Try.underlying51 HI.out _ L x rfl rfl HO3.out HLB2.out HV3.out.size ?_); intro v4 w4 hv4 hg4 hat4; have HO4 := Lib.hid hv4; have HV4 := Lib.hid (HV3.out.grown hg4 HV3.out.size (fun b hb => (HO3.out.lt hb).1)); clear hv4 hg4 hat4))
          exact ⟨⟨k + 1, by omega, by go_num, by rw [HST2.out]; exact HO4.out, HV4.out⟩, by simp [intOf] <;> omega⟩
    · obtain rfl : k = n := by omega
      have HLM : Hid (∀ y ∈ leastTo ss k, y.size ≤ 1000000) := fun y hy => by
        obtain ⟨j, hj, rfl⟩ := List.getElem_of_mem (leastTo_mem k (by rw [HL.out]; exact Nat.le_refl _) hy)
        have := HSZ.out j
        rw [List.getElem?_eq_getElem hj, Option.getD_some] at this
        omega
      have HLN : Hid ((leastTo ss k).length ≤ k) := leastTo_len ss k
      obtain ⟨L, hLL⟩ : ∃ L, L = leastTo ss k := ⟨_, rfl⟩
      rw [← hLL] at HO HLM HLN
      have HLL := Lib.hid hLL
      clear hLL
      obtain ⟨m, hm⟩ : ∃ m, L.length = m := ⟨_, rfl⟩
      have hm4 : m ≤ 4 := by have := HLN.out; omega
      rcases HO.out.two hm with ⟨rfl, rfl, rfl⟩ | ⟨g, cap, rfl, hcap, hg, hcs⟩
      · have HSN := Lib.hid (fun W => sort_nil W)
        clear hm
        go_wp2_with (go_at_call 64; refine (HSN.out _).mono ?_; rintro e w2 ⟨rfl, rfl⟩)
        go_ret2
        exact ⟨_, [], rfl, (by rw [← HLL.out]), (fun p q h1 h2 => absurd h2 (Nat.not_lt_zero _)), Ows.nil _ _ _, hV⟩
      · have hgB : w.heap.size ≤ g := (HO.out.lt rfl).1
        have HSO := Lib.hid (sort_any w.heap.size g m cap L wo HO.out hm hgB hbs hg hm4 HLM.out)
        have HM := Lib.hid hm
        clear hm hcs hgB
        go_wp2_with (go_at_call 64; refine HSO.out.mono ?_; rintro e w2 ⟨rfl, ms, h1, h2, h3, h4⟩; have HH := Lib.hid (And.intro h1 (And.intro h2 (And.intro h3 h4))); clear h1 h2 h3 h4)
        go_ret2
        obtain ⟨h1, h2, h3, h4⟩ := HH.out
        exact ⟨_, ms, rfl, (by rw [← HLL.out]; exact h1), by rw [h1.length_eq, HM.out]; exact h2, h3, hV.trans h4⟩
end Go.Proofs.Ytkemcmeagnggeaa
/- Layer 3, mathematics: the program's Minimal is the reference's. -/
namespace Go.Proofs.Ytkemcmeagnggeaa
open Go.RowKit
set_option linter.unusedVariables false

def LtB (x y : ByteArray) : Prop := lessL (bs x) (bs y) = true
theorem LtB.asym {x y : ByteArray} (h : LtB x y) (k : LtB y x) : False := by
  have := less_asym h
  unfold LtB at k
  rw [this] at k; cases k
theorem LtB.irr {x : ByteArray} (h : LtB x x) : False := h.asym h
theorem LtB.trans {x y z : ByteArray} (h : LtB x y) (k : LtB y z) : LtB x z := lessL_trans h k
theorem LtB.of {x y : ByteArray} (h : lessL (bs y) (bs x) = false) (hn : x ≠ y) : LtB x y := by
  unfold LtB
  cases e : lessL (bs x) (bs y) with
  | true => rfl
  | false => exact absurd (bs_inj (lessL_total e h)) hn
theorem sorted_eq : ∀ {a b : List ByteArray}, a.Pairwise LtB → b.Pairwise LtB → (∀ y, y ∈ a ↔ y ∈ b) → a = b
  | [], [], _, _, _ => rfl
  | [], y :: b, _, _, h => absurd ((h y).2 (by simp)) (by simp)
  | x :: a, [], _, _, h => absurd ((h x).1 (by simp)) (by simp)
  | x :: a, y :: b, ha, hb, h => by
    obtain ⟨ha1, ha2⟩ := List.pairwise_cons.1 ha
    obtain ⟨hb1, hb2⟩ := List.pairwise_cons.1 hb
    have hxy : x = y := by
      rcases List.mem_cons.1 ((h x).1 (by simp)) with e | e
      · exact e
      · rcases List.mem_cons.1 ((h y).2 (by simp)) with e2 | e2
        · exact e2.symm
        · exact ((hb1 _ e).asym (ha1 _ e2)).elim
    subst hxy
    rw [sorted_eq ha2 hb2 fun z => ⟨fun hz => by
      rcases List.mem_cons.1 ((h z).1 (List.mem_cons_of_mem _ hz)) with e | e
      · exact ((e ▸ ha1 z hz : LtB x x).irr).elim
      · exact e, fun hz => by
      rcases List.mem_cons.1 ((h z).2 (List.mem_cons_of_mem _ hz)) with e | e
      · exact ((e ▸ hb1 z hz : LtB x x).irr).elim
      · exact e⟩]
theorem insS_cons (y x : ByteArray) (l : List ByteArray) : insS (y :: l) x = if lessL (bs y) (bs x) = true then y :: insS l x else x :: y :: l := by
  unfold insS
  by_cases h : lessL (bs y) (bs x) = true
  · simp [rankS, h]
  · simp [rankS, h]
theorem insS_sorted (x : ByteArray) : ∀ {l : List ByteArray}, l.Pairwise LtB → x ∉ l → (insS l x).Pairwise LtB
  | [], _, _ => by simp [insS, rankS]
  | y :: l, h, hx => by
    obtain ⟨h1, h2⟩ := List.pairwise_cons.1 h
    rw [insS_cons]
    by_cases e : lessL (bs y) (bs x) = true
    · rw [if_pos e]
      refine List.pairwise_cons.2 ⟨fun z hz => ?_, insS_sorted x h2 (fun hm => hx (List.mem_cons_of_mem _ hm))⟩
      rcases insS_mem.1 hz with hz | rfl
      · exact h1 z hz
      · exact e
    · rw [if_neg e]
      have hxy : LtB x y := LtB.of (by simpa using e) (fun e2 => hx (by rw [e2]; simp))
      refine List.pairwise_cons.2 ⟨fun z hz => ?_, h⟩
      rcases List.mem_cons.1 hz with rfl | hz
      · exact hxy
      · exact hxy.trans (h1 z hz)
theorem keep_iff {ss : List ByteArray} {i : Nat} : keepB ss i = true ↔ ∀ k, k < ss.length → spoils ss i k = false := by
  unfold keepB allB
  rw [List.all_eq_true]
  constructor
  · intro h k hk
    have := h k (List.mem_range.2 hk)
    simpa using this
  · intro h k hk
    have := h k (List.mem_range.1 hk)
    simpa using this
theorem within_self (x : ByteArray) (hw : wordB (bs x) = true) : (withinF (bs x) (bs x)).isSome = true := sub_iff.2 (List.Sublist.refl _)
theorem minTo_sorted {ss : List ByteArray} (hw : ∀ j, j < ss.length → wordB (bs (ss[j]?.getD ByteArray.empty)) = true) : ∀ i, i ≤ ss.length → (minTo ss i).Pairwise LtB
  | 0, _ => List.Pairwise.nil
  | i + 1, hi => by
    unfold minTo
    split
    · rename_i hk
      refine insS_sorted _ (minTo_sorted hw i (by omega)) fun hm => ?_
      obtain ⟨j, hj, hkj, e⟩ := (minTo_mem ss _ i).1 hm
      have h1 := keep_iff.1 hk j (by omega)
      unfold spoils at h1
      rw [e, within_self _ (hw i (by omega)), decide_eq_true hj] at h1
      simp at h1
    · exact minTo_sorted hw i (by omega)
theorem spoils_of {ss : List ByteArray} {i k : Nat} (h : aboveB (ss[k]?.getD ByteArray.empty) (ss[i]?.getD ByteArray.empty) = true) : spoils ss i k = true := by
  unfold aboveB at h
  unfold spoils
  simp only [Bool.and_eq_true, Bool.not_eq_true', decide_eq_false_iff_not] at h
  rw [h.2, decide_eq_true (p := ss[k]?.getD ByteArray.empty ≠ ss[i]?.getD ByteArray.empty) h.1]
  rfl
/-- The words of Minimal. -/
theorem min_mem {ss : List ByteArray} {y : ByteArray} : y ∈ minOf ss ↔ y ∈ ss ∧ anyA y ss = false := by
  unfold minOf
  rw [minTo_mem]
  constructor
  · rintro ⟨j, hj, hk, rfl⟩
    refine ⟨by rw [List.getElem?_eq_getElem hj]; exact List.getElem_mem _, anyA_none fun k hkl => ?_⟩
    cases e : aboveB (ss[k]?.getD ByteArray.empty) (ss[j]?.getD ByteArray.empty) with
    | false => rfl
    | true =>
      have h1 := keep_iff.1 hk k hkl
      rw [spoils_of e] at h1; cases h1
  · rintro ⟨hy, ha⟩
    have hex : ∃ j : Nat, ss[j]? = some y ∧ ∀ k : Nat, k < j → ss[k]? ≠ some y := by
      obtain ⟨j, hj⟩ := List.getElem?_of_mem hy
      induction j using Nat.strongRecOn with
      | ind j ih =>
        by_cases h : ∃ k : Nat, k < j ∧ ss[k]? = some y
        · obtain ⟨k, hk, e⟩ := h
          exact ih k hk e
        · exact ⟨j, hj, fun k hk e => h ⟨k, hk, e⟩⟩
    obtain ⟨j, hj, hfirst⟩ := hex
    have hjl := (List.getElem?_eq_some_iff.1 hj).1
    refine ⟨j, hjl, keep_iff.2 fun k hk => ?_, by rw [hj]; rfl⟩
    cases e : spoils ss j k with
    | false => rfl
    | true =>
      unfold spoils at e
      rw [hj, Option.getD_some] at e
      simp only [Bool.and_eq_true, Bool.or_eq_true, decide_eq_true_eq] at e
      by_cases e2 : ss[k]?.getD ByteArray.empty = y
      · rcases e.2 with h | h
        · exact absurd e2 h
        · exfalso
          apply hfirst k h
          rw [List.getElem?_eq_getElem hk, Option.getD_some] at e2
          rw [List.getElem?_eq_getElem hk, e2]
      · have : anyA y ss = true := anyA_at hk (by unfold aboveB; rw [e.1, decide_eq_false e2]; rfl)
        rw [this] at ha; cases ha
theorem least_mem {ss : List ByteArray} {y : ByteArray} : ∀ k, k ≤ ss.length → (y ∈ leastTo ss k ↔ (∃ j : Nat, j < k ∧ ss[j]?.getD ByteArray.empty = y) ∧ anyA y ss = false)
  | 0, _ => by simp [leastTo]
  | k + 1, hk => by
    have ih := least_mem (ss := ss) (y := y) k (by omega)
    unfold leastTo
    by_cases ht : takesB ss (leastTo ss k) (ss[k]?.getD ByteArray.empty) = true
    · rw [if_pos ht, List.mem_append, List.mem_singleton, ih]
      unfold takesB at ht
      simp only [Bool.and_eq_true, Bool.not_eq_true'] at ht
      constructor
      · rintro (⟨⟨j, hj, e⟩, h⟩ | rfl)
        · exact ⟨⟨j, by omega, e⟩, h⟩
        · exact ⟨⟨k, by omega, rfl⟩, ht.2⟩
      · rintro ⟨⟨j, hj, e⟩, h⟩
        by_cases ej : j = k
        · subst ej; exact .inr e.symm
        · exact .inl ⟨⟨j, by omega, e⟩, h⟩
    · rw [if_neg ht]
      constructor
      · intro h
        obtain ⟨⟨j, hj, e⟩, h2⟩ := ih.1 h
        exact ⟨⟨j, by omega, e⟩, h2⟩
      · rintro ⟨⟨j, hj, e⟩, h⟩
        by_cases ej : j = k
        · subst ej
          unfold takesB at ht
          rw [e, h] at ht
          simp only [Bool.not_false, Bool.and_true, Bool.not_eq_true', Bool.not_eq_false] at ht
          exact hasS_iff.1 (by simpa using ht)
        · exact ih.2 ⟨⟨j, by omega, e⟩, h⟩
theorem least_nodup (ss : List ByteArray) : ∀ k, (leastTo ss k).Nodup
  | 0 => List.nodup_nil
  | k + 1 => by
    unfold leastTo
    split
    · rename_i ht
      unfold takesB at ht
      simp only [Bool.and_eq_true, Bool.not_eq_true'] at ht
      refine List.nodup_append.2 ⟨least_nodup ss k, by simp, fun a ha b hb e => ?_⟩
      rw [List.mem_singleton.1 hb] at e
      rw [hasS_iff.2 (e ▸ ha)] at ht
      cases ht.1
    · exact least_nodup ss k
/-- What the program's Minimal returns is what the reference's does. -/
theorem min_is {ss ms : List ByteArray} (hw : ∀ j, j < ss.length → wordB (bs (ss[j]?.getD ByteArray.empty)) = true) (hp : ms.Perm (leastTo ss ss.length)) (hs : SoS ms ms.length) : ms = minOf ss := by
  have hn : ms.Nodup := hp.nodup_iff.2 (least_nodup ss _)
  refine sorted_eq ?_ (minTo_sorted hw _ (Nat.le_refl _)) fun y => ?_
  · refine List.pairwise_iff_getElem.2 fun i j hi hj hij => ?_
    have h1 := hs i j hij hj
    unfold atB at h1
    rw [List.getElem?_eq_getElem hi, List.getElem?_eq_getElem hj] at h1
    exact LtB.of h1 fun e => by
      have := nodup_at hn (List.getElem?_eq_getElem hi) (by rw [List.getElem?_eq_getElem hj]; exact congrArg some e.symm)
      omega
  · show y ∈ ms ↔ y ∈ minOf ss
    rw [hp.mem_iff, min_mem, least_mem _ (Nat.le_refl _)]
    refine and_congr_left fun _ => ⟨fun ⟨j, hj, e⟩ => ?_, fun h => ?_⟩
    · rw [← e, List.getElem?_eq_getElem hj]; exact List.getElem_mem _
    · obtain ⟨j, hj, e⟩ := List.getElem_of_mem h
      exact ⟨j, hj, by rw [List.getElem?_eq_getElem hj]; exact e⟩
end Go.Proofs.Ytkemcmeagnggeaa
