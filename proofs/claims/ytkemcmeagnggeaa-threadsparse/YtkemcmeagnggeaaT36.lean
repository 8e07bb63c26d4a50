import Derived.Test.YtkemcmeagnggeaaT17
import Derived.Test.YtkemcmeagnggeaaT34
import Derived.Test.YtkemcmeagnggeaaT35
/- Layer 3, mathematics: Free counts the words that hold no member; a family's minimal words do as well. -/
namespace Go.Proofs.Ytkemcmeagnggeaa
open Go.RowKit
set_option linter.unusedVariables false

/-- The longest beginning of x that is in w has m letters. -/
def Met (x w : List Int) (m : Nat) : Prop := (x.take m).Sublist w ∧ (m < x.length → ¬ (x.take (m + 1)).Sublist w)
theorem snoc_sub {l w : List Int} {a c : Int} (h : (l ++ [a]).Sublist (w ++ [c])) : (l ++ [a]).Sublist w ∨ (a = c ∧ l.Sublist w) := by
  have h' := List.reverse_sublist.2 h
  simp only [List.reverse_append, List.reverse_cons, List.reverse_nil, List.nil_append, List.singleton_append] at h'
  cases h' with
  | cons _ h1 => exact .inl (List.reverse_sublist.1 (by simpa using h1))
  | cons_cons _ h1 => exact .inr ⟨rfl, List.reverse_sublist.1 h1⟩
theorem take_snocF {x : List Int} {m : Nat} (h : m < x.length) : x.take (m + 1) = x.take m ++ [x[m]?.getD 0] := by
  rw [List.take_add_one, List.getElem?_eq_getElem h]; rfl
theorem Met.same {x w : List Int} {m : Nat} (h : Met x w m) (hm : m < x.length) {c : Int} (hc : x[m]?.getD 0 = c) : Met x (w ++ [c]) (m + 1) := by
  refine ⟨?_, fun h1 h2 => ?_⟩
  · rw [take_snocF hm, hc]; exact h.1.append (List.Sublist.refl _)
  · rw [take_snocF h1] at h2
    rcases snoc_sub h2 with h3 | ⟨_, h3⟩
    · exact h.2 hm ((List.sublist_append_left _ _).trans h3)
    · exact h.2 hm h3
theorem Met.other {x w : List Int} {m : Nat} (h : Met x w m) (hm : m < x.length) {c : Int} (hc : x[m]?.getD 0 ≠ c) : Met x (w ++ [c]) m := by
  refine ⟨h.1.trans (List.sublist_append_left _ _), fun _ h2 => ?_⟩
  rw [take_snocF hm] at h2
  rcases snoc_sub h2 with h3 | ⟨e, _⟩
  · exact h.2 hm (by rw [take_snocF hm]; exact h3)
  · exact hc e
def bsAt (ss : List ByteArray) (i : Nat) : List Int := bs (ss[i]?.getD ByteArray.empty)
theorem memN_len (ss : List ByteArray) (i : Nat) : memN ss i = (bsAt ss i).length := by unfold memN bsAt; rw [bs_len]
/-- What stands after the word w. -/
def MetS (ss : List ByteArray) (w : List Int) (f : Nat → Nat) (i : Nat) : Prop := Met (bsAt ss i) w (f i) ∧ f i < memN ss i
def AdvP (ss : List ByteArray) (w : List Int) (f : Nat → Nat) (c : Int) (j : Nat) : Option (Nat → Nat) → Prop
  | none => ∃ i, i < j ∧ (bsAt ss i).Sublist (w ++ [c])
  | some h => (∀ i, i < j → MetS ss (w ++ [c]) h i) ∧ ∀ i, j ≤ i → h i = f i
theorem advTo_met {ss : List ByteArray} {w : List Int} {f : Nat → Nat} {c : Int} (hf : ∀ i, i < ss.length → MetS ss w f i) : ∀ j, j ≤ ss.length → AdvP ss w f c j (advTo ss f c j)
  | 0, _ => ⟨fun i hi => absurd hi (Nat.not_lt_zero _), fun _ _ => rfl⟩
  | j + 1, hj => by
    have ih := advTo_met (c := c) hf j (by omega)
    rw [advTo]
    cases ha : advTo ss f c j with
    | none =>
      rw [ha] at ih
      obtain ⟨i, hi, h⟩ := ih
      exact ⟨i, by omega, h⟩
    | some h =>
      rw [ha] at ih
      obtain ⟨h1, h2⟩ := ih
      obtain ⟨h3, h4⟩ := hf j (by omega)
      rw [← h2 j (Nat.le_refl _)] at h3 h4
      rw [memN_len] at h4
      have h5 : memB ss j (h j) = (bsAt ss j)[h j]?.getD 0 := rfl
      dsimp only
      rw [h5, memN_len]
      split
      · rename_i e
        have h6 := h3.same h4 e
        split
        · rename_i e2
          refine ⟨j, by omega, ?_⟩
          have := h6.1
          rwa [e2, List.take_length] at this
        · rename_i e2
          refine ⟨fun i hi => ?_, fun i hi => ?_⟩
          · by_cases ei : i = j
            · subst ei
              refine ⟨?_, ?_⟩
              · rw [show updN h i (h i + 1) i = h i + 1 from by unfold updN; rw [if_pos rfl]]; exact h6
              · rw [show updN h i (h i + 1) i = h i + 1 from by unfold updN; rw [if_pos rfl], memN_len]; omega
            · have h7 : updN h j (h j + 1) i = h i := by unfold updN; rw [if_neg ei]
              have h8 := h1 i (by omega)
              refine ⟨?_, ?_⟩
              · rw [h7]; exact h8.1
              · rw [h7]; exact h8.2
          · have h7 : updN h j (h j + 1) i = h i := by unfold updN; rw [if_neg (by omega)]
            rw [h7]; exact h2 i (by omega)
      · rename_i e
        refine ⟨fun i hi => ?_, fun i hi => h2 i (by omega)⟩
        by_cases ei : i = j
        · subst ei
          exact ⟨h3.other h4 e, by rw [memN_len]; exact h4⟩
        · exact h1 i (by omega)
def holdsW (ss : List ByteArray) (w : List Int) : Prop := ∃ x ∈ ss, (bs x).Sublist w
theorem holds_at {ss : List ByteArray} {w : List Int} : holdsW ss w ↔ ∃ i, i < ss.length ∧ (bsAt ss i).Sublist w := by
  constructor
  · rintro ⟨x, hx, h⟩
    obtain ⟨i, hi, rfl⟩ := List.getElem_of_mem hx
    exact ⟨i, hi, by unfold bsAt; rw [List.getElem?_eq_getElem hi]; exact h⟩
  · rintro ⟨i, hi, h⟩
    unfold bsAt at h
    rw [List.getElem?_eq_getElem hi] at h
    exact ⟨_, List.getElem_mem hi, h⟩
/-- The letters, the last one first. -/
def runF (ss : List ByteArray) : List Nat → Option St4
  | [] => if hasS ss ByteArray.empty then none else some ((0, 0), (0, 0))
  | c :: cs => (runF ss cs).bind fun s => stepS ss s c
def wordR (cs : List Nat) : List Int := (cs.map fun (c : Nat) => 97 + (c : Int)).reverse
theorem wordR_cons (c : Nat) (cs : List Nat) : wordR (c :: cs) = wordR cs ++ [97 + (c : Int)] := by unfold wordR; rw [List.map_cons, List.reverse_cons]
def RunFP (ss : List ByteArray) (w : List Int) : Option St4 → Prop
  | none => holdsW ss w
  | some s => ∀ i, i < ss.length → MetS ss w (getS s) i
theorem getS_zero (i : Nat) : getS ((0, 0), (0, 0)) i = 0 := by unfold getS; split <;> (try split) <;> (try split) <;> rfl
theorem runF_met {ss : List ByteArray} (h4 : ss.length ≤ 4) : ∀ cs, RunFP ss (wordR cs) (runF ss cs)
  | [] => by
    rw [runF]
    split
    · rename_i hh
      exact ⟨_, hasS_iff.1 hh, by exact List.nil_sublist _⟩
    · rename_i hno
      intro i hi
      have hpos : 0 < (bsAt ss i).length := by
        rw [← memN_len]
        unfold memN
        rw [List.getElem?_eq_getElem hi, Option.getD_some]
        refine Nat.pos_of_ne_zero fun e => hno (hasS_iff.2 ?_)
        have he : ss[i] = ByteArray.empty := by
          cases hx : ss[i] with | mk d => rw [hx] at e; have : d = #[] := Array.eq_empty_of_size_eq_zero e; rw [this]; rfl
        rw [← he]
        exact List.getElem_mem _
      refine ⟨?_, ?_⟩
      · rw [getS_zero]
        refine ⟨by rw [List.take_zero]; exact List.nil_sublist _, fun _ h => ?_⟩
        have h1 := h.length_le
        rw [List.length_take] at h1
        have h2 : (wordR []).length = 0 := rfl
        omega
      · rw [getS_zero, memN_len]; exact hpos
  | c :: cs => by
    have ih := runF_met h4 cs
    rw [runF, wordR_cons]
    cases hr : runF ss cs with
    | none =>
      rw [hr] at ih
      obtain ⟨x, hx, h⟩ := ih
      exact ⟨x, hx, h.trans (List.sublist_append_left _ _)⟩
    | some s =>
      rw [hr] at ih
      have h1 := advTo_met (c := 97 + (c : Int)) ih ss.length (Nat.le_refl _)
      rw [Option.bind_some, stepS]
      unfold advF
      cases ha : advTo ss (getS s) (97 + (c : Int)) ss.length with
      | none =>
        rw [ha] at h1
        exact holds_at.2 h1
      | some f =>
        rw [ha] at h1
        intro i hi
        have h2 := h1.1 i hi
        have h3 : getS (mkS f) i = f i := by rw [getS_mk, show min i 3 = i from by omega]
        unfold MetS
        rw [h3]
        exact h2
theorem runF_some {ss : List ByteArray} (h4 : ss.length ≤ 4) (cs : List Nat) : (runF ss cs).isSome = true ↔ ¬ holdsW ss (wordR cs) := by
  have h := runF_met h4 cs
  cases hr : runF ss cs with
  | none =>
    rw [hr] at h
    exact ⟨fun h1 => (by cases h1), fun h1 => absurd h h1⟩
  | some s =>
    rw [hr] at h
    refine ⟨fun _ h1 => ?_, fun _ => rfl⟩
    obtain ⟨i, hi, h2⟩ := holds_at.1 h1
    obtain ⟨h3, h5⟩ := h i hi
    rw [memN_len] at h5
    exact h3.2 h5 ((List.take_sublist _ _).trans h2)
/-- All words of j of the first k letters, the last letter first. -/
def NR (k : Nat) : Nat → List (List Nat)
  | 0 => [[]]
  | j + 1 => (NR k j).flatMap fun cs => (List.range k).map fun c => c :: cs
def valF (g : St4 → Nat) : Option St4 → Nat
  | none => 0
  | some s => g s
theorem outTo_sum (ss : List ByteArray) (g : St4 → Nat) (s : St4) : ∀ k, outTo ss g s k = ((List.range k).map fun c => valF g (stepS ss s c)).sum
  | 0 => rfl
  | k + 1 => by
    rw [outTo, outTo_sum ss g s k, List.range_succ, List.map_append, List.sum_append]
    congr 1
theorem out_sum (ss : List ByteArray) (k : Nat) (g : St4 → Nat) (o : Option St4) : valF (outS ss k g) o = ((List.range k).map fun c => valF g (o.bind fun s => stepS ss s c)).sum := by
  cases o with
  | none =>
    have : (List.range k).map (fun c => valF g ((none : Option St4).bind fun s => stepS ss s c)) = (List.range k).map fun _ => 0 := rfl
    rw [this]
    show 0 = _
    induction k with
    | zero => rfl
    | succ k ih => rw [List.range_succ, List.map_append, List.sum_append, ← ih rfl]; rfl
  | some s => exact outTo_sum ss g s k
theorem sum_flat (f : List Nat → List (List Nat)) (h : List Nat → Nat) : ∀ l : List (List Nat), ((l.flatMap f).map h).sum = (l.map fun x => ((f x).map h).sum).sum
  | [] => rfl
  | x :: l => by rw [List.flatMap_cons, List.map_append, List.sum_append, sum_flat f h l, List.map_cons, List.sum_cons]
theorem free_sum (ss : List ByteArray) (k : Nat) : ∀ (j : Nat) (g : St4 → Nat), sumL (freeU ss k j g) (start4 ss) = ((NR k j).map fun cs => valF g (runF ss cs)).sum
  | 0, g => by
    unfold start4
    cases hq : hasS ss ByteArray.empty <;> simp [freeU, NR, runF, hq, sumL, valF]
  | j + 1, g => by
    rw [freeU, free_sum ss k j, NR, sum_flat]
    congr 1
    refine List.map_congr_left fun cs _ => ?_
    rw [out_sum, List.map_map]
    rfl
theorem freeT_is (ss : List ByteArray) (k j : Nat) : freeT ss k j = ((NR k j).map fun cs => valF (fun _ => 1) (runF ss cs)).sum := free_sum ss k j _
theorem valF_one (o : Option St4) : valF (fun _ => 1) o = if o.isSome = true then 1 else 0 := by cases o <;> rfl
theorem freeT_same {ss ms : List ByteArray} (h1 : ss.length ≤ 4) (h2 : ms.length ≤ 4) (h : ∀ w, holdsW ss w ↔ holdsW ms w) (k j : Nat) : freeT ss k j = freeT ms k j := by
  rw [freeT_is, freeT_is]
  congr 1
  refine List.map_congr_left fun cs _ => ?_
  rw [valF_one, valF_one]
  by_cases hh : holdsW ss (wordR cs)
  · rw [if_neg (fun e => (runF_some h1 cs).1 e hh), if_neg (fun e => (runF_some h2 cs).1 e ((h _).1 hh))]
  · rw [if_pos ((runF_some h1 cs).2 hh), if_pos ((runF_some h2 cs).2 fun e => hh ((h _).2 e))]
theorem freeL_same {ss ms : List ByteArray} (h1 : ss.length ≤ 4) (h2 : ms.length ≤ 4) (h : ∀ w, holdsW ss w ↔ holdsW ms w) (k n : Nat) : freeL ss k n = freeL ms k n := by
  unfold freeL
  exact List.map_congr_left fun j _ => by rw [freeT_same h1 h2 h]
theorem freeT_next (ss : List ByteArray) (k j : Nat) : freeT ss k (j + 1) ≤ freeT ss k j * k := by
  show sumL (freeU ss k j (outS ss k fun _ => 1)) (start4 ss) ≤ _
  rw [free_sum, freeT_is]
  generalize NR k j = l
  induction l with
  | nil => exact Nat.zero_le _
  | cons cs l ih =>
    rw [List.map_cons, List.sum_cons, List.map_cons, List.sum_cons, Nat.add_mul]
    refine Nat.add_le_add ?_ ih
    cases runF ss cs with
    | none => exact Nat.zero_le _
    | some s => show outTo ss (fun _ => 1) s k ≤ 1 * k; rw [Nat.one_mul]; exact outTo_one ss s k
theorem freeT_zero_le (ss : List ByteArray) (k : Nat) : freeT ss k 0 ≤ 1 := start_le ss
theorem freeT_pow (ss : List ByteArray) {k : Nat} (hk : k ≤ 4) : ∀ j, freeT ss k j ≤ 4 ^ j
  | 0 => freeT_zero_le ss k
  | j + 1 => by
    refine Nat.le_trans (freeT_next ss k j) ?_
    rw [Nat.pow_succ]
    exact Nat.mul_le_mul (freeT_pow ss hk j) hk
/-- A member that holds no other one, in what holds x. -/
theorem min_below {ss : List ByteArray} : ∀ (n : Nat) (x : ByteArray), x ∈ ss → (bs x).length ≤ n → ∃ y ∈ minOf ss, (bs y).Sublist (bs x)
  | n, x, hx, hn => by
    cases ha : anyA x ss with
    | false => exact ⟨x, min_mem.2 ⟨hx, ha⟩, List.Sublist.refl _⟩
    | true =>
      obtain ⟨o, ho, e⟩ := List.any_eq_true.1 ha
      unfold aboveB at e
      simp only [Bool.and_eq_true, Bool.not_eq_true', decide_eq_false_iff_not] at e
      have hs : (bs o).Sublist (bs x) := sub_iff.1 e.2
      have hl : (bs o).length < (bs x).length := by
        rcases Nat.lt_or_ge (bs o).length (bs x).length with h | h
        · exact h
        · exact absurd (bs_inj (hs.eq_of_length_le h)) e.1
      match n with
      | 0 => omega
      | n + 1 =>
        obtain ⟨y, hy, h⟩ := min_below n o ho (by omega)
        exact ⟨y, hy, h.trans hs⟩
theorem holds_min {ss : List ByteArray} (w : List Int) : holdsW ss w ↔ holdsW (minOf ss) w := by
  constructor
  · rintro ⟨x, hx, h⟩
    obtain ⟨y, hy, h2⟩ := min_below _ x hx (Nat.le_refl _)
    exact ⟨y, hy, h2.trans h⟩
  · rintro ⟨x, hx, h⟩
    exact ⟨x, (min_mem.1 hx).1, h⟩
theorem min_some {ss : List ByteArray} (h : 0 < ss.length) : 0 < (minOf ss).length := by
  obtain ⟨y, hy, _⟩ := min_below (ss := ss) _ ss[0] (List.getElem_mem h) (Nat.le_refl _)
  exact List.length_pos_of_mem hy
theorem min_apart {ss : List ByteArray} (hn : (minOf ss).Nodup) {i j : Nat} (hi : i < (minOf ss).length) (hj : j < (minOf ss).length) (hij : i ≠ j) :
    (withinF (bs ((minOf ss)[j]?.getD ByteArray.empty)) (bs ((minOf ss)[i]?.getD ByteArray.empty))).isSome = false := by
  have h1 := min_mem.1 (List.getElem_mem hi)
  have h2 := min_mem.1 (List.getElem_mem hj)
  have hne : (minOf ss)[j] ≠ (minOf ss)[i] := fun e => hij ((nodup_at hn (List.getElem?_eq_getElem hi) (by rw [List.getElem?_eq_getElem hj, e])))
  rw [List.getElem?_eq_getElem hi, List.getElem?_eq_getElem hj, Option.getD_some, Option.getD_some]
  cases hq : (withinF (bs (minOf ss)[j]) (bs (minOf ss)[i])).isSome with
  | false => rfl
  | true =>
    have : anyA (minOf ss)[i] ss = true := List.any_eq_true.2 ⟨_, h2.1, by unfold aboveB; rw [hq, decide_eq_false hne]; rfl⟩
    rw [this] at h1
    cases h1.2
end Go.Proofs.Ytkemcmeagnggeaa
/- Layer 3: the walk of ThreadSparse. -/
namespace Go.Proofs.Ytkemcmeagnggeaa
open Go.RowKit
set_option linter.unusedVariables false

theorem ownL_apart {ss : List ByteArray} {i j : Nat} (hi : i < (minOf (ownL ss)).length) (hj : j < (minOf (ownL ss)).length) (hij : i ≠ j) :
    (withinF (bs ((minOf (ownL ss))[j]?.getD ByteArray.empty)) (bs ((minOf (ownL ss))[i]?.getD ByteArray.empty))).isSome = false :=
  min_apart (List.Pairwise.imp (fun {a b} (h : LtB a b) (e : a = b) => by subst e; exact h.irr) (minTo_sorted (ss := ownL ss) (fun j hj => ownL_word hj) _ (Nat.le_refl _))) hi hj hij
theorem min_fam {ss : List ByteArray} (h : famB ss = true) : famB (minOf ss) = true := by
  have hmem : ∀ x ∈ minOf ss, x ∈ ss := fun x hx => (min_mem.1 hx).1
  have hl : (minOf ss).length ≤ 4 := Nat.le_trans (minTo_len ss ss.length) (famB_len h)
  rw [← famB_good fun j hj => by
    obtain ⟨k, hk, e⟩ := List.getElem_of_mem (hmem _ (List.getElem_mem hj))
    have := famB_fam h hk
    unfold famTo at this ⊢
    rw [List.getElem?_eq_getElem hk, e] at this
    rw [List.getElem?_eq_getElem hj]
    exact this]
  exact decide_eq_true hl
theorem min_size {ss : List ByteArray} {B : Nat} (hz : ∀ j : Nat, (ss[j]?.getD ByteArray.empty).size ≤ B) (i : Nat) : ((minOf ss)[i]?.getD ByteArray.empty).size ≤ B := by
  by_cases hi : i < (minOf ss).length
  · obtain ⟨k, hk, e⟩ := List.getElem_of_mem (min_mem.1 (List.getElem_mem hi)).1
    have := hz k
    rw [List.getElem?_eq_getElem hk, e] at this
    rw [List.getElem?_eq_getElem hi]
    exact this
  · rw [List.getElem?_eq_none (by omega)]
    exact Nat.zero_le _
theorem freeL_at (ss : List ByteArray) (k n i : Nat) (h : i ≤ n) : (freeL ss k n)[i]?.getD 0 = (freeT ss k i : Int) := by
  unfold freeL
  rw [List.getElem?_map, List.getElem?_range (by omega)]
  rfl
theorem Ows.lie {w : World} {B e n c : Nat} {A : Option Addr} {zs : List ByteArray} (h : Ows w B e (.slice A n c) zs) (hn : zs.length = n) : ∀ a, A = some a → a.block < w.heap.size := by
  rintro a rfl
  rcases h.two hn with ⟨e1, _⟩ | ⟨g, cap, e1, _, hg, _⟩
  · cases e1
  · injection e1 with e1
    injection e1 with e1
    rw [e1]; exact hg
/-- The program's Free at the law's arguments. -/
theorem sparse_free (A : Option Addr) (m c r n p : Nat) (L : List ByteArray) (W : World) (hs : Sls W A m c L) (hA : ∀ a, A = some a → a.block < W.heap.size) (hf : famB L = true) (hr : r < 4) (hn : n ≤ 20) (hp : n + 1 = p) :
    Calls Try.prog 41 #[.slice A m c, .int .i64 (1 + (r : Int)), .int .i64 (n : Int)] W fun e w' => ∃ A' c', e = .returned (.tuple #[.slice A' p c', .int .i64 0]) ∧ Sl w' A' p c' (freeL L (r + 1) n) ∧ Below W.heap.size W w' := by
  have e1 : (1 : Int) + (r : Int) = ((r + 1 : Nat) : Int) := by omega
  rw [e1]
  have hok : freeOk L ((r + 1 : Nat) : Int) (n : Int) = true := by
    unfold freeOk
    rw [hf, lettersK_iff.2 ⟨r + 1, rfl, by omega, by omega⟩, decide_eq_true (p := (0 : Int) ≤ (n : Int)) (by omega), decide_eq_true (p := (n : Int) ≤ 30) (by omega)]
    rfl
  refine (freeP_any A m c L (r + 1) n W hs.len hs.rd hA hok).mono ?_
  rintro e w' ⟨⟨v, rfl, hv⟩, hb⟩
  obtain ⟨A', c', rfl, hsl⟩ := hv.sl_len (by rw [freeL_length, hp]) (by omega)
  exact ⟨A', c', rfl, hsl, hb⟩
set_option maxRecDepth 100000 in
set_option maxHeartbeats 3200000 in
theorem sparse_walk (a0 a1 : Int) (A : Option Addr) (n c : Nat) (ss : List ByteArray) (w : World) (hs : Sls w A n c ss) (hn : n ≤ maxLen) (hz : ∀ i : Nat, (ss[i]?.getD ByteArray.empty).size ≤ maxLen) :
    Calls Try.prog 15 #[.slice A n c, .agg #[.int .i64 a0, .int .i64 a1]] w fun e w' => e = .returned (.bool true) ∧ Below w.heap.size w w' := by
  unfold maxLen at hn hz
  obtain ⟨i0, hi, hz0, hz1, hz2⟩ := info_parts Try.infoStr
  have HI : Hid (Try.prog.info? 9 = some i0 ∧ i0.zero = some (.string ByteArray.empty) ∧ i0.size = 1 ∧ i0.bytes = 16) := ⟨hi, hz0, hz1, hz2⟩
  clear hi hz0 hz1 hz2
  have HTW : Hid (∀ k W, Calls Try.prog 46 #[.string (ss[k]?.getD ByteArray.empty), .int .i64 6, .int .i64 4] W fun e w' => e = .returned (.string (tmB (ss[k]?.getD ByteArray.empty) 6 4)) ∧ Below W.heap.size W w') := fun k W => tame_max _ 6 4 W (hz k) (by omega) (by omega) (by omega)
  have HL : Hid (ss.length = n) := hs.len
  obtain ⟨ob, hob⟩ : ∃ ob : Obj, ob = .cells #[.int .i64 a0, .int .i64 a1] 52 := ⟨_, rfl⟩
  have HBX : Hid (∀ W, Kp (w.alloc ob) W → W.cell? ⟨w.heap.size, 0, none⟩ = some (.int .i64 a0) ∧ W.cell? ⟨w.heap.size, 1, none⟩ = some (.int .i64 a1)) := fun W hk => by
    have e : W.heap[w.heap.size]? = some ob := (hk.block w.heap.size (by show _ < (w.heap.push ob).size; simp)).trans (heap_alloc_new w ob)
    subst hob
    refine ⟨?_, ?_⟩ <;> simp [World.cell?, e]
  have HS1 : Hid (Sls (w.alloc ob) A n c ss) := hs.below ((Below.refl _ _).alloc (Nat.le_refl _) _) (Nat.le_refl _)
  have HB1 : Hid (Below w.heap.size w (w.alloc ob)) := Kp.fresh w ob
  have HM4 := Lib.hid (fun W => mod_max a0 4 W (by omega) (by omega))
  have HM21 := Lib.hid (fun W => mod_max a1 21 W (by omega) (by omega))
  obtain ⟨w1, hw1⟩ : ∃ w1, w1 = w.alloc ob := ⟨_, rfl⟩
  rw [← hw1] at HS1 HBX HB1
  have HW1 := Lib.hid hw1
  clear hs hz hw1
  go_enter Try.func15, Try.ntmps15
  go_wp2
  rw [← hob, ← HW1.out]
  clear HW1 hob
  go_loopw [5, 6] (fun l i w' => ∃ k : Nat, k ≤ n ∧ k ≤ 4 ∧ i = .int .i64 (k : Int) ∧ Hid (Ows w' w1.heap.size 9 l ((ss.take k).map fun s => tmB s 6 4)) ∧ Below w1.heap.size w1 w') (fun _ i _ => n - (intOf i).toNat)
  case atStart => exact ⟨0, by omega, by omega, by go_num, Ows.nil _ _ _, Below.refl _ _⟩
  case round =>
    obtain ⟨k, hk, hk4, rfl, HO, hD⟩ := hrel
    obtain ⟨wo, rfl⟩ : ∃ wo : World, wo = wr := ⟨_, rfl⟩
    have hbase := hD.size
    by_cases hlt : k < n ∧ k < 4
    · obtain ⟨hkn, hk4'⟩ := hlt
      obtain ⟨b, off, rfl, hc⟩ := (HS1.out.below hD (Nat.le_refl _)).rd k (by rw [HL.out]; exact hkn)
      have HT := Lib.hid (HTW.out k)
      have HSN := Lib.hid (take_snocB (ss := ss) (k := k) (by rw [HL.out]; exact hkn))
      have HLB : Hid (((ss.take k).map fun s => tmB s 6 4).length ≤ 1099511627776) := by rw [Hid, List.length_map, List.length_take]; omega
      generalize ss[k]?.getD ByteArray.empty = s at hc HT HSN
      generalize tmB s 6 4 = y at HT HSN
      obtain ⟨L, hL⟩ : ∃ L, L = (ss.take k).map fun s => tmB s 6 4 := ⟨_, rfl⟩
      rw [← hL] at HO HSN HLB
      clear hL
      go_wp2_with (first | (go_at_call 46; (with_reducible refine (HT.out _).mono ?_); rintro e w2 ⟨rfl, hb2⟩; have HO2 : Hid (Ows w2 w1.heap.size 9 _ L) := HO.out.below hb2 (Nat.le_refl _); have HD2 : Hid (Below w1.heap.size w1 w2) := hD.trans (hb2.mono hbase); clear hb2) | (at_builtin; go_must (refine pushs_law _ rfl (.tmp 30) (.tmp 36) 51 rfl w1.heap.size 9 i0 Try.underlying51 HI.out _ L y rfl rfl HO2.out HLB.out HD2.out.size ?_); intro v4 w4 hv4 hg4 hat4; have HO4 := Lib.hid hv4; have HD4 := Lib.hid (HD2.out.grown hg4 HD2.out.size (fun b hb => (HO2.out.lt hb).1)); clear hv4 hg4 hat4))
      exact ⟨⟨k + 1, by omega, by omega, by go_num, (by rw [Hid, HSN.out]; exact HO4.out), HD4.out⟩, by simp [intOf] <;> omega⟩
    · have HKL : Hid ((ss.take k).map (fun s => tmB s 6 4) = ownL ss) := by
        unfold ownL
        by_cases h4 : k = 4
        · rw [h4]; rfl
        · rw [Hid, List.take_of_length_le (by rw [HL.out]; omega), List.take_of_length_le (by rw [HL.out]; omega)]
      rw [HKL.out] at HO
      have HLW : Hid (∀ j, j < (ownL ss).length → wordB (bs ((ownL ss)[j]?.getD ByteArray.empty)) = true) := fun j hj => ownL_word hj
      have HLF := Lib.hid (ownL_fam ss)
      have HMF := Lib.hid (min_fam (ownL_fam ss))
      have HMZ := Lib.hid (fun i => min_size (ownL_size ss) i)
      have HAP := Lib.hid (fun i j => ownL_apart (ss := ss) (i := i) (j := j))
      have hl4 := ownL_len ss
      have HFS : Hid (∀ k n, freeL (ownL ss) k n = freeL (minOf (ownL ss)) k n) := fun k n => freeL_same (ownL_len ss) (Nat.le_trans (minTo_len _ _) (ownL_len ss)) (fun w => holds_min w) k n
      have HMS : Hid (0 < (ownL ss).length → 0 < (minOf (ownL ss)).length) := min_some
      generalize ownL ss = L at HO HLW HLF HMF HMZ HAP HFS HMS hl4
      clear HKL
      obtain ⟨m, hm⟩ : ∃ m, L.length = m := ⟨_, rfl⟩
      rw [hm] at hl4 HMS
      obtain ⟨A5, c5, rfl, hs5⟩ := HO.out.sls hm
      have HL5 := Lib.hid (HO.out.lie hm)
      have HS5 := Lib.hid hs5
      clear hs5
      obtain ⟨q, hq⟩ : ∃ q, (minOf L).length = q := ⟨_, rfl⟩
      have hq4 : q ≤ 4 := by have := minTo_len L L.length; rw [show minTo L L.length = minOf L from rfl, hq, hm] at this; omega
      rw [hq] at HMS HAP
      have HMi := Lib.hid (fun A c W h => own_minimal A m c q L W h hl4 (by rw [← hm]; exact HLW.out) HLF.out hq)
      have HD := Lib.hid hD
      have HQ := Lib.hid hq
      have HAW := Lib.hid (fun W => awake_here W)
      have HK0 := Lib.hid (HBX.out wo.drew hD.drew)
      have hmq : (m = 0 ∨ (0 < m ∧ 0 < q)) := (Nat.eq_zero_or_pos m).imp id fun h0 => ⟨h0, HMS.out h0⟩
      clear hD hm hq HTW HS1 HLW HMS
      have hcs : k = n ∨ (k < n ∧ k = 4) := by omega
      clear hlt hk hk4
      rcases hcs with hcs | ⟨hkn, hcs⟩
      all_goals (
        go_wp2
        obtain ⟨hk0, hk1⟩ := HK0.out
        go_region_held_law (fun W => W.cell? ⟨w.heap.size, 0, none⟩ = some (.int .i64 a0) ∧ W.cell? ⟨w.heap.size, 1, none⟩ = some (.int .i64 a1))
          (first | assumption)
          (first | (go_at_call 47; (with_reducible refine (HM4.out _).mono ?_); rintro e w6 ⟨⟨r, rfl, hr⟩, rfl⟩) | (go_at_call 47; (with_reducible refine (HM21.out _).mono ?_); rintro e w7 ⟨⟨z, rfl, hz⟩, rfl⟩))
        obtain ⟨K, hK⟩ : ∃ K : Int, K = 1 + (r : Int) := ⟨_, rfl⟩
        have hwr : IntKind.i64.wrap K = K := IntWalk.i64_in _ (by omega)
        simp only [← hK, hwr]
        obtain ⟨p, hp⟩ : ∃ p, z + 1 = p := ⟨_, rfl⟩
        have HF1 : Hid (∀ A m c L W, Sls W A m c L → (∀ a, A = some a → a.block < W.heap.size) → famB L = true → Calls Try.prog 41 #[.slice A m c, .int .i64 K, .int .i64 (z : Int)] W fun e w' => ∃ A' c', e = .returned (.tuple #[.slice A' p c', .int .i64 0]) ∧ Sl w' A' p c' (freeL L (r + 1) z) ∧ Below W.heap.size W w') := fun A m c L W h1 h2 h3 => by rw [hK]; exact sparse_free A m c r z p L W h1 h2 h3 (by omega) (by omega) hp
        have HLE : Hid (∀ i, i ≤ z → (freeL L (r + 1) z)[i]?.getD 0 = (freeT L (r + 1) i : Int)) := fun i hi => freeL_at L (r + 1) z i hi
        have HNX : Hid (∀ i, freeT L (r + 1) (i + 1) ≤ freeT L (r + 1) i * (r + 1)) := fun i => freeT_next L (r + 1) i
        have HPW : Hid (∀ i, i ≤ 20 → freeT L (r + 1) i ≤ 1099511627776) := fun i hi => Nat.le_trans (freeT_pow L (by omega) i) (Nat.le_trans (Nat.pow_le_pow_right (by omega) hi) (by decide))
        have HZL : Hid (freeT L (r + 1) 0 ≤ 1) := freeT_zero_le L (r + 1)
        have HS5b := Lib.hid (HS5.out.below ((Below.refl wo.heap.size wo).drew) (Nat.le_refl _))
        have HL5b : Hid (∀ a, A5 = some a → a.block < wo.drew.heap.size) := HL5.out
        have hzp : (z : Int) + 1 = (p : Int) := by omega
        have g1 : ((p : Int) != (z : Int) + 1) = false := by rw [hzp]; simp
        have hp21 : p ≤ 21 := by omega
        have HP := Lib.hid hp
        have HKR := Lib.hid hK
        have HB0 : Hid (Below w.heap.size w wo.drew) := (HB1.out.trans (HD.out.mono HB1.out.size)).drew
        clear hwr hK hp hzp HS5 HL5 HM4 HM21 HBX HB1 HD HK0 hk0 hk1 HI HL
        have hmq : ¬ ((0 : Int) < (m : Int)) ∨ ((0 : Int) < (m : Int) ∧ ((q : Int) == 0) = false ∧ (q : Int) ≠ 0) := hmq.imp (fun h => by omega) (fun h => ⟨by omega, by simp; omega, by omega⟩)
        rcases hmq with hm0 | ⟨hm0, hq0, hq1⟩
        all_goals (
          go_wp2_with (first
            | (go_at_call 40; refine (HMi.out _ _ _ HS5b.out).mono ?_; rintro e w7 ⟨A7, c7, rfl, ho7, hs7, hb7⟩; have HS7 := Lib.hid hs7; have HL7 := Lib.hid (ho7.lie HQ.out); have HB7 := Lib.hid (bcall HB0.out hb7); have HS57 := Lib.hid (HS5b.out.below hb7 (Nat.le_refl _)); have HL57 : Hid (∀ a, A5 = some a → a.block < w7.heap.size) := (fun a e => Nat.lt_of_lt_of_le (HL5b.out a e) hb7.size); clear ho7 hs7 hb7)
            | (go_at_call 41; (with_reducible refine (HF1.out _ _ _ L _ HS57.out HL57.out HLF.out).mono ?_); rintro e w8 ⟨A8, c8, rfl, hs8, hb8⟩; have HS8 := Lib.hid hs8; have HB8 := Lib.hid (bcall HB7.out hb8); have HS78 := Lib.hid (HS7.out.below hb8 (Nat.le_refl _)); have HL78 : Hid (∀ a, A7 = some a → a.block < w8.heap.size) := (fun a e => Nat.lt_of_lt_of_le (HL7.out a e) hb8.size); clear hs8 hb8)
            | (go_at_call 41; (with_reducible refine (HF1.out _ _ _ (minOf L) _ HS78.out HL78.out HMF.out).mono ?_); rintro e w9 ⟨A9, c9, rfl, hs9, hb9⟩; rw [← HFS.out] at hs9; have HS9 := Lib.hid hs9; have HB9 := Lib.hid (bcall HB8.out hb9); have HS89 := Lib.hid (HS8.out.below hb9 (Nat.le_refl _)); have HS79 := Lib.hid (HS78.out.below hb9 (Nat.le_refl _)); clear hs9 hb9)
            | (go_at_call 24; refine (own_ints A8 A9 p c8 c9 _ _ HS89.out HS9.out (by omega)).mono ?_; rintro e wa ⟨rfl, hba⟩; have HBA := Lib.hid (bcall HB9.out hba); have HS8a := Lib.hid (HS89.out.below hba (Nat.le_refl _)); have HS7a := Lib.hid (HS79.out.below hba (Nat.le_refl _)); clear hba))
          go_loopw [15, 16, 17, 18] (fun i _ _ _ w' => ∃ x : Nat, x ≤ q ∧ i = .int .i64 (x : Int) ∧ Hid (Below wa.heap.size wa w')) (fun i _ _ _ _ => q - (intOf i).toNat)
          case atStart => exact ⟨0, by omega, by go_num, Below.refl _ _⟩
          case round =>
            obtain ⟨x, hx, rfl, HV⟩ := hrel
            obtain ⟨wi, rfl⟩ : ∃ wo : World, wo = wr := ⟨_, rfl⟩
            by_cases hxq : x < q
            · go_wp2
              go_loopw [16, 17, 18] (fun j _ _ w' => ∃ y : Nat, y ≤ q ∧ j = .int .i64 (y : Int) ∧ Hid (Below wi.heap.size wi w')) (fun j _ _ _ => q - (intOf j).toNat)
              case atStart => exact ⟨0, by omega, by go_num, Below.refl _ _⟩
              case round =>
                obtain ⟨y, hy, rfl, HU⟩ := hrel
                obtain ⟨wj, rfl⟩ : ∃ wo : World, wo = wr := ⟨_, rfl⟩
                by_cases hyq : y < q
                · have HSj := HS7a.out.below (bcall HV.out HU.out) (Nat.le_refl _)
                  obtain ⟨b, off, rfl, hcs⟩ := HSj.dn (by omega)
                  have hci := hcs x hxq
                  have hcj := hcs y hyq
                  have hbo : b < wj.heap.size := HSj.old b off rfl (by omega)
                  have hzx := HMZ.out x
                  have hzy := HMZ.out y
                  have HAPx : Hid (x ≠ y → (withinF (bs ((minOf L)[y]?.getD ByteArray.empty)) (bs ((minOf L)[x]?.getD ByteArray.empty))).isSome = false) := HAP.out x y hxq hyq
                  obtain ⟨u, hu⟩ : ∃ u, u = (minOf L)[x]?.getD ByteArray.empty := ⟨_, rfl⟩
                  obtain ⟨v, hv⟩ : ∃ v, v = (minOf L)[y]?.getD ByteArray.empty := ⟨_, rfl⟩
                  rw [← hu] at hci hzx HAPx
                  rw [← hv] at hcj hzy HAPx
                  have HWI : Hid (∀ W, Below wj.heap.size wj W → Calls Try.prog 23 #[.string v, .string u] W fun e w' => ∃ p, e = .returned (.tuple #[p, .bool (withinF (bs v) (bs u)).isSome]) ∧ Below wj.heap.size wj w') := fun W hW' => (within_any v u W (by omega) (by omega)).mono fun e w' ⟨p, a, _, b⟩ => ⟨p, a, hW'.trans (b.mono hW'.size)⟩
                  have HCC : Hid (∀ W, Below wj.heap.size wj W → W.cell? ⟨b, off + y, none⟩ = some (.string v) ∧ W.cell? ⟨b, off + x, none⟩ = some (.string u)) := fun W hb => ⟨(hb.cell (p := ⟨b, off + y, none⟩) hbo).trans hcj, (hb.cell (p := ⟨b, off + x, none⟩) hbo).trans hci⟩
                  have HK0 : Hid (Below wj.heap.size wj wj.drew) := (Below.refl _ _).drew
                  generalize (withinF (bs v) (bs u)).isSome = rr at HWI HAPx
                  clear hu hv hcs HSj
                  go_wp2
                  go_region_held_law (fun W => W.cell? ⟨b, off + y, none⟩ = some (.string v) ∧ W.cell? ⟨b, off + x, none⟩ = some (.string u))
                    (first | assumption | exact HCC.out _ HK0.out | exact HCC.out _ HK1.out)
                    ((go_at_call 23; (with_reducible refine (HWI.out _ HK0.out).mono ?_); rintro e w2 ⟨v2, rfl, hV2⟩; have HK1 := Lib.hid hV2; clear hV2))
                  have HN : Hid (Below wi.heap.size wi w2) := bcall HU.out HK1.out
                  clear HWI HCC HK0 HK1 hci hcj
                  cases rr with
                  | false =>
                    clear HAPx
                    go_wp2
                    exact ⟨⟨y + 1, by omega, by go_num, HN.out⟩, by simp [intOf] <;> omega⟩
                  | true =>
                    have hxy : x = y := Classical.byContradiction fun h => by have := HAPx.out h; cases this
                    subst hxy
                    clear HAPx
                    go_wp2
                    exact ⟨⟨x + 1, by omega, by go_num, HN.out⟩, by simp [intOf] <;> omega⟩
                · have HN : Hid (Below wa.heap.size wa wj) := bcall HV.out HU.out
                  go_wp2
                  exact ⟨⟨x + 1, by omega, by go_num, HN.out⟩, by simp [intOf] <;> omega⟩
            · have HS8i := HS8a.out.below HV.out (Nat.le_refl _)
              have HBI : Hid (Below w.heap.size w wi) := bcall HBA.out HV.out
              have hlen : (freeL L (r + 1) z).length = z + 1 := freeL_length L (r + 1) z
              obtain ⟨b8, o8, rfl, hc0⟩ := HS8i.rd 0 (by rw [hlen]; omega)
              have hb8 : b8 < wi.heap.size := lt_of_cell hc0
              have HCL : Hid (∀ W, Below wi.heap.size wi W → ∀ x, x ≤ z → W.cell? ⟨b8, o8 + x, none⟩ = some (.int .i64 (freeT L (r + 1) x : Int))) := fun W hb x hx => by
                obtain ⟨b', o', e, hc⟩ := HS8i.rd x (by rw [hlen]; omega)
                injection e with e
                injection e with e1 e2
                subst e1 e2
                rw [HLE.out x hx] at hc
                exact (hb.cell (p := ⟨b8, o8 + x, none⟩) hb8).trans hc
              have hc0 := HCL.out wi (Below.refl _ _) 0 (by omega)
              have hc0' : wi.cell? ⟨b8, o8, none⟩ = some (.int .i64 (freeT L (r + 1) 0 : Int)) := hc0
              have hz1 := HZL.out
              generalize freeT L (r + 1) 0 = f0 at hc0 hc0' hz1
              have hpp := HP.out
              clear hlen HS8i
              go_wp2
              clear hc0 hc0'
              go_loopw [19] (fun i w' => ∃ x : Nat, x ≤ z ∧ i = .int .i64 ((x : Int) + 1) ∧ Hid (Below wi.heap.size wi w')) (fun i _ => z + 1 - (intOf i).toNat)
              case atStart => exact ⟨0, by omega, by go_num, Below.refl _ _⟩
              case round =>
                obtain ⟨x, hx, rfl, HU⟩ := hrel
                obtain ⟨wj, rfl⟩ : ∃ wo : World, wo = wr := ⟨_, rfl⟩
                by_cases hxz : x < z
                · have h1 := HCL.out _ HU.out (x + 1) (by omega)
                  have h0 := HCL.out _ HU.out x (by omega)
                  have hnx := HNX.out x
                  have hp0 := HPW.out x (by omega)
                  have hp1 := HPW.out (x + 1) (by omega)
                  have HK0 : Hid (Below wi.heap.size wi wj.drew) := HU.out.drew
                  have HC2 : Hid (∀ W, Below wi.heap.size wi W → W.cell? ⟨b8, o8 + (x + 1), none⟩ = some (.int .i64 (freeT L (r + 1) (x + 1) : Int)) ∧ W.cell? ⟨b8, o8 + x, none⟩ = some (.int .i64 (freeT L (r + 1) x : Int))) := fun W hb => ⟨HCL.out W hb _ (by omega), HCL.out W hb _ (by omega)⟩
                  generalize freeT L (r + 1) (x + 1) = f1 at h1 hnx hp1 HC2
                  generalize freeT L (r + 1) x = f2 at h0 hnx hp0 HC2
                  have hkk := HKR.out
                  have hm1 : K * (f2 : Int) = ((f2 * (r + 1) : Nat) : Int) := by rw [hkk]; push_cast; rw [Int.mul_comm, Int.add_comm]
                  have hmb : f2 * (r + 1) ≤ 4398046511104 := Nat.le_trans (Nat.mul_le_mul hp0 (show r + 1 ≤ 4 by omega)) (by decide)
                  have hmul : IntKind.i64.wrap (K * (f2 : Int)) = K * (f2 : Int) := IntWalk.i64_in _ (by omega)
                  have hmul2 : wrap64 (K * (f2 : Int)) = K * (f2 : Int) := IntWalk.wrap64_in _ ⟨by omega, by omega⟩
                  have hle : ¬ (K * (f2 : Int) < (f1 : Int)) := by omega
                  have hle2 : decide (K * (f2 : Int) < (f1 : Int)) = false := decide_eq_false hle
                  clear hm1 hmb hnx hkk hp0 hp1
                  go_wp2
                  have f1' : IntKind.i64.wrap ((x : Int) + 1 - 1) = (x : Int) := by rw [show (x : Int) + 1 - 1 = (x : Int) from by omega]; exact IntWalk.i64_in _ (by omega)
                  have f2' : ((x : Int) + 1).toNat = x + 1 := by omega
                  have f3 : (0 : Int) ≤ (x : Int) + 1 := by omega
                  have f4 : (x : Int) + 1 < (p : Int) := by omega
                  have f5 : (x : Int) < (p : Int) := by omega
                  have f7 : (x : Int) + 1 - 1 = (x : Int) := by omega
                  have f8 : IntKind.i64.wrap (x : Int) = (x : Int) := IntWalk.i64_in _ (by omega)
                  have f9 : (0 : Int) ≤ (x : Int) := by omega
                  have f10 : ((x : Int)).toNat = x := by omega
                  have f11 : wrap64 ((x : Int) + 1 - 1) = (x : Int) := by rw [f7]; exact IntWalk.wrap64_in _ ⟨by omega, by omega⟩
                  have f12 : x < p := by omega
                  have f13 : decide ((f1 : Int) < 0) = false := by rw [decide_eq_false_iff_not]; omega
                  go_region_held_law (fun W => W.cell? ⟨b8, o8 + (x + 1), none⟩ = some (.int .i64 (f1 : Int)) ∧ W.cell? ⟨b8, o8 + x, none⟩ = some (.int .i64 (f2 : Int)))
                    (first | assumption | exact HC2.out _ HK0.out)
                    (fail)
                  clear f1' f2' f3 f4 f5 f7 f8 f9 f10 f11 f12 f13 hmul hmul2
                  go_wp2
                  clear hle hle2
                  exact ⟨⟨x + 1, by omega, by go_num, HK0.out⟩, by simp [intOf] <;> omega⟩
                · go_wp2_with (go_at_call 21; refine (HAW.out _).mono ?_; rintro e wl ⟨rfl, hbl⟩; have HBL := Lib.hid (bcall HU.out hbl); clear hbl)
                  go_ret
                  exact ⟨rfl, bcall HBI.out HBL.out⟩))
end Go.Proofs.Ytkemcmeagnggeaa
/- Layer 3: ThreadSparse's arguments as the frame gives them. -/
namespace Go.Proofs.Ytkemcmeagnggeaa
open Go.RowKit
set_option linter.unusedVariables false

theorem sparse_law (a0 : Option Addr) (len0 cap0 : Nat) (ss : List ByteArray) (x0 x1 : Int) (b0 : (Lit.int .i64 x0).wf = true) (b1 : (Lit.int .i64 x1).wf = true) (w : World) (h : IsTexts w a0 len0 cap0 ss) :
    Calls Try.prog 15 #[.slice a0 len0 cap0, .agg #[.int .i64 x0, .int .i64 x1]] w fun e w' => e = .returned (.bool true) ∧ Below w.heap.size w w' :=
  sparse_walk x0 x1 a0 len0 cap0 _ w (Sls.of_row h).1 (Sls.of_row h).2.1 (Sls.of_row h).2.2
end Go.Proofs.Ytkemcmeagnggeaa
