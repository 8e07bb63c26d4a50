import Derived.Test.YtkemcmeagnggeaaT17
import Derived.Test.YtkemcmeagnggeaaT22
import Derived.Test.YtkemcmeagnggeaaT36
/- Layer 3: the reference's lists of states: push and look-up. -/
namespace Go.Proofs.Ytkemcmeagnggeaa
open Go.RowKit
set_option linter.unusedVariables false

theorem Try.infoSt : (Try.prog.info? 70).map (fun i => (i.zero, i.size, i.bytes)) = some (some (.agg #[.int .i64 0, .int .i64 0, .int .i64 0, .int .i64 0]), 4, 32) := by kernel_rfl
def st4C (s : St4) : List Value := [.int .i64 (s.1.1 : Int), .int .i64 (s.1.2 : Int), .int .i64 (s.2.1 : Int), .int .i64 (s.2.2 : Int)]
def stsC (ps : List St4) : List Value := ps.flatMap st4C
theorem stsC_len (ps : List St4) : (stsC ps).length = ps.length * 4 := by
  induction ps with
  | nil => rfl
  | cons p ps ih => simp [stsC, st4C] at *; omega
theorem stsC_at (ps : List St4) : ∀ (j : Nat) (h : j < ps.length), (stsC ps)[j * 4]? = some (.int .i64 (ps[j].1.1 : Int)) ∧ (stsC ps)[j * 4 + 1]? = some (.int .i64 (ps[j].1.2 : Int)) ∧ (stsC ps)[j * 4 + 2]? = some (.int .i64 (ps[j].2.1 : Int)) ∧ (stsC ps)[j * 4 + 3]? = some (.int .i64 (ps[j].2.2 : Int)) := by
  induction ps with
  | nil => intro j h; simp at h
  | cons p ps ih =>
    intro j h
    have e : stsC (p :: ps) = .int .i64 (p.1.1 : Int) :: .int .i64 (p.1.2 : Int) :: .int .i64 (p.2.1 : Int) :: .int .i64 (p.2.2 : Int) :: stsC ps := by simp [stsC, st4C]
    cases j with
    | zero => rw [e]; exact ⟨rfl, rfl, rfl, rfl⟩
    | succ j =>
      rw [e, show (j + 1) * 4 = j * 4 + 1 + 1 + 1 + 1 from by omega]
      simp only [List.getElem?_cons_succ, List.getElem_cons_succ]
      exact ih j (by simpa using h)
/-- The call owns the slice v of rows of four ints. -/
def Owq (w : World) (B e : Nat) (v : Value) (ps : List St4) : Prop := w.ownsRow B e 4 v ps.length (stsC ps)
theorem Owq.nil (w : World) (B e : Nat) : Owq w B e (.slice none 0 0) [] := World.ownsRow_nil _ _ _ _
theorem Owq.lt {w : World} {B e : Nat} {v : Value} {zs : List St4} (h : Owq w B e v zs) {k : Nat} (hk : v.ownBlock = some k) : B ≤ k ∧ k < w.heap.size := World.ownsRow.lt h k hk
theorem Owq.kept {w w' : World} {B e : Nat} {v u : Value} {zs : List St4} (h : Owq w B e v zs) (hg : w.grownBy w' u.ownBlock) (ha : Apart v u) : Owq w' B e v zs := World.ownsRow.kept h hg ha
theorem Owq.below {w w' : World} {B e b : Nat} {v : Value} {zs : List St4} (h : Owq w B e v zs) (hb : Below b w w') (hB : w.heap.size ≤ b) : Owq w' B e v zs :=
  World.ownsRow.kept (row := none) h ⟨hb.os, hb.tape, hb.output, hb.size, fun k hk _ => hb.block k (by omega)⟩ (by
    rcases hv : v.ownBlock with _ | k
    · exact .inl rfl
    · exact .inr (by simp))
theorem Owq.alloc {w : World} {B e : Nat} {v : Value} {zs : List St4} (h : Owq w B e v zs) (o : Obj) : Owq (w.alloc o) B e v zs := World.ownsRow.alloc h o
theorem Owq.form {w : World} {B e n : Nat} {v : Value} {zs : List St4} (h : Owq w B e v zs) (hn : zs.length = n) (h0 : 0 < n) : ∃ g cap, v = .slice (some ⟨g, 0, none⟩) n cap ∧ n ≤ cap ∧ B ≤ g ∧ g < w.heap.size ∧
    ∀ j (hj : j < zs.length), w.cell? ⟨g, j * 4, none⟩ = some (.int .i64 (zs[j].1.1 : Int)) ∧ w.cell? ⟨g, j * 4 + 1, none⟩ = some (.int .i64 (zs[j].1.2 : Int)) ∧ w.cell? ⟨g, j * 4 + 2, none⟩ = some (.int .i64 (zs[j].2.1 : Int)) ∧ w.cell? ⟨g, j * 4 + 3, none⟩ = some (.int .i64 (zs[j].2.2 : Int)) := by
  subst hn
  rcases h.2 with ⟨_, h1⟩ | ⟨g, cap, cur, h1, h2, h3, h4, h5, h6, h7⟩
  · omega
  · refine ⟨g, cap, h1, h4, h2, (Array.getElem?_eq_some_iff.1 h3).1, fun j hj => ?_⟩
    have h8 := stsC_at zs j hj
    have hc : ∀ i u, (stsC zs)[i]? = some u → w.cell? ⟨g, i, none⟩ = some u := fun i u hu => by
      rw [cell_of_row w g _ _ _ _ h3]
      rw [← h7, List.getElem?_take] at hu
      split at hu
      · rw [← Array.getElem?_toList]; exact hu
      · cases hu
    exact ⟨hc _ _ h8.1, hc _ _ h8.2.1, hc _ _ h8.2.2.1, hc _ _ h8.2.2.2⟩
theorem pushq_law {P : Program} (w : World) {ops : Array Oper} {rest : List Oper} {o : Oper} {a : Act} {Q : Exit → Act → World → Prop} (hgd : o.guard = none) (s x : Operand) (t : TypeId)
    (ho : o.op = .call { callee := .builtin .append, args := #[s, x], argTypes := #[t, t] })
    (B : Nat) (e : TypeId) (i : TypeInfo) (ht : P.underlying t = some (.slice e)) (hI : P.info? e = some i ∧ i.zero = some (.agg #[.int .i64 0, .int .i64 0, .int .i64 0, .int .i64 0]) ∧ i.size = 4 ∧ i.bytes = 32)
    (v : Value) (zs : List St4) (p : St4) (hs : a.eval s = v) (hx : a.eval x = .slice (some ⟨w.heap.size, 0, none⟩) 1 1) (hown : Owq w B e v zs) (hn : zs.length ≤ 1099511627776) (hB : B ≤ w.heap.size)
    (h : ∀ v' w', Owq w' B e v' (zs ++ [p]) → w.grownBy w' v.ownBlock → (v'.ownBlock = v.ownBlock ∨ ∃ g, v'.ownBlock = some g ∧ w.heap.size ≤ g) → wpList P ops Q rest (a.put o.dst v') w') :
    wpList P ops Q (o :: rest) a (w.alloc (.cells #[.int .i64 (p.1.1 : Int), .int .i64 (p.1.2 : Int), .int .i64 (p.2.1 : Int), .int .i64 (p.2.2 : Int)] e)) := by
  obtain ⟨h1, h2, h3, h4⟩ := hI
  refine wpList_append_own_at _ hgd s x t ho B e i _ 4 32 ht h1 h2 h3 h4 rfl (by decide) v zs.length (stsC zs) hs (hown.alloc _) ⟨w.heap.size, 0, none⟩ 1 1 (st4C p) hx rfl ?_ ?_ (by unfold maxLen; omega) (by omega) (by simp; omega) ?_
  · intro j u hu
    match j, hu with
    | 0, hu => simp [st4C] at hu; subst hu; simp [Addr.add]
    | 1, hu => simp [st4C] at hu; subst hu; simp [Addr.add]
    | 2, hu => simp [st4C] at hu; subst hu; simp [Addr.add]
    | 3, hu => simp [st4C] at hu; subst hu; simp [Addr.add]
  · intro u hu
    simp [st4C] at hu
    rcases hu with rfl | rfl | rfl | rfl <;> rfl
  · intro v' w' ho' hg' _ hat
    refine h v' w' ?_ (grown_alloc hg') ?_
    · unfold Owq
      rw [List.length_append, show stsC (zs ++ [p]) = stsC zs ++ st4C p from by simp [stsC]]
      exact ho'
    · rcases hat with e1 | e1
      · exact .inl e1
      · exact .inr ⟨_, e1, by simp⟩
end Go.Proofs.Ytkemcmeagnggeaa
/- Layer 3: the reference's Free: states, their numbers, what stands while they are gathered. -/
namespace Go.Proofs.Ytkemcmeagnggeaa
open Go.RowKit
set_option linter.unusedVariables false

/-- One letter more without a way out: what has been met, and whether a member is complete. -/
def advR (ss : List ByteArray) (f : Nat → Nat) (c : Int) : Nat → (Nat → Nat) × Bool
  | 0 => (f, false)
  | i + 1 =>
    let h := (advR ss f c i).1
    let h' := if memB ss i (h i) = c then updN h i (h i + 1) else h
    (h', (advR ss f c i).2 || decide (h' i = memN ss i))
def advN (ss : List ByteArray) (h : Nat → Nat) (c : Int) (i : Nat) : Nat → Nat := if memB ss i (h i) = c then updN h i (h i + 1) else h
theorem advR_succ (ss : List ByteArray) (f : Nat → Nat) (c : Int) (i : Nat) : advR ss f c (i + 1) = (advN ss (advR ss f c i).1 c i, (advR ss f c i).2 || decide (advN ss (advR ss f c i).1 c i i = memN ss i)) := rfl
theorem updN_same (h : Nat → Nat) (i x : Nat) : updN h i x i = x := if_pos rfl
theorem updN_other (h : Nat → Nat) {i j : Nat} (x : Nat) (e : j ≠ i) : updN h i x j = h j := if_neg e
theorem advN_far (ss : List ByteArray) (h : Nat → Nat) (c : Int) {i j : Nat} (e : j ≠ i) : advN ss h c i j = h j := by
  unfold advN; split
  · exact updN_other _ _ e
  · rfl
theorem advR_far (ss : List ByteArray) (f : Nat → Nat) (c : Int) : ∀ i j, i ≤ j → (advR ss f c i).1 j = f j
  | 0, _, _ => rfl
  | i + 1, j, h => by rw [advR_succ]; exact (advN_far _ _ _ (by omega)).trans (advR_far ss f c i j (by omega))
theorem advR_is {ss : List ByteArray} {f : Nat → Nat} {c : Int} (hf : ∀ i, i < ss.length → f i < memN ss i) : ∀ i, i ≤ ss.length → advTo ss f c i = if (advR ss f c i).2 = true then none else some (advR ss f c i).1
  | 0, _ => rfl
  | i + 1, hi => by
    have ih := advR_is (c := c) hf i (by omega)
    have hfar := advR_far ss f c i i (Nat.le_refl _)
    have hlt := hf i (by omega)
    rw [advTo, ih, advR_succ]
    cases hb : (advR ss f c i).2 with
    | true => simp
    | false =>
      rw [if_neg (by simp)]
      dsimp only
      generalize hg : (advR ss f c i).1 = h at hfar
      unfold advN
      by_cases e : memB ss i (h i) = c
      · rw [if_pos e, if_pos e, updN_same]
        by_cases e2 : h i + 1 = memN ss i
        · rw [if_pos e2, decide_eq_true e2]; simp
        · rw [if_neg e2, decide_eq_false e2]; simp
      · rw [if_neg e, if_neg e, decide_eq_false (by omega)]; simp
theorem advR_le {ss : List ByteArray} {f : Nat → Nat} {c : Int} (hf : ∀ i, i < ss.length → f i < memN ss i) (hz : ∀ i, memN ss i ≤ 8) (h8 : ∀ i, f i ≤ 8) : ∀ i, i ≤ ss.length → ∀ j, (advR ss f c i).1 j ≤ 8
  | 0, _, j => h8 j
  | i + 1, hi, j => by
    rw [advR_succ]
    have ih := advR_le (c := c) hf hz h8 i (by omega) j
    have hfar := advR_far ss f c i i (Nat.le_refl _)
    have hlt := hf i (by omega)
    have := hz i
    dsimp only
    unfold advN
    split
    · by_cases e : j = i
      · subst e; rw [updN_same]; omega
      · rw [updN_other _ _ e]; exact ih
    · exact ih
/-- The number of a state. -/
def codeTo (h : Nat → Nat) : Nat → Nat
  | 0 => 0
  | i + 1 => codeTo h i * 9 + h i
theorem codeTo_lt {h : Nat → Nat} (h8 : ∀ i, h i ≤ 8) : ∀ i, codeTo h i < 9 ^ i
  | 0 => Nat.zero_lt_one
  | i + 1 => by
    have := codeTo_lt h8 i
    have := h8 i
    rw [codeTo, Nat.pow_succ]
    omega
theorem codeTo_inj {h k : Nat → Nat} (h8 : ∀ i, h i ≤ 8) (k8 : ∀ i, k i ≤ 8) : ∀ i, codeTo h i = codeTo k i → ∀ j, j < i → h j = k j
  | 0, _, j, hj => absurd hj (Nat.not_lt_zero _)
  | i + 1, e, j, hj => by
    rw [codeTo, codeTo] at e
    have h1 := h8 i
    have k1 := k8 i
    by_cases ej : j = i
    · subst ej; omega
    · exact codeTo_inj h8 k8 i (by omega) j (by omega)
def codeS (s : St4) : Nat := codeTo (getS s) 4
def st8 (s : St4) : Prop := ∀ i, getS s i ≤ 8
theorem codeS_lt {s : St4} (h : st8 s) : codeS s < 6561 := codeTo_lt h 4
theorem codeS_inj {s t : St4} (hs : st8 s) (ht : st8 t) (e : codeS s = codeS t) : s = t := by
  have h := codeTo_inj hs ht 4 e
  obtain ⟨⟨a, b⟩, c, d⟩ := s
  obtain ⟨⟨a', b'⟩, c', d'⟩ := t
  have h0 := h 0 (by omega)
  have h1 := h 1 (by omega)
  have h2 := h 2 (by omega)
  have h3 := h 3 (by omega)
  simp [getS] at h0 h1 h2 h3
  subst h0 h1 h2 h3
  rfl
/-- One more than the place of a state; 0 where it isn't. -/
def posK : List St4 → St4 → Nat
  | [], _ => 0
  | t :: l, s => if t = s then 1 else if posK l s = 0 then 0 else posK l s + 1
theorem posK_zero {K : List St4} {s : St4} : posK K s = 0 ↔ s ∉ K := by
  induction K with
  | nil => simp [posK]
  | cons t l ih =>
    rw [posK, List.mem_cons]
    by_cases e : t = s
    · rw [if_pos e]; simp [e]
    · rw [if_neg e]
      by_cases e2 : posK l s = 0
      · rw [if_pos e2]
        simp [ih.1 e2, Ne.symm e]
      · rw [if_neg e2]
        have : s ∈ l := Classical.byContradiction fun h => e2 (ih.2 h)
        simp [this]
theorem posK_at {K : List St4} {s : St4} (h : 0 < posK K s) : K[posK K s - 1]? = some s := by
  induction K with
  | nil => simp [posK] at h
  | cons t l ih =>
    rw [posK] at h ⊢
    by_cases e : t = s
    · rw [if_pos e]; simp [e]
    · rw [if_neg e] at h ⊢
      by_cases e2 : posK l s = 0
      · rw [if_pos e2] at h; omega
      · rw [if_neg e2]
        have := ih (by omega)
        obtain ⟨m, hm⟩ : ∃ m, posK l s = m + 1 := ⟨posK l s - 1, by omega⟩
        rw [hm] at this ⊢
        simpa using this
theorem posK_lt {K : List St4} {s : St4} (h : 0 < posK K s) : posK K s ≤ K.length := by
  have := (List.getElem?_eq_some_iff.1 (posK_at h)).1
  omega
theorem posK_snoc {K : List St4} {t : St4} (h : t ∉ K) (s : St4) : posK (K ++ [t]) s = if s = t then K.length + 1 else posK K s := by
  induction K with
  | nil =>
    by_cases e : s = t
    · simp [posK, e]
    · simp [posK, e, Ne.symm e]
  | cons u l ih =>
    have hu : t ≠ u := fun e => h (by rw [e]; simp)
    have ih := ih (fun hm => h (List.mem_cons_of_mem _ hm))
    rw [List.cons_append, posK, ih, posK]
    by_cases e : u = s
    · rw [if_pos e, if_pos e, if_neg (fun e2 => hu (by rw [← e2, e]))]
    · rw [if_neg e, if_neg e]
      by_cases e2 : s = t
      · rw [if_pos e2, if_pos e2, if_neg (by omega)]; simp
      · rw [if_neg e2, if_neg e2]
def keysL (N : List (St4 × Nat)) : List St4 := N.map (·.1)
def cntsL (N : List (St4 × Nat)) : List Int := N.map fun p => (p.2 : Int)
theorem keysL_len (N : List (St4 × Nat)) : (keysL N).length = N.length := List.length_map ..
theorem cntsL_len (N : List (St4 × Nat)) : (cntsL N).length = N.length := List.length_map ..
theorem cntsL_at {N : List (St4 × Nat)} {i : Nat} (h : i < N.length) : (cntsL N)[i]?.getD 0 = (N[i].2 : Int) := by
  unfold cntsL; rw [List.getElem?_map, List.getElem?_eq_getElem h]; rfl
/-- The table of places. -/
def IxT (T : List Int) (K : List St4) : Prop := T.length = 6561 ∧ ∀ s, st8 s → T[codeS s]?.getD 0 = (posK K s : Int)
theorem IxT.zero : IxT (List.replicate 6561 0) [] := by
  refine ⟨List.length_replicate .., fun s hs => ?_⟩
  rw [List.getElem?_replicate, if_pos (codeS_lt hs)]
  rfl
theorem IxT.put {T : List Int} {K : List St4} (h : IxT T K) {t : St4} (ht : st8 t) (hn : t ∉ K) : IxT (T.set (codeS t) ((K.length : Int) + 1)) (K ++ [t]) := by
  refine ⟨by rw [List.length_set]; exact h.1, fun s hs => ?_⟩
  rw [posK_snoc hn]
  by_cases e : s = t
  · subst e
    rw [List.getElem?_set_self (by rw [h.1]; exact codeS_lt hs), if_pos rfl]
    simp
  · rw [List.getElem?_set_ne (fun e2 => e (codeS_inj hs ht e2.symm)), if_neg e]
    exact h.2 s hs
theorem addL_new {N : List (St4 × Nat)} {s : St4} {x : Nat} (h : s ∉ keysL N) : addL N s x = N ++ [(s, x)] := by unfold addL; unfold keysL at h; rw [if_neg h]
theorem addL_old {N : List (St4 × Nat)} {s : St4} {x i : Nat} (hn : (keysL N).Nodup) (hi : (keysL N)[i]? = some s) (hl : i < N.length) : keysL (addL N s x) = keysL N ∧ cntsL (addL N s x) = (cntsL N).set i ((N[i].2 + x : Nat) : Int) := by
  have hm : s ∈ keysL N := List.mem_of_getElem? hi
  have hk : keysL (addL N s x) = keysL N := by unfold keysL at hm ⊢; rw [addL_keys, if_pos hm]
  refine ⟨hk, ?_⟩
  have hm' : s ∈ N.map (·.1) := hm
  unfold addL
  rw [if_pos hm']
  unfold cntsL
  refine List.ext_getElem? fun j => ?_
  rw [List.map_map, List.getElem?_map]
  by_cases hj : j < N.length
  · rw [List.getElem?_eq_getElem hj, Option.map_some]
    have hkj : (keysL N)[j]? = some N[j].1 := by unfold keysL; rw [List.getElem?_map, List.getElem?_eq_getElem hj]; rfl
    by_cases e : j = i
    · subst e
      rw [List.getElem?_set_self (by rw [List.length_map]; exact hj)]
      have : N[j].1 = s := by rw [hkj] at hi; exact Option.some.inj hi
      simp [this]
    · rw [List.getElem?_set_ne (fun e2 => e e2.symm), List.getElem?_map, List.getElem?_eq_getElem hj]
      have : N[j].1 ≠ s := fun e2 => e (nodup_at hn (by rw [hkj, e2]) hi)
      simp [this]
  · rw [List.getElem?_eq_none (by omega), List.getElem?_eq_none (by rw [List.length_set, List.length_map]; omega)]
    rfl
theorem addL_old_at {N : List (St4 × Nat)} {s : St4} {x i : Nat} (hn : (keysL N).Nodup) (hi : (keysL N)[i]? = some s) (hl : i < N.length) : ∃ h : i < (addL N s x).length, (addL N s x)[i].2 = N[i].2 + x := by
  obtain ⟨_, hc⟩ := addL_old (x := x) hn hi hl
  have hlen : (addL N s x).length = N.length := by rw [← cntsL_len, hc, List.length_set, cntsL_len]
  have hl2 : i < (addL N s x).length := by omega
  refine ⟨hl2, ?_⟩
  have h1 := cntsL_at hl2
  have h2 : (cntsL (addL N s x))[i]?.getD 0 = ((N[i].2 + x : Nat) : Int) := by rw [hc, List.getElem?_set_self (by rw [cntsL_len]; exact hl)]; rfl
  omega
/-- What has been gathered: q states whole, of one more the first c letters. -/
structure GaN (ss : List ByteArray) (k : Nat) (L : List (St4 × Nat)) (q c : Nat) (N : List (St4 × Nat)) : Prop where
  nd : (keysL N).Nodup
  ok : ∀ p ∈ N, okS ss p.1
  sum : ∀ g, sumL g N = sumL (outS ss k g) (L.take q) + (if h : q < L.length then L[q].2 * outTo ss g L[q].1 c else 0)
theorem GaN.zero (ss : List ByteArray) (k : Nat) (L : List (St4 × Nat)) : GaN ss k L 0 0 [] :=
  ⟨List.nodup_nil, fun p hp => (by cases hp), fun g => by split <;> simp [sumL, outTo]⟩
theorem GaN.next {ss : List ByteArray} {k : Nat} {L N : List (St4 × Nat)} {q : Nat} (h : GaN ss k L q k N) (hq : q < L.length) : GaN ss k L (q + 1) 0 N := by
  refine ⟨h.nd, h.ok, fun g => ?_⟩
  rw [h.sum, dif_pos hq, List.take_add_one, List.getElem?_eq_getElem hq, sumL_append]
  have e1 : sumL (outS ss k g) [L[q]] = L[q].2 * outTo ss g L[q].1 k := by simp [sumL, outS]
  rw [show (some L[q]).toList = [L[q]] from rfl, e1]
  split <;> simp [outTo]
theorem GaN.skip {ss : List ByteArray} {k : Nat} {L N : List (St4 × Nat)} {q c : Nat} (h : GaN ss k L q c N) (hq : q < L.length) (hs : stepS ss L[q].1 c = none) : GaN ss k L q (c + 1) N := by
  refine ⟨h.nd, h.ok, fun g => ?_⟩
  rw [h.sum, dif_pos hq, dif_pos hq, outTo, hs]
  simp
theorem GaN.add {ss : List ByteArray} {k : Nat} {L N : List (St4 × Nat)} {q c : Nat} {z : St4} (h : GaN ss k L q c N) (hq : q < L.length) (hs : stepS ss L[q].1 c = some z) (hz : okS ss z) : GaN ss k L q (c + 1) (addL N z L[q].2) := by
  refine ⟨addL_nodup h.nd _ _, fun p hp => ?_, fun g => ?_⟩
  · rcases addL_mem hp with e | ⟨q', hq', e⟩
    · rw [e]; exact hz
    · rw [← e]; exact h.ok _ hq'
  · rw [sumL_add g h.nd, h.sum, dif_pos hq, dif_pos hq, outTo, hs, Nat.mul_add, Nat.add_assoc]
theorem sumL_take (g : St4 → Nat) (L : List (St4 × Nat)) (q : Nat) : sumL g (L.take q) ≤ sumL g L := by
  have := sumL_append g (L.take q) (L.drop q)
  rw [List.take_append_drop] at this
  omega
theorem sumL_take' (g : St4 → Nat) (L : List (St4 × Nat)) {q : Nat} (hq : q < L.length) : sumL g (L.take q) + L[q].2 * g L[q].1 ≤ sumL g L := by
  have := sumL_take g L (q + 1)
  rw [List.take_add_one, List.getElem?_eq_getElem hq, sumL_append] at this
  have e1 : sumL g [L[q]] = L[q].2 * g L[q].1 := by simp [sumL]
  rw [show (some L[q]).toList = [L[q]] from rfl, e1] at this
  exact this
/-- The counts never grow past k times the old ones. -/
theorem GaN.le {ss : List ByteArray} {k : Nat} {L N : List (St4 × Nat)} {q c : Nat} (h : GaN ss k L q c N) (hc : c ≤ k) : sumL (fun _ => 1) N ≤ sumL (fun _ => 1) L * k := by
  rw [h.sum]
  refine Nat.le_trans ?_ (sum_out ss k L)
  split
  · rename_i hq
    refine Nat.le_trans (Nat.add_le_add_left (Nat.mul_le_mul_left _ (outTo_mono ss _ _ hc)) _) ?_
    exact sumL_take' (outS ss k fun _ => 1) L hq
  · exact sumL_take _ _ _
theorem len_le {L : List (St4 × Nat)} (hn : (keysL L).Nodup) {ss : List ByteArray} (h : ∀ p ∈ L, okS ss p.1) : L.length ≤ 6561 := okS_len hn h
theorem cnt_at_le {L : List (St4 × Nat)} {i : Nat} (hi : i < L.length) : L[i].2 ≤ sumL (fun _ => 1) L := by
  have := sumL_take' (fun _ => 1) L hi
  omega
end Go.Proofs.Ytkemcmeagnggeaa
/- Layer 3: the reference's Free: what stands in memory while the states are gathered. -/
namespace Go.Proofs.Ytkemcmeagnggeaa
open Go.RowKit
set_option linter.unusedVariables false

theorem Owq.tn {w w' : World} {T : Nat → Prop} {B e : Nat} {v : Value} {zs : List St4} (h : Owq w B e v zs) (k : Tn w w' T) (hn : ∀ b, v.ownBlock = some b → ¬ T b) : Owq w' B e v zs := rows_tn h k hn
theorem apart_new {v v' u : Value} {w : World} (h : Apart v u) (hu : ∀ k, u.ownBlock = some k → k < w.heap.size) (hat : v'.ownBlock = v.ownBlock ∨ ∃ g, v'.ownBlock = some g ∧ w.heap.size ≤ g) : Apart v' u := by
  rcases hat with e | ⟨g, e, hg⟩
  · rcases h with h | h
    · exact .inl (e.trans h)
    · exact .inr (by rw [e]; exact h)
  · refine .inr fun e2 => ?_
    have := hu g (by rw [← e2, e])
    omega
theorem apart_far {v u : Value} {B : Nat} (hv : ∀ k, v.ownBlock = some k → B ≤ k) (hu : ∀ k, u.ownBlock = some k → k < B) : Apart v u := by
  cases e : v.ownBlock with
  | none => exact .inl e
  | some k =>
    refine .inr fun e2 => ?_
    have h1 := hv k e
    have h2 := hu k (by rw [← e2, e])
    omega
theorem Owq.sl {w : World} {B e n : Nat} {v : Value} {zs : List St4} (h : Owq w B e v zs) (hn : zs.length = n) : ∃ A c, v = .slice A n c ∧ ∀ j (hj : j < zs.length), ∃ g, A = some ⟨g, 0, none⟩ ∧ g < w.heap.size ∧
    w.cell? ⟨g, j * 4, none⟩ = some (.int .i64 (zs[j].1.1 : Int)) ∧ w.cell? ⟨g, j * 4 + 1, none⟩ = some (.int .i64 (zs[j].1.2 : Int)) ∧ w.cell? ⟨g, j * 4 + 2, none⟩ = some (.int .i64 (zs[j].2.1 : Int)) ∧ w.cell? ⟨g, j * 4 + 3, none⟩ = some (.int .i64 (zs[j].2.2 : Int)) := by
  by_cases h0 : 0 < n
  · obtain ⟨g, cap, rfl, _, _, hg, hc⟩ := h.form hn h0
    exact ⟨_, cap, rfl, fun j hj => ⟨g, rfl, hg, hc j hj⟩⟩
  · rcases h.2 with ⟨h1, h2⟩ | ⟨g, cap, cur, h1, h2, h3, h4, h5, h6, h7⟩
    · have h1 : v = .slice none 0 0 := by simpa using h1
      exact ⟨none, 0, by rw [h1, show n = 0 by omega], fun j hj => by omega⟩
    · exact ⟨_, cap, by rw [h1, hn], fun j hj => by omega⟩
structure FqI (w0 wr : World) (g16 : Nat) (K : List St4) (C : List Int) (J : List St4) (v14 v15 : Value) : Prop where
  st : Owq wr w0.heap.size 70 v14 K
  ct : Ow wr w0.heap.size 3 v15 C
  ix : ∃ T, IxT T J ∧ Ow wr w0.heap.size 3 (.slice (some ⟨g16, 0, none⟩) 6561 6561) T
  ap : Apart v14 v15
  a1 : v14.ownBlock ≠ some g16
  a2 : v15.ownBlock ≠ some g16
  bl : Below w0.heap.size w0 wr
variable {w0 wr w' : World} {g16 : Nat} {K J : List St4} {C : List Int} {v14 v15 : Value}
theorem FqI.lt16 (h : FqI w0 wr g16 K C J v14 v15) : w0.heap.size ≤ g16 ∧ g16 < wr.heap.size := by
  obtain ⟨T, _, hT⟩ := h.ix
  exact hT.lt rfl
theorem FqI.mono (h : FqI w0 wr g16 K C J v14 v15) (hb : Below wr.heap.size wr w') : FqI w0 w' g16 K C J v14 v15 := by
  obtain ⟨T, h1, h2⟩ := h.ix
  exact ⟨h.st.below hb (Nat.le_refl _), h.ct.below hb (Nat.le_refl _), ⟨T, h1, h2.below hb (Nat.le_refl _)⟩, h.ap, h.a1, h.a2, h.bl.trans (hb.mono h.bl.size)⟩
theorem FqI.more (h : FqI w0 wr g16 K C J v14 v15) (n : Nat) : FqI w0 (wr.drewN n) g16 K C J v14 v15 := h.mono (below_dn (Below.refl _ _) n)
theorem FqI.pushK (h : FqI w0 wr g16 K C J v14 v15) {s : St4} {v' : Value} (ho : Owq w' w0.heap.size 70 v' (K ++ [s])) (hg : wr.grownBy w' v14.ownBlock) (hat : v'.ownBlock = v14.ownBlock ∨ ∃ g, v'.ownBlock = some g ∧ wr.heap.size ≤ g) : FqI w0 w' g16 (K ++ [s]) C J v' v15 := by
  obtain ⟨T, h1, h2⟩ := h.ix
  refine ⟨ho, h.ct.kept hg h.ap.symm, ⟨T, h1, h2.kept hg (.inr fun e => h.a1 e.symm)⟩, apart_new h.ap (fun k e => (h.ct.lt e).2) hat, ?_, h.a2, h.bl.grown hg h.bl.size (fun b hb => (h.st.lt hb).1)⟩
  rcases hat with e | ⟨g, e, hg'⟩
  · rw [e]; exact h.a1
  · rw [e]; have := h.lt16; intro e2; injection e2 with e2; omega
theorem FqI.pushC (h : FqI w0 wr g16 K C J v14 v15) {x : Int} {v' : Value} (ho : Ow w' w0.heap.size 3 v' (C ++ [x])) (hg : wr.grownBy w' v15.ownBlock) (hat : v'.ownBlock = v15.ownBlock ∨ ∃ g, v'.ownBlock = some g ∧ wr.heap.size ≤ g) : FqI w0 w' g16 K (C ++ [x]) J v14 v' := by
  obtain ⟨T, h1, h2⟩ := h.ix
  refine ⟨h.st.kept hg h.ap, ho, ⟨T, h1, h2.kept hg (.inr fun e => h.a2 e.symm)⟩, (apart_new h.ap.symm (fun k e => (h.st.lt e).2) hat).symm, h.a1, ?_, h.bl.grown hg h.bl.size (fun b hb => (h.ct.lt hb).1)⟩
  rcases hat with e | ⟨g, e, hg'⟩
  · rw [e]; exact h.a2
  · rw [e]; have := h.lt16; intro e2; injection e2 with e2; omega
/-- The table's cell of a state. -/
theorem FqI.cell (h : FqI w0 wr g16 K C J v14 v15) {t : St4} (ht : st8 t) : wr.cell? ⟨g16, codeS t, none⟩ = some (.int .i64 (posK J t : Int)) ∧ wr.frozen? ⟨g16, codeS t, none⟩ = false := by
  obtain ⟨T, h1, h2⟩ := h.ix
  refine ⟨?_, h2.free h1.1 _⟩
  rw [h2.cellAt h1.1 (codeS_lt ht), h1.2 t ht]
theorem FqI.putIx (h : FqI w0 wr g16 K C J v14 v15) {t : St4} (ht : st8 t) (hn : t ∉ J) {x : Int} (hx : x = (J.length : Int) + 1) : FqI w0 (wr.setCell ⟨g16, codeS t, none⟩ (.int .i64 x)) g16 K C (J ++ [t]) v14 v15 := by
  subst hx
  obtain ⟨T, h1, h2⟩ := h.ix
  have htn : Tn wr (wr.setCell ⟨g16, codeS t, none⟩ (.int .i64 ((J.length : Int) + 1))) (fun b => b = g16) := Tn.set (p := ⟨g16, codeS t, none⟩) (T := fun b => b = g16) (Tn.refl wr _) (fun _ => rfl) _
  exact ⟨h.st.tn htn (fun b hb e => h.a1 (by rw [hb, e])), h.ct.tn htn (fun b hb e => h.a2 (by rw [hb, e])), ⟨_, h1.put ht hn, h2.put h1.1 _ _⟩, h.ap, h.a1, h.a2, h.bl.setCell (p := ⟨g16, codeS t, none⟩) (by have := h.lt16; show _ ≤ g16; omega) _⟩
theorem FqI.putC {g n cap : Nat} (h : FqI w0 wr g16 K C J v14 (.slice (some ⟨g, 0, none⟩) n cap)) (hn : C.length = n) (i : Nat) (x : Int) : FqI w0 (wr.setCell ⟨g, i, none⟩ (.int .i64 x)) g16 K (C.set i x) J v14 (.slice (some ⟨g, 0, none⟩) n cap) := by
  obtain ⟨T, h1, h2⟩ := h.ix
  have htn : Tn wr (wr.setCell ⟨g, i, none⟩ (.int .i64 x)) (fun b => b = g) := Tn.set (p := ⟨g, i, none⟩) (T := fun b => b = g) (Tn.refl wr _) (fun _ => rfl) _
  refine ⟨h.st.tn htn (fun b hb e => ?_), h.ct.put hn i x, ⟨T, h1, h2.tn htn (fun b hb e => h.a2 ?_)⟩, h.ap, h.a1, h.a2, h.bl.setCell (p := ⟨g, i, none⟩) (h.ct.lt rfl).1 _⟩
  · rcases h.ap with h3 | h3
    · rw [hb] at h3; cases h3
    · exact h3 (by rw [hb, e]; rfl)
  · have e1 : some g16 = some b := hb
    injection e1 with e1
    rw [e1, e]; rfl
theorem FqI.cellC {g n cap i : Nat} (h : FqI w0 wr g16 K C J v14 (.slice (some ⟨g, 0, none⟩) n cap)) (hn : C.length = n) (hi : i < n) : wr.cell? ⟨g, i, none⟩ = some (.int .i64 (C[i]?.getD 0)) ∧ wr.frozen? ⟨g, i, none⟩ = false :=
  ⟨h.ct.cellAt hn hi, h.ct.free hn i⟩
/-- The numbers of the first j lengths. -/
def freeM (ss : List ByteArray) (k j : Nat) : List Int := (List.range j).map fun i => (freeT ss k i : Int)
theorem freeM_succ (ss : List ByteArray) (k j : Nat) : freeM ss k (j + 1) = freeM ss k j ++ [(freeT ss k j : Int)] := by unfold freeM; rw [List.range_succ, List.map_append]; rfl
theorem freeM_is (ss : List ByteArray) (k n : Nat) : freeM ss k (n + 1) = freeL ss k n := rfl
theorem freeM_len (ss : List ByteArray) (k j : Nat) : (freeM ss k j).length = j := by unfold freeM; simp
/-- Before the length j is counted. -/
structure FrR (ss : List ByteArray) (k : Nat) (w wr : World) (L : List (St4 × Nat)) (v7 v8 v9 : Value) (j : Nat) : Prop where
  nd : (keysL L).Nodup
  ok : ∀ p ∈ L, okS ss p.1
  sum : ∀ g, sumL g L = sumL (freeU ss k j g) (start4 ss)
  num : sumL (fun _ => 1) L ≤ 4 ^ j
  st : Owq wr w.heap.size 70 v7 (keysL L)
  ct : Ow wr w.heap.size 3 v8 (cntsL L)
  out : Ow wr w.heap.size 3 v9 (freeM ss k j)
  a7 : Apart v7 v9
  a8 : Apart v8 v9
  bl : Below w.heap.size w wr
/-- While the states after one letter more than j are gathered. -/
structure FrG (ss : List ByteArray) (k : Nat) (w w0 : World) (L : List (St4 × Nat)) (v7 v8 v9 : Value) (j : Nat) : Prop where
  nd : (keysL L).Nodup
  ok : ∀ p ∈ L, okS ss p.1
  sum : ∀ g, sumL g L = sumL (freeU ss k j g) (start4 ss)
  num : sumL (fun _ => 1) L ≤ 4 ^ j
  st : Owq w0 w.heap.size 70 v7 (keysL L)
  ct : Ow w0 w.heap.size 3 v8 (cntsL L)
  out : Ow w0 w.heap.size 3 v9 (freeM ss k (j + 1))
  bl : Below w.heap.size w w0
theorem FrR.gather {ss : List ByteArray} {k : Nat} {w wr w0 : World} {L : List (St4 × Nat)} {v7 v8 v9 v' : Value} {j : Nat} (h : FrR ss k w wr L v7 v8 v9 j) (ho : Ow w0 w.heap.size 3 v' (freeM ss k (j + 1))) (hg : wr.grownBy w0 v9.ownBlock) : FrG ss k w w0 L v7 v8 v' j :=
  ⟨h.nd, h.ok, h.sum, h.num, h.st.kept hg h.a7, h.ct.kept hg h.a8, ho, h.bl.grown hg h.bl.size (fun b hb => (h.out.lt hb).1)⟩
theorem FrG.states {ss : List ByteArray} {k : Nat} {w w0 : World} {L : List (St4 × Nat)} {A : Option Addr} {n c : Nat} {v8 v9 : Value} {j : Nat} (h : FrG ss k w w0 L (.slice A n c) v8 v9 j) (hl : L.length = n) : ∀ y (hy : y < L.length), ∃ g, A = some ⟨g, 0, none⟩ ∧ g < w0.heap.size ∧
    w0.cell? ⟨g, y * 4, none⟩ = some (.int .i64 (L[y].1.1.1 : Int)) ∧ w0.cell? ⟨g, y * 4 + 1, none⟩ = some (.int .i64 (L[y].1.1.2 : Int)) ∧ w0.cell? ⟨g, y * 4 + 2, none⟩ = some (.int .i64 (L[y].1.2.1 : Int)) ∧ w0.cell? ⟨g, y * 4 + 3, none⟩ = some (.int .i64 (L[y].1.2.2 : Int)) := fun y hy => by
  obtain ⟨A', c', e, h1⟩ := h.st.sl (n := n) (by rw [keysL_len, hl])
  obtain ⟨g, e2, hg, h2⟩ := h1 y (by rw [keysL_len]; exact hy)
  injection e with e3 _ _
  have e4 : (keysL L)[y]'(by rw [keysL_len]; exact hy) = L[y].1 := by unfold keysL; rw [List.getElem_map]
  rw [e4] at h2
  exact ⟨g, by rw [e3]; exact e2, hg, h2⟩
theorem FrG.counts {ss : List ByteArray} {k : Nat} {w w0 : World} {L : List (St4 × Nat)} {A : Option Addr} {n c : Nat} {v7 v9 : Value} {j : Nat} (h : FrG ss k w w0 L v7 (.slice A n c) v9 j) : ∀ y (hy : y < L.length), ∃ g, A = some ⟨g, 0, none⟩ ∧ g < w0.heap.size ∧ w0.cell? ⟨g, y, none⟩ = some (.int .i64 (L[y].2 : Int)) := fun y hy => by
  obtain ⟨g, cap, e, _, _, hg, hc⟩ := h.ct.form (by rw [cntsL_len]; omega)
  have h1 := hc y (by rw [cntsL_len]; exact hy)
  rw [cntsL_at hy] at h1
  injection e with e1 _ _
  exact ⟨g, e1, hg, h1⟩
theorem mkS_eight {h : Nat → Nat} (h8 : ∀ i, h i ≤ 8) : st8 (mkS h) := fun i => by rw [getS_mk]; exact h8 _
theorem codeS_mk (h : Nat → Nat) : codeS (mkS h) = codeTo h 4 := rfl
theorem pow31 {j : Nat} (h : j ≤ 31) : 4 ^ j ≤ 4611686018427387904 := Nat.le_trans (Nat.pow_le_pow_right (by omega) h) (by decide)
theorem GaN.cnt {ss : List ByteArray} {k : Nat} {L N : List (St4 × Nat)} {q c j : Nat} (h : GaN ss k L q c N) (hc : c ≤ k) (hk : k ≤ 4) (hL : sumL (fun _ => 1) L ≤ 4 ^ j) (hj : j ≤ 30) {i : Nat} (hi : i < N.length) : N[i].2 ≤ 4611686018427387904 := by
  refine Nat.le_trans (cnt_at_le hi) (Nat.le_trans (h.le hc) (Nat.le_trans (Nat.mul_le_mul hL hk) ?_))
  rw [← Nat.pow_succ]
  exact pow31 (by omega)
theorem FrG.done {ss : List ByteArray} {k : Nat} {w w0 wr : World} {L N : List (St4 × Nat)} {v7 v8 v9 v14 v15 : Value} {j g16 : Nat} (h : FrG ss k w w0 L v7 v8 v9 j) (hk : k ≤ 4) (hn : GaN ss k L L.length 0 N) (hq : FqI w0 wr g16 (keysL N) (cntsL N) (keysL N) v14 v15) : FrR ss k w wr N v14 v15 v9 (j + 1) := by
  have hb := h.bl.size
  refine ⟨hn.nd, hn.ok, fun g => ?_, ?_, ?_, hq.ct.base hb, h.out.below hq.bl (Nat.le_refl _), apart_far (fun k e => (hq.st.lt e).1) (fun k e => (h.out.lt e).2), apart_far (fun k e => (hq.ct.lt e).1) (fun k e => (h.out.lt e).2), h.bl.trans (hq.bl.mono hb)⟩
  · rw [hn.sum, List.take_length, h.sum, dif_neg (Nat.lt_irrefl _)]; rfl
  · refine Nat.le_trans (hn.le (Nat.zero_le _)) ?_
    rw [Nat.pow_succ]
    exact Nat.mul_le_mul h.num hk
  · obtain ⟨hh, hx⟩ := hq.st
    refine ⟨hh, hx.imp id fun ⟨g, cap, cur, a1, a2, a3⟩ => ⟨g, cap, cur, a1, Nat.le_trans hb a2, a3⟩⟩
end Go.Proofs.Ytkemcmeagnggeaa
