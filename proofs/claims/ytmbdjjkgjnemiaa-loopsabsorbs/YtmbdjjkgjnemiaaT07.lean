import Derived.Test.YtmbdjjkgjnemiaaT05
import Derived.Test.YtmbdjjkgjnemiaaT03
/- Layer 6, mathematics: what is reached, in the order in which it is reached first. -/
namespace Go.Proofs.Ytmbdjjkgjnemiaa
open Go.RowKit
set_option linter.unusedVariables false

section
variable {K : Type} [DecidableEq K]
def addK (L : List K) (x : K) : List K := if x ∈ L then L else L ++ [x]
theorem addK_in {L : List K} {x : K} (h : x ∈ L) : addK L x = L := if_pos h
theorem addK_new {L : List K} {x : K} (h : x ∉ L) : addK L x = L ++ [x] := if_neg h
theorem addK_mem (L : List K) (x : K) : x ∈ addK L x := by
  unfold addK
  split
  · assumption
  · simp
theorem addK_pre (L : List K) (x : K) : ∃ X, addK L x = L ++ X := by
  unfold addK
  split
  · exact ⟨[], by simp⟩
  · exact ⟨[x], rfl⟩
theorem addK_sub {L : List K} {x y : K} (h : y ∈ addK L x) : y ∈ L ∨ y = x := by
  unfold addK at h
  split at h
  · exact .inl h
  · simpa using h
theorem addK_nodup {L : List K} (h : L.Nodup) (x : K) : (addK L x).Nodup := by
  unfold addK
  split
  · exact h
  · rename_i hx
    exact List.nodup_append.2 ⟨h, by simp, fun a ha b hb e => hx (by rw [← List.mem_singleton.1 hb, ← e]; exact ha)⟩
def addAll (L : List K) (xs : List K) : List K := xs.foldl addK L
theorem addAll_pre : ∀ (xs L : List K), ∃ X, addAll L xs = L ++ X
  | [], L => ⟨[], by simp [addAll]⟩
  | x :: xs, L => by
    obtain ⟨X, hX⟩ := addK_pre L x
    obtain ⟨Y, hY⟩ := addAll_pre xs (addK L x)
    exact ⟨X ++ Y, by show addAll (addK L x) xs = _; rw [hY, hX, List.append_assoc]⟩
theorem addAll_nodup : ∀ (xs : List K) {L : List K}, L.Nodup → (addAll L xs).Nodup
  | [], _, h => h
  | x :: xs, _, h => addAll_nodup xs (addK_nodup h x)
theorem addAll_mem : ∀ (xs : List K) {L : List K} {y : K}, y ∈ addAll L xs ↔ y ∈ L ∨ y ∈ xs
  | [], L, y => by simp [addAll]
  | x :: xs, L, y => by
    show y ∈ addAll (addK L x) xs ↔ _
    rw [addAll_mem xs]
    constructor
    · rintro (h | h)
      · rcases addK_sub h with h | h
        · exact .inl h
        · exact .inr (by rw [h]; exact List.mem_cons_self)
      · exact .inr (List.mem_cons_of_mem _ h)
    · rintro (h | h)
      · obtain ⟨X, hX⟩ := addK_pre L x
        exact .inl (by rw [hX]; exact List.mem_append_left _ h)
      · rcases List.mem_cons.1 h with h | h
        · exact .inl (by rw [h]; exact addK_mem L x)
        · exact .inr h
theorem idx_append {L X : List K} {x : K} (h : x ∈ L) : (L ++ X).idxOf x = L.idxOf x := by
  rw [List.idxOf_append, if_pos h]
theorem idx_new {L : List K} {x : K} (h : x ∉ L) : (L ++ [x]).idxOf x = L.length := by
  rw [List.idxOf_append, if_neg h]; simp
variable (sc : K → List K) (k0 : K)
/-- What is reached after m visits. -/
def rch : Nat → List K
  | 0 => [k0]
  | m + 1 => match (rch m)[m]? with
    | some q => addAll (rch m) (sc q)
    | none => rch m
theorem rch_at {m : Nat} {q : K} (h : (rch sc k0 m)[m]? = some q) : rch sc k0 (m + 1) = addAll (rch sc k0 m) (sc q) := by
  show (match (rch sc k0 m)[m]? with | some q => _ | none => _) = _
  rw [h]
theorem rch_end {m : Nat} (h : (rch sc k0 m).length ≤ m) : ∀ j, rch sc k0 (m + j) = rch sc k0 m
  | 0 => rfl
  | j + 1 => by
    have ih := rch_end h j
    show (match (rch sc k0 (m + j))[m + j]? with | some q => _ | none => rch sc k0 (m + j)) = _
    rw [ih, List.getElem?_eq_none (by omega)]
theorem rch_pre (m : Nat) : ∃ X, rch sc k0 (m + 1) = rch sc k0 m ++ X := by
  rcases h : (rch sc k0 m)[m]? with _ | q
  · refine ⟨[], ?_⟩
    show (match (rch sc k0 m)[m]? with | some q => _ | none => rch sc k0 m) = _
    rw [h]; simp
  · rw [rch_at sc k0 h]; exact addAll_pre _ _
theorem rch_nodup : ∀ m, (rch sc k0 m).Nodup
  | 0 => by simp [rch]
  | m + 1 => by
    rcases h : (rch sc k0 m)[m]? with _ | q
    · show (match (rch sc k0 m)[m]? with | some q => _ | none => rch sc k0 m).Nodup
      rw [h]; exact rch_nodup m
    · rw [rch_at sc k0 h]; exact addAll_nodup _ (rch_nodup m)
theorem rch_start : ∀ m, k0 ∈ rch sc k0 m
  | 0 => by simp [rch]
  | m + 1 => by
    obtain ⟨X, hX⟩ := rch_pre sc k0 m
    rw [hX]; exact List.mem_append_left _ (rch_start m)
theorem rch_all {P : K → Prop} (h0 : P k0) (hs : ∀ q, P q → ∀ x ∈ sc q, P x) : ∀ m, ∀ x ∈ rch sc k0 m, P x
  | 0, x, hx => by rw [List.mem_singleton.1 hx]; exact h0
  | m + 1, x, hx => by
    rcases h : (rch sc k0 m)[m]? with _ | q
    · have e : rch sc k0 (m + 1) = rch sc k0 m := by
        show (match (rch sc k0 m)[m]? with | some q => _ | none => rch sc k0 m) = _
        rw [h]
      rw [e] at hx; exact rch_all h0 hs m x hx
    · rw [rch_at sc k0 h, addAll_mem] at hx
      rcases hx with hx | hx
      · exact rch_all h0 hs m x hx
      · exact hs q (rch_all h0 hs m q (List.mem_of_getElem? h)) x hx
/-- The parts of the first keys have been reached. -/
theorem rch_parts {m i : Nat} {q : K} (hi : i < m) (hq : (rch sc k0 m)[i]? = some q) : ∀ x ∈ sc q, x ∈ rch sc k0 m := by
  induction m with
  | zero => omega
  | succ m ih =>
    obtain ⟨X, hX⟩ := rch_pre sc k0 m
    intro x hx
    by_cases hl : i < (rch sc k0 m).length
    · have hq' : (rch sc k0 m)[i]? = some q := by rw [← hq, hX, List.getElem?_append_left hl]
      by_cases e : i = m
      · subst e
        rw [rch_at sc k0 hq', addAll_mem]
        exact .inr hx
      · rw [hX]
        exact List.mem_append_left _ (ih (by omega) hq' x hx)
    · have : rch sc k0 (m + 1) = rch sc k0 m := rch_end sc k0 (by omega) 1
      rw [this, List.getElem?_eq_none (by omega)] at hq
      cases hq
theorem rch_uniq {m m' : Nat} (h : (rch sc k0 m).length = m) (h' : (rch sc k0 m').length = m') : m = m' := by
  rcases Nat.le_total m m' with hl | hl
  · obtain ⟨j, rfl⟩ := Nat.exists_eq_add_of_le hl
    rw [rch_end sc k0 (by omega)] at h'
    omega
  · obtain ⟨j, rfl⟩ := Nat.exists_eq_add_of_le hl
    rw [rch_end sc k0 (by omega)] at h
    omega
/-- The nodes of the keys that were reached. -/
def outL (mk : K → List Nat → Nd) (L : List K) (m : Nat) : List Nd := (L.take m).map fun q => mk q ((sc q).map L.idxOf)
theorem outL_append (mk : K → List Nat → Nd) {L X : List K} {m : Nat} (hm : m ≤ L.length) (hp : ∀ i q, i < m → L[i]? = some q → ∀ x ∈ sc q, x ∈ L) : outL sc mk (L ++ X) m = outL sc mk L m := by
  unfold outL
  rw [List.take_append_of_le_length hm]
  refine List.map_congr_left fun q hq => ?_
  obtain ⟨i, hi, e⟩ := List.mem_take_iff_getElem.1 hq
  have : (sc q).map (L ++ X).idxOf = (sc q).map L.idxOf := List.map_congr_left fun x hx => idx_append (hp i q (by omega) (by rw [List.getElem?_eq_getElem (by omega), e]) x hx)
  rw [this]
theorem outL_succ (mk : K → List Nat → Nd) {L : List K} {m : Nat} {q : K} (h : L[m]? = some q) : outL sc mk L (m + 1) = outL sc mk L m ++ [mk q ((sc q).map L.idxOf)] := by
  unfold outL
  rw [List.take_add_one, h]
  simp
/-- The nodes that unfold makes. -/
def Unf (mk : K → List Nat → Nd) (out : List Nd) : Prop := ∃ m, (rch sc k0 m).length = m ∧ out = outL sc mk (rch sc k0 m) m
theorem Unf.uniq {mk : K → List Nat → Nd} {o o' : List Nd} (h : Unf sc k0 mk o) (h' : Unf sc k0 mk o') : o = o' := by
  obtain ⟨m, h1, rfl⟩ := h
  obtain ⟨m', h2, rfl⟩ := h'
  rw [rch_uniq sc k0 h1 h2]
end
/-- The parts of a node, by their classes. -/
def scC (N : List Nd) (cl : Nat → Nat) (i : Nat) : List Nat := if 4 ≤ (nd N i).k then [cl (nd N i).a, cl (nd N i).b] else []
def mkC (N : List Nd) (i : Nat) (ps : List Nat) : Nd := if 4 ≤ (nd N i).k then ⟨(nd N i).k, ps[0]?.getD 0, ps[1]?.getD 0⟩ else nd N i
/-- The canonical types of a node. -/
def IsCan (N : List Nd) (i : Nat) (out : List Nd) : Prop := ∃ cl, IsCls N cl ∧ Unf (scC N cl) (cl i) (mkC N) out
end Go.Proofs.Ytmbdjjkgjnemiaa
/- Layer 6: unfold's places and keys in memory; the closure place (ints). -/
namespace Go.Proofs.Ytmbdjjkgjnemiaa
open Go.RowKit Go.Maps
set_option linter.unusedVariables false

/-- A kind of slices that the call owns. -/
structure OwnKit (S : Type) where
  own : World → Nat → Value → List S → Prop
  lt : ∀ {w B v L k}, own w B v L → v.ownBlock = some k → B ≤ k ∧ k < w.heap.size
  same : ∀ {w w' B v L}, own w B v L → (∀ k, v.ownBlock = some k → w'.heap[k]? = w.heap[k]?) → own w' B v L
theorem Ow.same {w w' : World} {B e : Nat} {v : Value} {zs : List Int} (h : Ow w B e v zs) (hk : ∀ k, v.ownBlock = some k → w'.heap[k]? = w.heap[k]?) : Ow w' B e v zs := by
  refine ⟨h.1, ?_⟩
  rcases h.2 with h1 | ⟨g, cap, cur, h1, h2, h3, h4⟩
  · exact .inl h1
  · exact .inr ⟨g, cap, cur, h1, h2, (hk g (by rw [h1]; rfl)).trans h3, h4⟩
def natI (L : List Nat) : List Int := L.map fun (i : Nat) => (i : Int)
theorem natI_len (L : List Nat) : (natI L).length = L.length := by simp [natI]
theorem natI_at {L : List Nat} {j : Nat} (h : j < L.length) : (natI L)[j]?.getD 0 = ((L[j]?.getD 0 : Nat) : Int) := by
  unfold natI
  rw [List.getElem?_map, List.getElem?_eq_getElem h]; rfl
def ownN : OwnKit Nat := ⟨fun w B v L => Ow w B 3 v (natI L), fun h hk => Ow.lt h hk, fun h hk => Ow.same h hk⟩
section
variable {S : Type} [DecidableEq S]
/-- The places of the keys. -/
def idxM (L : List S) : S → Option Lit := fun x => if x ∈ L then some (.int .i64 ((L.idxOf x : Nat) : Int)) else none
theorem idxM_in {L : List S} {x : S} (h : x ∈ L) : idxM L x = some (.int .i64 ((L.idxOf x : Nat) : Int)) := if_pos h
theorem idxM_out {L : List S} {x : S} (h : x ∉ L) : idxM L x = none := if_neg h
theorem idxM_put {L : List S} {x : S} (h : x ∉ L) : idxM (L ++ [x]) = putK (idxM L) x (.int .i64 (L.length : Int)) := by
  funext y
  unfold idxM putK
  by_cases e : y = x
  · subst e
    rw [if_pos rfl, if_pos (by simp), idx_new h]
  · rw [if_neg e]
    dsimp only
    by_cases hy : y ∈ L
    · rw [if_pos hy, if_pos (List.mem_append_left _ hy), idx_append hy]
    · rw [if_neg hy, if_neg (by simp; exact ⟨hy, e⟩)]
/-- The cells of unfold: a cell s5 with the map bm, a cell s6 with the slice v. -/
structure PlS {kt : TypeId} (E : KeyEnc kt S) (O : OwnKit S) (t5 t6 : TypeId) (B s5 s6 bm : Nat) (L : List S) (v : Value) (W : World) : Prop where
  c5 : W.heap[s5]? = some (.cells #[.map (some bm)] t5 (0, 0))
  c6 : W.heap[s6]? = some (.cells #[v] t6 (0, 0))
  km : KM E W 3 bm L.length (idxM L)
  ow : O.own W B v L
  ne : s5 ≠ s6 ∧ s5 ≠ bm ∧ s6 ≠ bm
  lo : B ≤ s5 ∧ B ≤ s6 ∧ B ≤ bm
  ap : ∀ k, v.ownBlock = some k → k ≠ s5 ∧ k ≠ s6 ∧ k ≠ bm
variable {kt : TypeId} {E : KeyEnc kt S} {O : OwnKit S} {t5 t6 : TypeId} {B s5 s6 bm : Nat} {L : List S} {v : Value} {W W' : World}
/-- What place may turn. -/
def PlT (s6 bm : Nat) (v : Value) (k : Nat) : Prop := k = s6 ∨ k = bm ∨ v.ownBlock = some k
theorem PlS.keep (h : PlS E O t5 t6 B s5 s6 bm L v W) (hk : ∀ k, (k = s5 ∨ k = s6 ∨ k = bm ∨ v.ownBlock = some k) → W'.heap[k]? = W.heap[k]?) : PlS E O t5 t6 B s5 s6 bm L v W' :=
  ⟨(hk _ (.inl rfl)).trans h.c5, (hk _ (.inr (.inl rfl))).trans h.c6, h.km.heap (hk _ (.inr (.inr (.inl rfl)))), O.same h.ow fun k e => hk _ (.inr (.inr (.inr e))), h.ne, h.lo, h.ap⟩
theorem PlS.lt (h : PlS E O t5 t6 B s5 s6 bm L v W) : s5 < W.heap.size ∧ s6 < W.heap.size ∧ bm < W.heap.size := ⟨(Array.getElem?_eq_some_iff.1 h.c5).1, (Array.getElem?_eq_some_iff.1 h.c6).1, h.km.lt⟩
theorem PlS.below (h : PlS E O t5 t6 B s5 s6 bm L v W) (hb : Below W.heap.size W W') : PlS E O t5 t6 B s5 s6 bm L v W' := h.keep fun k hk => hb.block k (by
  have := h.lt
  rcases hk with rfl | rfl | rfl | e
  · omega
  · omega
  · omega
  · exact (O.lt h.ow e).2)
/-- A slice's block after an append: the same, or a new one. -/
def Grw (v v' : Value) (C : Nat) : Prop := v'.ownBlock = v.ownBlock ∨ ∃ g, v'.ownBlock = some g ∧ C ≤ g
theorem Grw.refl (v : Value) (C : Nat) : Grw v v C := .inl rfl
theorem Grw.trans {v v' v'' : Value} {C D : Nat} (h : Grw v v' C) (h' : Grw v' v'' D) (hCD : C ≤ D) : Grw v v'' C := by
  rcases h' with e | ⟨g, e, hg⟩
  · rcases h with e' | ⟨g, e', hg⟩
    · exact .inl (e.trans e')
    · exact .inr ⟨g, e.trans e', hg⟩
  · exact .inr ⟨g, e, by omega⟩
/-- What place leaves behind. -/
structure PlQ {kt : TypeId} (E : KeyEnc kt S) (O : OwnKit S) (t5 t6 : TypeId) (B s5 s6 bm : Nat) (L : List S) (v : Value) (W : World) (L' : List S) (v' : Value) (W' : World) : Prop where
  s : PlS E O t5 t6 B s5 s6 bm L' v' W'
  t : Tn W W' (PlT s6 bm v)
  g : Grw v v' W.heap.size
theorem PlQ.refl (h : PlS E O t5 t6 B s5 s6 bm L v W) : PlQ E O t5 t6 B s5 s6 bm L v W L v W := ⟨h, Tn.refl _ _, Grw.refl _ _⟩
theorem PlQ.trans {L' L'' : List S} {v' v'' : Value} {W'' : World} (h : PlQ E O t5 t6 B s5 s6 bm L v W L' v' W') (h' : PlQ E O t5 t6 B s5 s6 bm L' v' W' L'' v'' W'') : PlQ E O t5 t6 B s5 s6 bm L v W L'' v'' W'' :=
  ⟨h'.s, h.t.trans h'.t (fun _ _ hk => hk) (fun k hk hT => by
    rcases hT with e | e | e
    · exact .inl e
    · exact .inr (.inl e)
    · rcases h.g with e' | ⟨g, e', hg⟩
      · exact .inr (.inr (by rw [← e', e]))
      · rw [e'] at e
        injection e with e
        omega), h.g.trans h'.g h.t.size⟩
theorem PlQ.more {W1 : World} {L' : List S} {v' : Value} (h : PlQ E O t5 t6 B s5 s6 bm L v W L' v' W') (hb : Below W'.heap.size W' W1) : PlQ E O t5 t6 B s5 s6 bm L v W L' v' W1 :=
  ⟨h.s.below hb, h.t.trans (Tn.of_below (T := PlT s6 bm v) hb (Nat.le_refl _)) (fun _ _ hk => hk) (fun _ _ hk => hk), h.g⟩
theorem PlQ.after {W1 : World} {L' : List S} {v' : Value} (hb : Below W.heap.size W W1) (h : PlQ E O t5 t6 B s5 s6 bm L v W1 L' v' W') : PlQ E O t5 t6 B s5 s6 bm L v W L' v' W' :=
  ⟨h.s, (Tn.of_below (T := PlT s6 bm v) hb (Nat.le_refl _)).trans h.t (fun _ _ hk => hk) (fun _ _ hk => hk), by
    rcases h.g with e | ⟨g, e, hg⟩
    · exact .inl e
    · exact .inr ⟨g, e, Nat.le_trans hb.size hg⟩⟩
/-- A new key: its place is laid, then it is appended, then the slice is stored. -/
theorem PlS.push (h : PlS E O t5 t6 B s5 s6 bm L v W) {x : S} (hx : x ∉ L) {W1 W2 : World} {v' : Value} (hg : World.grownBy W W1 (some bm)) (hk : KM E W1 3 bm (L.length + 1) (putK (idxM L) x (.int .i64 (L.length : Int)))) (hg2 : World.grownBy W1 W2 v.ownBlock) (ho : O.own W2 B v' (L ++ [x])) (ha : Grw v v' W1.heap.size) :
    PlQ E O t5 t6 B s5 s6 bm L v W (addK L x) v' (W2.setCell ⟨s6, 0, none⟩ v') := by
  obtain ⟨l5, l6, lb⟩ := h.lt
  obtain ⟨n1, n2, n3⟩ := h.ne
  have hz := hg.size
  have hz2 := hg2.size
  have apart : ∀ k, (k = s5 ∨ k = s6 ∨ k = bm) → some k ≠ v.ownBlock := fun k hk e => by
    have := h.ap k e.symm
    rcases hk with rfl | rfl | rfl
    · exact this.1 rfl
    · exact this.2.1 rfl
    · exact this.2.2 rfl
  have hset : ∀ k, k ≠ s6 → (W2.setCell ⟨s6, 0, none⟩ v').heap[k]? = W2.heap[k]? := fun k hk => by
    simp [World.setCell, Array.getElem?_modify]
    intro e
    omega
  have hap : ∀ k, v'.ownBlock = some k → k ≠ s5 ∧ k ≠ s6 ∧ k ≠ bm := fun k hk => by
    rcases ha with e | ⟨g, e, hge⟩
    · exact h.ap k (e ▸ hk)
    · rw [e] at hk
      injection hk with hk
      omega
  rw [addK_new hx]
  have c6 : W2.heap[s6]? = some (.cells #[v] t6 (0, 0)) := (hg2.block s6 (by omega) (apart _ (.inr (.inl rfl)))).trans ((hg.block s6 l6 (by intro e; exact n3 (Option.some.inj e))).trans h.c6)
  refine ⟨⟨?_, ?_, ?_, ?_, h.ne, h.lo, hap⟩, ?_, ?_⟩
  · exact (hset _ n1).trans ((hg2.block s5 (by omega) (apart _ (.inl rfl))).trans ((hg.block s5 l5 (by intro e; exact n2 (Option.some.inj e))).trans h.c5))
  · simp [World.setCell, Array.getElem?_modify, c6]
  · rw [idxM_put hx, List.length_append]
    exact hk.heap ((hset _ (Ne.symm n3)).trans (hg2.block bm (by omega) (apart _ (.inr (.inr rfl)))))
  · exact O.same ho fun k e => hset _ (hap k e).2.1
  · refine ⟨hg2.os.trans hg.os, hg2.tape.trans hg.tape, hg2.output.trans hg.output, by simp [World.setCell]; omega, fun k hk hT => ?_⟩
    unfold PlT at hT
    exact (hset k (fun e => hT (.inl e))).trans ((hg2.block k (by omega) (fun e => hT (.inr (.inr e.symm)))).trans (hg.block k hk (fun e => hT (.inr (.inl (Option.some.inj e))))))
  · rcases ha with e | ⟨g, e, hge⟩
    · exact .inl e
    · exact .inr ⟨g, e, by omega⟩
end
theorem plEnds {S : Type} [DecidableEq S] {L : List S} {x : S} (h : x ∉ L) : (addK L x).idxOf x = L.length := by rw [addK_new h, idx_new h]
set_option maxRecDepth 100000 in
set_option maxHeartbeats 3200000 in
theorem place_any (B s5 s6 bm : Nat) (L : List Nat) (v : Value) (x : Nat) (w : World) (h : PlS encNat ownN 106 69 B s5 s6 bm L v w) (hx : x ≤ 1099511627776) (hl : L.length ≤ 1000000) (hB : B ≤ w.heap.size) :
    Calls Try.prog 67 #[.int .i64 (x : Int), .pointer (some ⟨s5, 0, none⟩), .pointer (some ⟨s6, 0, none⟩)] w fun e w' => ∃ v', e = .returned (.int .i64 (((addK L x).idxOf x : Nat) : Int)) ∧ PlQ encNat ownN 106 69 B s5 s6 bm L v w (addK L x) v' w' := by
  have HS := Lib.hid h
  have c5 := cell_in h.c5 (i := 0) rfl
  have c6 := cell_in h.c6 (i := 0) rfl
  by_cases hm : x ∈ L
  · have lk := run_lookIk w 106 Try.underlying106 _ _ _ h.km (x := x) hx ((L.idxOf x : Nat) : Int) (by rw [idxM_in hm]; rfl) true (by rw [idxM_in hm]; rfl)
    have lk : (Instr.lookup 106 (.map (some bm)) (.int .i64 (x : Int)) true).run Try.prog w = .ok (.tuple #[.int .i64 ((L.idxOf x : Nat) : Int), .bool true]) w := lk
    have HE : Hid (addK L x = L) := addK_in hm
    generalize hi : L.idxOf x = i at lk
    have HIX : Hid (L.idxOf x = i) := hi
    clear hm h hi
    go_enter Try.func67, Try.ntmps67
    go_wp2
    go_ret
    refine ⟨v, ?_, ?_⟩
    · rw [HE.out, HIX.out]; rfl
    · rw [HE.out]; exact PlQ.refl HS.out
  · obtain ⟨A, c, rfl, hsl⟩ := Ow.sl_len (n := L.length) h.ow (natI_len L) (by omega)
    obtain ⟨i0, hi, hz0, hz1, hz2⟩ := info_parts Try.infoInt
    have HI : Hid (Try.prog.info? 3 = some i0 ∧ i0.zero = some (.int .i64 0) ∧ i0.size = 1 ∧ i0.bytes = 8) := ⟨hi, hz0, hz1, hz2⟩
    have lk := run_lookIk w 106 Try.underlying106 _ _ _ h.km (x := x) hx 0 (by rw [idxM_out hm]; rfl) false (by rw [idxM_out hm]; rfl)
    have lk : (Instr.lookup 106 (.map (some bm)) (.int .i64 (x : Int)) true).run Try.prog w = .ok (.tuple #[.int .i64 0, .bool false]) w := lk
    obtain ⟨w1, hup, hk1, hg1⟩ := run_storeK w h.km 106 Try.underlying106 (by omega) (k := x) hx (.int .i64 (L.length : Int)) (.int .i64 (L.length : Int)) (plainElem_int Try.underlying3 (wfN (by omega)))
    have hup : (Instr.mapUpdate 106 (.map (some bm)) (.int .i64 (x : Int)) (.int .i64 (L.length : Int))).run Try.prog w = .ok () w1 := hup
    have HK1 := Lib.hid hk1
    have HG1 := Lib.hid hg1
    have HM := Lib.hid hm
    obtain ⟨l5, l6, lb⟩ := h.lt
    have HLT := Lib.hid h.lt
    have d6 : w1.cell? ⟨s6, 0, none⟩ = some (.slice A L.length c) := by
      have := (hg1.block s6 l6 (by intro e; exact h.ne.2.2 (Option.some.inj e))).trans h.c6
      exact cell_in this (i := 0) rfl
    have HO1 : Hid (Ow w1 B 3 (.slice A L.length c) (natI L)) := Ow.same h.ow fun k hk => hg1.block k (Ow.lt h.ow hk).2 (by intro e; exact (h.ap k hk).2.2 (Option.some.inj e))
    have HZ : Hid (B ≤ w1.heap.size) := Nat.le_trans hB hg1.size
    have HLN : Hid ((natI L).length ≤ 1099511627776) := by rw [Hid, natI_len]; omega
    have HPE : Hid ((addK L x).idxOf x = L.length) := plEnds hm
    have HLS : Hid (∀ v', Ow w1 B 3 v' (natI L ++ [(x : Int)]) → True) := fun _ _ => trivial
    generalize hn : L.length = n at *
    have HN := Lib.hid hn
    clear h hm hk1 hg1 hi hz0 hz1 hz2 hn hsl
    go_enter Try.func67, Try.ntmps67
    go_wp2_with (at_builtin; go_must (refine push_law _ rfl (.tmp 20) (.tmp 22) 69 rfl B 3 i0 Try.underlying69 HI.out _ (natI L) (x : Int) rfl rfl HO1.out HLN.out HZ.out ?_); intro v2 w2 hv2 hgr2 hat2; obtain ⟨A2, c2, rfl, _⟩ := Ow.sl_len (n := n + 1) hv2 (by rw [List.length_append, natI_len, HN.out]; rfl) (by omega); have HV2 := Lib.hid hv2; have HG2 := Lib.hid hgr2; have HA2 := Lib.hid hat2; have h6 := (HG2.out.block s6 (by have := HG1.out.size; omega) (by intro e; exact (HS.out.ap s6 e.symm).2.1 rfl)).trans ((HG1.out.block s6 l6 (by intro e; exact HS.out.ne.2.2 (Option.some.inj e))).trans HS.out.c6); have e6 := cell_in h6 (i := 0) rfl; have f6 : w2.frozen? ⟨s6, 0, none⟩ = false := (by simp [World.frozen?, h6]); clear hv2 hgr2 hat2 h6)
    go_ret
    refine ⟨_, ?_, HS.out.push HM.out HG1.out (by rw [HN.out]; exact HK1.out) HG2.out ?_ HA2.out⟩
    · rw [HPE.out]; rfl
    · show Ow w2 B 3 _ (natI (L ++ [x]))
      rw [show natI (L ++ [x]) = natI L ++ [(x : Int)] from by simp [natI]]
      exact HV2.out
end Go.Proofs.Ytmbdjjkgjnemiaa
/- Layer 6: the closure of canonical. -/
namespace Go.Proofs.Ytmbdjjkgjnemiaa
open Go.RowKit Go.Maps
set_option linter.unusedVariables false

abbrev ndV (x : Nd) : Value := .agg #[.int .i64 (x.k : Int), .int .i64 (x.a : Int), .int .i64 (x.b : Int)]
section
variable {S : Type} [DecidableEq S] {kt : TypeId} {E : KeyEnc kt S} {O : OwnKit S} {t5 t6 : TypeId} {B s5 s6 bm : Nat} {L L' : List S} {v v' : Value} {W W' : World}
theorem PlS.T_lo (h : PlS E O t5 t6 B s5 s6 bm L v W) {k : Nat} (hk : PlT s6 bm v k) : B ≤ k ∧ k < W.heap.size := by
  have hl := h.lt
  have hb := h.lo
  rcases hk with rfl | rfl | e
  · exact ⟨hb.2.1, hl.2.1⟩
  · exact ⟨hb.2.2, hl.2.2⟩
  · exact O.lt h.ow e
theorem PlQ.lo (h : PlS E O t5 t6 B s5 s6 bm L v W) (q : PlQ E O t5 t6 B s5 s6 bm L v W L' v' W') (hB : B ≤ W.heap.size) : Below B W W' :=
  ⟨q.t.os, q.t.tape, q.t.output, q.t.size, fun k hk => q.t.block k (by omega) (fun hT => by have := (h.T_lo hT).1; omega)⟩
/-- A block beyond the cells of unfold stays. -/
theorem PlQ.far (h : PlS E O t5 t6 B s5 s6 bm L v W) {W1 : World} (q : PlQ E O t5 t6 B s5 s6 bm L v W1 L' v' W') (hz : W.heap.size ≤ W1.heap.size) {k : Nat} (hk : W.heap.size ≤ k) (hk1 : k < W1.heap.size) : W'.heap[k]? = W1.heap[k]? :=
  q.t.block k hk1 fun hT => by have := (h.T_lo hT).2; omega
end
section
variable {S : Type} [DecidableEq S] {kt : TypeId} {E : KeyEnc kt S} {O : OwnKit S} {t5 t6 : TypeId} {B s5 s6 bm : Nat} {L L' : List S} {v v' : Value} {W W' : World}
/-- A store into a row that the call has made itself. -/
theorem PlQ.turn (h : PlS E O t5 t6 B s5 s6 bm L v W) {W3 W5 W6 : World} {g : Nat} (hb : Below W.heap.size W W3) (q : PlQ E O t5 t6 B s5 s6 bm L v W3 L' v' W5) (hg : W.heap.size ≤ g) (hg3 : g < W3.heap.size) (ho : ∀ k, k ≠ g → W6.heap[k]? = W5.heap[k]?) (hb6 : Below g W5 W6) : PlQ E O t5 t6 B s5 s6 bm L v W L' v' W6 := by
  have hl := h.lt
  have hv : v'.ownBlock ≠ some g := by
    rcases q.g with e | ⟨g', e, hge⟩
    · rw [e]
      intro e2
      have := (O.lt h.ow e2).2
      omega
    · rw [e]
      intro e2
      have e2 := Option.some.inj e2
      omega
  refine ⟨q.s.keep fun k hk => ho k ?_, ?_, ?_⟩
  · rcases hk with rfl | rfl | rfl | e
    · omega
    · omega
    · omega
    · intro e2; subst e2; exact hv e
  · have q' := (PlQ.after hb q).t
    exact ⟨hb6.os.trans q'.os, hb6.tape.trans q'.tape, hb6.output.trans q'.output, Nat.le_trans q'.size hb6.size, fun k hk hT => (ho k (by omega)).trans (q'.block k hk hT)⟩
  · exact (PlQ.after hb q).g
end
theorem scC_part {N : List Nd} {cl : Nat → Nat} {i k p q : Nat} (h : nd N i = ⟨k, p, q⟩) (h4 : 4 ≤ k) : scC N cl i = [cl p, cl q] := by unfold scC; rw [h, if_pos h4]
theorem scC_leaf {N : List Nd} {cl : Nat → Nat} {i k p q : Nat} (h : nd N i = ⟨k, p, q⟩) (h4 : ¬ 4 ≤ k) : scC N cl i = [] := by unfold scC; rw [h, if_neg h4]
theorem mkC_part {N : List Nd} {i k p q a b : Nat} (h : nd N i = ⟨k, p, q⟩) (h4 : 4 ≤ k) : mkC N i [a, b] = ⟨k, a, b⟩ := by unfold mkC; rw [h, if_pos h4]; rfl
theorem mkC_leaf {N : List Nd} {i k p q : Nat} (h : nd N i = ⟨k, p, q⟩) (h4 : ¬ 4 ≤ k) (ps : List Nat) : mkC N i ps = ⟨k, p, q⟩ := by unfold mkC; rw [h, if_neg h4]
theorem Try.sizeTy : (Try.prog.info? 59).map (·.size) = some 3 := by kernel_rfl
/-- What nodeOf gives. -/
def NodeQ {S : Type} [DecidableEq S] {kt : TypeId} (E : KeyEnc kt S) (O : OwnKit S) (t5 t6 : TypeId) (B s5 s6 bm : Nat) (L : List S) (v : Value) (W : World) (sc : S → List S) (mk : S → List Nat → Nd) (x : S) (e : Ending) (W' : World) : Prop :=
  ∃ v', e = .returned (ndV (mk x ((sc x).map (addAll L (sc x)).idxOf))) ∧ PlQ E O t5 t6 B s5 s6 bm L v W (addAll L (sc x)) v' W'
set_option maxRecDepth 100000 in
set_option maxHeartbeats 6400000 in
theorem canon1_any (N : List Nd) (A : Option Addr) (n c sT sS : Nat) (C : Option Addr) (d : Nat) (cl : Nat → Nat) (B s5 s6 bm : Nat) (L : List Nat) (v : Value) (i : Nat) (w0 w : World) (h0 : w0.heap.size = B) (hN : Nl w0 A n c N) (hok : OkN N) (hC : Sl w0 C n d (tabL n cl))
    (hT : w0.cell? ⟨sT, 0, none⟩ = some (.slice A n c)) (hS : w0.cell? ⟨sS, 0, none⟩ = some (.slice C n d)) (hw : Below B w0 w) (h : PlS encNat ownN 106 69 B s5 s6 bm L v w) (hi : i < n) (hn : n ≤ 1000000) (hcl : ∀ j, j < n → cl j < n) (hLn : L.length ≤ 100000) :
    Calls Try.prog 62 #[.int .i64 (i : Int), .func (.func 67) #[] #[.pointer (some ⟨s5, 0, none⟩), .pointer (some ⟨s6, 0, none⟩)], .pointer (some ⟨sT, 0, none⟩), .pointer (some ⟨sS, 0, none⟩)] w fun e w' =>
      NodeQ encNat ownN 106 69 B s5 s6 bm L v w (scC N cl) (mkC N) i e w' := by
  have hkp := hok.kind i (by rw [hN.len]; exact hi)
  have hap := hok.a i (by rw [hN.len]; exact hi)
  have hbp := hok.b i (by rw [hN.len]; exact hi)
  rw [hN.len] at hap hbp
  have hsT : sT < B := by rw [← h0]; exact lt_of_cell hT
  have hsS : sS < B := by rw [← h0]; exact lt_of_cell hS
  have hBw : B ≤ w.heap.size := by rw [← h0]; exact hw.size
  obtain ⟨W, hW⟩ : ∃ W, W = w.alloc (.cells #[.int .i64 0, .int .i64 0, .int .i64 0] 59) := ⟨_, rfl⟩
  have HB : Hid (Below w.heap.size w W) := by rw [hW]; exact (Below.refl _ w).alloc (Nat.le_refl _) _
  have hb0 : Below B w0 W := hw.trans (HB.out.mono hBw)
  have hbig := hN.big
  obtain ⟨b, off, rfl, hbl, n0, n1, n2⟩ := (hN.below hb0 (by omega)).rows i hi
  have hboxT := (hb0.cell (p := ⟨sT, 0, none⟩) hsT).trans hT
  have HCS : Hid (∀ W', Below B w0 W' → W'.cell? ⟨sS, 0, none⟩ = some (.slice C n d) ∧ Sl W' C n d (tabL n cl)) := fun W' hb => ⟨(hb.cell (p := ⟨sS, 0, none⟩) hsS).trans hS, hC.below hb (by omega)⟩
  have HR : Hid (W.heap[w.heap.size]? = some (Obj.cells #[.int .i64 0, .int .i64 0, .int .i64 0] 59 (0, 0))) := by rw [hW]; exact heap_alloc_new _ _
  have HW := Lib.hid hW
  have HPS := Lib.hid h
  have HW0 := Lib.hid hw
  clear hW hN hok hC hT hS hw
  obtain ⟨x, hx⟩ : ∃ x, x = nd N i := ⟨_, rfl⟩
  rw [← hx] at n0 n1 n2 hkp hap hbp
  obtain ⟨k, p, q⟩ := x
  dsimp only at n0 n1 n2 hkp hap hbp
  have i1 : (i : Int) < (n : Int) := by omega
  obtain ⟨W2, hW2⟩ : ∃ W2, W2 = W.alloc (.cells #[.int .i64 (k : Int), .int .i64 (p : Int), .int .i64 (q : Int)] 59) := ⟨_, rfl⟩
  have HB2 : Hid (Below w.heap.size w W2) := by rw [hW2]; exact HB.out.alloc HB.out.size _
  have H2 : Hid (W2.heap[w.heap.size + 1]? = some (Obj.cells #[.int .i64 (k : Int), .int .i64 (p : Int), .int .i64 (q : Int)] 59 (0, 0))) := by
    rw [hW2, show w.heap.size + 1 = W.heap.size from by rw [HW.out]; simp]
    exact heap_alloc_new _ _
  have HR2 : Hid (W2.heap[w.heap.size]? = some (Obj.cells #[.int .i64 0, .int .i64 0, .int .i64 0] 59 (0, 0))) := by
    rw [hW2]
    exact (((Below.refl W.heap.size W).alloc (Nat.le_refl _) _).block _ (by rw [HW.out]; simp)).trans HR.out
  have hz2 : W2.heap.size = w.heap.size + 2 := by rw [hW2, HW.out]; simp
  have HW2 := Lib.hid hW2
  have HX := Lib.hid hx.symm
  rw [HW.out] at n0 n1 n2 hboxT
  clear hW2 hx hb0 HR
  by_cases h4 : 4 ≤ k
  · have HHP := Lib.hid (fun W => hasParts_is ⟨k, p, q⟩ true W (by rw [hasB'_nat k hkp]; exact decide_eq_true h4))
    obtain ⟨v1, hv1⟩ : ∃ v, v = cl p := ⟨_, rfl⟩
    obtain ⟨v2, hv2⟩ : ∃ v, v = cl q := ⟨_, rfl⟩
    have hlv1 : v1 < n := by rw [hv1]; exact hcl p hap
    have hlv2 : v2 < n := by rw [hv2]; exact hcl q hbp
    have hsc : scC N cl i = [v1, v2] := by rw [scC_part HX.out h4, hv1, hv2]
    have hix1 : (addK (addK L v1) v2).idxOf v1 = (addK L v1).idxOf v1 := by
      obtain ⟨X, hX⟩ := addK_pre (addK L v1) v2
      rw [hX, idx_append (addK_mem L v1)]
    have HAL : Hid (addAll L (scC N cl i) = addK (addK L v1) v2) := by rw [Hid, hsc]; rfl
    have HMK : Hid (mkC N i ((scC N cl i).map (addAll L (scC N cl i)).idxOf) = ⟨k, (addK L v1).idxOf v1, (addK (addK L v1) v2).idxOf v2⟩) := by
      rw [Hid, HAL.out, hsc, List.map_cons, List.map_cons, List.map_nil, mkC_part HX.out h4, hix1]
    have HLN1 : Hid ((addK L v1).length ≤ 1000000) := by
      rw [Hid]
      unfold addK
      split
      · omega
      · rw [List.length_append]; simp; omega
    have HCC : Hid (∀ W', Below B w0 W' → W'.cell? ⟨sS, 0, none⟩ = some (.slice C n d) ∧ ∃ cb co, C = some ⟨cb, co, none⟩ ∧ W'.cell? ⟨cb, co + p, none⟩ = some (.int .i64 (v1 : Int)) ∧ W'.cell? ⟨cb, co + q, none⟩ = some (.int .i64 (v2 : Int))) := fun W' hb => by
      obtain ⟨h1, h2⟩ := HCS.out W' hb
      obtain ⟨cb, co, e, hcc⟩ := h2.cells (by omega)
      have c1 := hcc p hap
      have c2 := hcc q hbp
      rw [tabL_at _ hap, ← hv1] at c1
      rw [tabL_at _ hbp, ← hv2] at c2
      exact ⟨h1, cb, co, e, c1, c2⟩
    obtain ⟨_, cb, co, rfl, _, _⟩ := HCC.out w HW0.out
    have HCD : Hid (∀ W', Below B w0 W' → W'.cell? ⟨sS, 0, none⟩ = some (.slice (some ⟨cb, co, none⟩) n d) ∧ W'.cell? ⟨cb, co + p, none⟩ = some (.int .i64 (v1 : Int)) ∧ W'.cell? ⟨cb, co + q, none⟩ = some (.int .i64 (v2 : Int))) := fun W' hb => by
      obtain ⟨h1, cb', co', e, c1, c2⟩ := HCC.out W' hb
      injection e with e
      injection e with e1 e2
      subst e1; subst e2
      exact ⟨h1, c1, c2⟩
    have HI3 : Hid (∀ a b : Nat, (Try.prog.info? 59).map (·.size) = some (#[Value.int .i64 (k : Int), Value.int .i64 (a : Int), Value.int .i64 (b : Int)] : Array Value).size) := fun _ _ => Try.sizeTy
    have j1 : (p : Int) < (n : Int) := by omega
    have j2 : (q : Int) < (n : Int) := by omega
    have HPL1 : Hid (∀ W, PlS encNat ownN 106 69 B s5 s6 bm L v W → B ≤ W.heap.size → Calls Try.prog 67 #[.int .i64 (v1 : Int), .pointer (some ⟨s5, 0, none⟩), .pointer (some ⟨s6, 0, none⟩)] W fun e w' => ∃ v', e = .returned (.int .i64 (((addK L v1).idxOf v1 : Nat) : Int)) ∧ PlQ encNat ownN 106 69 B s5 s6 bm L v W (addK L v1) v' w') := fun W hp hB => place_any B s5 s6 bm L v v1 W hp (by omega) (by omega) hB
    have HPL2 : Hid (∀ W v4, PlS encNat ownN 106 69 B s5 s6 bm (addK L v1) v4 W → B ≤ W.heap.size → Calls Try.prog 67 #[.int .i64 (v2 : Int), .pointer (some ⟨s5, 0, none⟩), .pointer (some ⟨s6, 0, none⟩)] W fun e w' => ∃ v', e = .returned (.int .i64 (((addK (addK L v1) v2).idxOf v2 : Nat) : Int)) ∧ PlQ encNat ownN 106 69 B s5 s6 bm (addK L v1) v4 W (addK (addK L v1) v2) v' w') := fun W v4 hp hB => place_any B s5 s6 bm (addK L v1) v4 v2 W hp (by omega) HLN1.out hB
    generalize (addK L v1).idxOf v1 = x1 at *
    generalize (addK (addK L v1) v2).idxOf v2 = x2 at *
    clear h4 hv1 hv2 hsc hix1 HCC HCS hcl
    go_enter Try.func62, Try.ntmps62
    go_wp2_with (first
      | (go_at_call 51; rw [← HW.out, ← HW2.out]; refine (HHP.out _).mono ?_; rintro e w3 ⟨rfl, hb3⟩; have HB3 := Lib.hid (HB2.out.trans (hb3.mono HB2.out.size)); obtain ⟨y0, y1, y2⟩ := HCD.out w3 (HW0.out.trans (HB3.out.mono hBw)); have H3 := Lib.hid ((hb3.block _ (by rw [hz2]; omega)).trans H2.out); have HR3 := Lib.hid ((hb3.block _ (by rw [hz2]; omega)).trans HR2.out); have d0 := cell_in H3.out (i := 0) rfl; have d1 := cell_in H3.out (i := 1) rfl; have d2 := cell_in H3.out (i := 2) rfl; have hz3 := Nat.le_trans (Nat.le_of_eq hz2.symm) hb3.size; clear hb3)
      | (go_at_call 67; (with_reducible refine (HPL1.out _ (HPS.out.below HB3.out) (Nat.le_trans hBw HB3.out.size)).mono ?_); rintro e w4 ⟨v4, rfl, q4⟩; have Q4 := Lib.hid q4; have hq4 := PlQ.lo (HPS.out.below HB3.out) q4 (Nat.le_trans hBw HB3.out.size); obtain ⟨z0, z1, z2⟩ := HCD.out w4 ((HW0.out.trans (HB3.out.mono hBw)).trans hq4); have H4 := Lib.hid ((PlQ.far HPS.out q4 HB3.out.size (k := w.heap.size + 1) (by omega) (by omega)).trans H3.out); have f0 := cell_in H4.out (i := 0) rfl; have f1 := cell_in H4.out (i := 1) rfl; have f2 := cell_in H4.out (i := 2) rfl; clear q4 hq4 y0 y1 y2 d0 d1 d2)
      | (go_at_call 67; (with_reducible refine (HPL2.out _ _ Q4.out.s (by have := HB3.out.size; have := Q4.out.t.size; omega)).mono ?_); rintro e w5 ⟨v5, rfl, q5⟩; have Q5 := Lib.hid (Q4.out.trans q5); have H5 := Lib.hid ((PlQ.far HPS.out Q5.out HB3.out.size (k := w.heap.size + 1) (by omega) (by omega)).trans H3.out); have HR5 := Lib.hid ((PlQ.far HPS.out Q5.out HB3.out.size (k := w.heap.size) (by omega) (by omega)).trans HR3.out); have g0 := cell_in H5.out (i := 0) rfl; clear q5 z0 z1 z2 f0 f1 f2)
      | (refine wpList_store_row (by rfl) 59 (.tmp 6) (.tmp 36) (by rfl) w.heap.size _ (by rfl) (by rfl) 59 _ HR5.out (HI3.out _ _) (by rfl) (by simp [Value.oneCell']) ?_))
    refine bodyPost_ret (results_cell_row (by rfl) _ _ w.heap.size 59 _ (0, 0) _ (by rfl) (setRow_heap _ _ _ _ _ _ HR5.out) Try.underlying59 (by rfl) (HI3.out _ _)) (by rfl) ⟨v5, by rw [HMK.out], ?_⟩
    obtain ⟨W6, hW6, _, s6', r6⟩ := row_set #[Value.int .i64 (k : Int), Value.int .i64 (x1 : Int), Value.int .i64 (x2 : Int)] HR5.out
    rw [← hW6, HAL.out]
    exact PlQ.turn HPS.out HB3.out Q5.out (Nat.le_refl _) (by omega) s6' (r6 _ (Nat.le_refl _))
  · have HHP := Lib.hid (fun W => hasParts_is ⟨k, p, q⟩ false W (by rw [hasB'_nat k hkp]; exact decide_eq_false h4))
    have HAL : Hid (addAll L (scC N cl i) = L) := by rw [Hid, scC_leaf HX.out h4]; rfl
    have HMK : Hid (mkC N i ((scC N cl i).map (addAll L (scC N cl i)).idxOf) = ⟨k, p, q⟩) := mkC_leaf HX.out h4 _
    have HI3 : Hid ((Try.prog.info? 59).map (·.size) = some (#[Value.int .i64 (k : Int), Value.int .i64 (p : Int), Value.int .i64 (q : Int)] : Array Value).size) := Try.sizeTy
    clear h4 HCS hcl
    go_enter Try.func62, Try.ntmps62
    go_wp2_with (first
      | (go_at_call 51; rw [← HW.out, ← HW2.out]; refine (HHP.out _).mono ?_; rintro e w3 ⟨rfl, hb3⟩; have HB3 := Lib.hid (HB2.out.trans (hb3.mono HB2.out.size)); have H3 := Lib.hid ((hb3.block _ (by rw [hz2]; omega)).trans H2.out); have HR3 := Lib.hid ((hb3.block _ (by rw [hz2]; omega)).trans HR2.out); have d0 := cell_in H3.out (i := 0) rfl; have d1 := cell_in H3.out (i := 1) rfl; have d2 := cell_in H3.out (i := 2) rfl; have hz3 := Nat.le_trans (Nat.le_of_eq hz2.symm) hb3.size; clear hb3)
      | (refine wpList_store_row (by rfl) 59 (.tmp 6) (.tmp 17) (by rfl) w.heap.size _ (by rfl) (by rfl) 59 _ HR3.out HI3.out (by rfl) (by simp [Value.oneCell']) ?_))
    refine bodyPost_ret (results_cell_row (by rfl) _ _ w.heap.size 59 _ (0, 0) _ (by rfl) (setRow_heap _ _ _ _ _ _ HR3.out) Try.underlying59 (by rfl) HI3.out) (by rfl) ⟨v, by rw [HMK.out], ?_⟩
    obtain ⟨W6, hW6, _, s6', r6⟩ := row_set #[Value.int .i64 (k : Int), Value.int .i64 (p : Int), Value.int .i64 (q : Int)] HR3.out
    rw [← hW6, HAL.out]
    exact PlQ.turn HPS.out HB3.out (PlQ.refl (HPS.out.below HB3.out)) (Nat.le_refl _) (by omega) s6' (r6 _ (Nat.le_refl _))
end Go.Proofs.Ytmbdjjkgjnemiaa
