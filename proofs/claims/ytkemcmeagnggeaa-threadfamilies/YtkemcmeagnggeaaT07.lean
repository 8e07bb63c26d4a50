import Derived.Test.YtkemcmeagnggeaaT02
import Derived.Test.YtkemcmeagnggeaaT04
import Derived.RangeFuncNested
import Derived.RangeFuncBound
import Derived.RangeFuncCalls
import Derived.RangeFuncLeaves
import Derived.Shelf.Abstract
import Derived.Shelf.RegionOpen
import Derived.OwnWalkIn
import Derived.TacticsInMore
import Derived.LoopNIn
import Derived.LoopIn
import Derived.Test.YtkemcmeagnggeaaT05
import Derived.StillTailTactics
/- Layer 3: a search in breadth over the words of k letters, mathematics: the first word with a property of its state. -/
namespace Go.Proofs.Ytkemcmeagnggeaa
set_option linter.unusedVariables false

def leL (x y : List Int) : Prop := x = y ∨ lessL x y = true
theorem leL.refl (x : List Int) : leL x x := .inl rfl
theorem leL.trans {x y z : List Int} (h : leL x y) (k : leL y z) : leL x z := by
  rcases h with rfl | h
  · exact k
  · rcases k with rfl | k
    · exact .inr h
    · exact .inr (lessL_trans h k)
theorem ltL_snoc : ∀ {x y : List Int} (a b : Int), x.length = y.length → ltL (x ++ [a]) (y ++ [b]) = (ltL x y || (decide (x = y) && decide (a < b)))
  | [], [], a, b, _ => by simp [ltL]
  | [], _ :: _, _, _, h => by simp at h
  | _ :: _, [], _, _, h => by simp at h
  | c :: x, d :: y, a, b, h => by
    have ih := ltL_snoc (x := x) (y := y) a b (by simpa using h)
    rw [List.cons_append, List.cons_append, ltL, ltL, ih]
    by_cases e : c = d
    · subst e; simp
    · simp [e]
theorem lessL_snoc {x y : List Int} (a b : Int) (h : lessL x y = true) : lessL (x ++ [a]) (y ++ [b]) = true := by
  unfold lessL at *
  rw [List.length_append, List.length_append]
  by_cases e : x.length = y.length
  · rw [if_pos e] at h
    rw [if_pos (by simp [e]), ltL_snoc a b e, h]; rfl
  · rw [if_neg e] at h
    rw [if_neg (by simpa using e)]
    simp at h ⊢; omega
theorem lessL_last (x : List Int) {a b : Int} (h : a < b) : lessL (x ++ [a]) (x ++ [b]) = true := by
  unfold lessL
  rw [if_pos (by simp), ltL_snoc a b rfl]
  simp [h]
theorem lessL_more (x : List Int) (a : Int) : lessL x (x ++ [a]) = true := by
  unfold lessL
  rw [if_neg (by simp)]
  simp
theorem lessL_nil (x : List Int) (a : Int) : lessL [] (x ++ [a]) = true := by
  unfold lessL
  rw [if_neg (by simp)]
  simp
theorem leL_snoc {x y : List Int} (a : Int) (h : leL x y) : leL (x ++ [a]) (y ++ [a]) := by
  rcases h with rfl | h
  · exact .inl rfl
  · exact .inr (lessL_snoc a a h)
theorem leL_antisymm {x y : List Int} (h : leL x y) (k : leL y x) : x = y := by
  rcases h with h | h
  · exact h
  · rcases k with k | k
    · exact k.symm
    · have := lessL_trans h k
      rw [lessL_irr] at this; cases this

variable {σ : Type}
/-- The state to which a word leads. -/
def runS (δ : σ → Nat → σ) (s : σ) (x : List Int) : σ := x.foldl (fun s b => δ s (b - 97).toNat) s
theorem runS_snoc (δ : σ → Nat → σ) (s : σ) (x : List Int) (c : Nat) : runS δ s (x ++ [97 + (c : Int)]) = δ (runS δ s x) c := by
  unfold runS
  rw [List.foldl_append]
  show δ _ _ = _
  congr 1
  omega
/-- A word of the first k letters. -/
def isW (k : Nat) (x : List Int) : Prop := ∀ b ∈ x, 97 ≤ b ∧ b < 97 + (k : Int)
theorem isW_snoc {k : Nat} {x : List Int} {c : Nat} (h : isW k x) (hc : c < k) : isW k (x ++ [97 + (c : Int)]) := by
  intro b hb
  rw [List.mem_append, List.mem_singleton] at hb
  rcases hb with hb | hb
  · exact h b hb
  · subst hb; omega
theorem isW_init {k : Nat} {x : List Int} {b : Int} (h : isW k (x ++ [b])) : isW k x ∧ ∃ c : Nat, c < k ∧ b = 97 + (c : Int) := by
  refine ⟨fun z hz => h z (by simp [hz]), ?_⟩
  have := h b (by simp)
  exact ⟨(b - 97).toNat, by omega, by omega⟩

/-- The search: D has been looked at, Q waits. -/
structure BF (k : Nat) (δ : σ → Nat → σ) (s0 : σ) (dead : σ → Prop) (D Q : List (List Int × σ)) : Prop where
  sorted : (D ++ Q).Pairwise (fun a b => lessL a.1 b.1 = true)
  ok : ∀ t ∈ D ++ Q, runS δ s0 t.1 = t.2 ∧ isW k t.1
  root : ∃ t ∈ D ++ Q, t.1 = []
  step : ∀ d ∈ D, ∀ c, c < k → dead (δ d.2 c) ∨ ∃ t ∈ D ++ Q, t.2 = δ d.2 c ∧ leL t.1 (d.1 ++ [97 + (c : Int)])
  from_ : ∀ t ∈ D ++ Q, t.1 = [] ∨ ∃ d ∈ D, ∃ c, c < k ∧ t.1 = d.1 ++ [97 + (c : Int)]
/-- The search within one element: the letters below c have been tried. -/
structure BP (k : Nat) (δ : σ → Nat → σ) (s0 : σ) (dead : σ → Prop) (D : List (List Int × σ)) (v : List Int × σ) (c : Nat) (Q : List (List Int × σ)) : Prop where
  sorted : (D ++ v :: Q).Pairwise (fun a b => lessL a.1 b.1 = true)
  ok : ∀ t ∈ D ++ v :: Q, runS δ s0 t.1 = t.2 ∧ isW k t.1
  root : ∃ t ∈ D ++ v :: Q, t.1 = []
  step : ∀ d ∈ D, ∀ c, c < k → dead (δ d.2 c) ∨ ∃ t ∈ D ++ v :: Q, t.2 = δ d.2 c ∧ leL t.1 (d.1 ++ [97 + (c : Int)])
  stepv : ∀ c', c' < c → dead (δ v.2 c') ∨ ∃ t ∈ D ++ v :: Q, t.2 = δ v.2 c' ∧ leL t.1 (v.1 ++ [97 + (c' : Int)])
  from_ : ∀ t ∈ D ++ v :: Q, t.1 = [] ∨ (∃ d ∈ D, ∃ c, c < k ∧ t.1 = d.1 ++ [97 + (c : Int)]) ∨ ∃ c', c' < c ∧ t.1 = v.1 ++ [97 + (c' : Int)]
variable {k : Nat} {δ : σ → Nat → σ} {s0 : σ} {dead : σ → Prop} {D Q : List (List Int × σ)} {v : List Int × σ} {c : Nat}
theorem BF.init : BF k δ s0 dead [] [([], s0)] where
  sorted := by simp
  ok := by
    intro t ht
    simp at ht
    subst ht
    exact ⟨rfl, fun b hb => by simp at hb⟩
  root := ⟨([], s0), by simp, rfl⟩
  step := fun d hd => by simp at hd
  from_ := fun t ht => by
    simp at ht
    subst ht
    exact .inl rfl
theorem BF.take (h : BF k δ s0 dead D (v :: Q)) : BP k δ s0 dead D v 0 Q :=
  ⟨h.sorted, h.ok, h.root, h.step, fun c hc => absurd hc (by omega), fun t ht => (h.from_ t ht).imp id .inl⟩
/-- A letter that leads to a dead state, or to one that is known. -/
theorem BP.skip (h : BP k δ s0 dead D v c Q) (hs : dead (δ v.2 c) ∨ ∃ t ∈ D ++ v :: Q, t.2 = δ v.2 c) : BP k δ s0 dead D v (c + 1) Q := by
  refine ⟨h.sorted, h.ok, h.root, h.step, fun c' hc' => ?_, fun t ht => ?_⟩
  · by_cases e : c' = c
    · subst e
      rcases hs with hs | ⟨t, ht, he⟩
      · exact .inl hs
      · refine .inr ⟨t, ht, he, ?_⟩
        -- every known word comes before the new one
        have hlt : t.1 = [] ∨ (∃ d ∈ D, ∃ c, c < k ∧ t.1 = d.1 ++ [97 + (c : Int)]) ∨ ∃ c2, c2 < c' ∧ t.1 = v.1 ++ [97 + (c2 : Int)] := h.from_ t ht
        rcases hlt with e1 | ⟨d, hd, c2, _, e1⟩ | ⟨c2, hc2, e1⟩
        · rw [e1]; exact .inr (lessL_nil _ _)
        · rw [e1]
          have := (List.pairwise_append.1 h.sorted).2.2 d hd v (by simp)
          exact .inr (lessL_snoc _ _ this)
        · rw [e1]; exact .inr (lessL_last _ (by omega))
    · exact h.stepv c' (by omega)
  · rcases h.from_ t ht with h1 | h1 | ⟨c2, h2, h3⟩
    · exact .inl h1
    · exact .inr (.inl h1)
    · exact .inr (.inr ⟨c2, by omega, h3⟩)
/-- A letter that leads to a new state. -/
theorem BP.push (h : BP k δ s0 dead D v c Q) (hc : c < k) : BP k δ s0 dead D v (c + 1) (Q ++ [(v.1 ++ [97 + (c : Int)], δ v.2 c)]) := by
  have hv := h.ok v (by simp)
  have hall : ∀ t ∈ D ++ v :: Q, lessL t.1 (v.1 ++ [97 + (c : Int)]) = true := fun t ht => by
    rcases h.from_ t ht with e1 | ⟨d, hd, c2, _, e1⟩ | ⟨c2, hc2, e1⟩
    · rw [e1]; exact lessL_nil _ _
    · rw [e1]
      exact lessL_snoc _ _ ((List.pairwise_append.1 h.sorted).2.2 d hd v (by simp))
    · rw [e1]; exact lessL_last _ (by omega)
  have e : D ++ v :: (Q ++ [(v.1 ++ [97 + (c : Int)], δ v.2 c)]) = (D ++ v :: Q) ++ [(v.1 ++ [97 + (c : Int)], δ v.2 c)] := by simp
  have hm : ∀ t, t ∈ D ++ v :: Q → t ∈ D ++ v :: (Q ++ [(v.1 ++ [97 + (c : Int)], δ v.2 c)]) := fun t ht => by rw [e, List.mem_append]; exact .inl ht
  refine ⟨?_, fun t ht => ?_, ?_, fun d hd c' hc' => ?_, fun c' hc' => ?_, fun t ht => ?_⟩
  · rw [e, List.pairwise_append]
    exact ⟨h.sorted, by simp, fun a ha b hb => by simp at hb; subst hb; exact hall a ha⟩
  · rw [e, List.mem_append, List.mem_singleton] at ht
    rcases ht with ht | rfl
    · exact h.ok t ht
    · exact ⟨by rw [runS_snoc, hv.1], isW_snoc hv.2 hc⟩
  · obtain ⟨t, ht, h0⟩ := h.root
    exact ⟨t, hm t ht, h0⟩
  · rcases h.step d hd c' hc' with h1 | ⟨t, ht, h1⟩
    · exact .inl h1
    · exact .inr ⟨t, hm t ht, h1⟩
  · by_cases e2 : c' = c
    · subst e2
      exact .inr ⟨_, by rw [e, List.mem_append]; exact .inr (List.mem_singleton.2 rfl), rfl, .inl rfl⟩
    · rcases h.stepv c' (by omega) with h1 | ⟨t, ht, h1⟩
      · exact .inl h1
      · exact .inr ⟨t, hm t ht, h1⟩
  · rw [e, List.mem_append, List.mem_singleton] at ht
    rcases ht with ht | rfl
    · rcases h.from_ t ht with h1 | h1 | ⟨c2, h2, h3⟩
      · exact .inl h1
      · exact .inr (.inl h1)
      · exact .inr (.inr ⟨c2, by omega, h3⟩)
    · exact .inr (.inr ⟨c, by omega, rfl⟩)
theorem BP.done (h : BP k δ s0 dead D v k Q) : BF k δ s0 dead (D ++ [v]) Q := by
  have e : D ++ [v] ++ Q = D ++ v :: Q := by simp
  refine ⟨by rw [e]; exact h.sorted, by rw [e]; exact h.ok, by rw [e]; exact h.root, fun d hd c hc => ?_, fun t ht => ?_⟩
  · rw [e]
    rw [List.mem_append, List.mem_singleton] at hd
    rcases hd with hd | rfl
    · exact h.step d hd c hc
    · exact h.stepv c hc
  · rw [e] at ht
    rcases h.from_ t ht with h1 | ⟨d, hd, h1⟩ | ⟨c, hc, h1⟩
    · exact .inl h1
    · exact .inr ⟨d, by simp [hd], h1⟩
    · exact .inr ⟨v, by simp, c, hc, h1⟩
theorem BF.cover (h : BF k δ s0 dead D Q) (hd : ∀ s c, dead s → c < k → dead (δ s c)) : ∀ (n : Nat) (x : List Int), x.length = n → isW k x → dead (runS δ s0 x) ∨ (∃ t ∈ D, t.2 = runS δ s0 x ∧ leL t.1 x) ∨ ∃ q ∈ Q, leL q.1 x := by
  intro n
  induction n with
  | zero =>
    intro x hx _
    obtain rfl := List.eq_nil_of_length_eq_zero hx
    obtain ⟨t, ht, h0⟩ := h.root
    have h2 := (h.ok t ht).1
    rw [h0] at h2
    rw [List.mem_append] at ht
    rcases ht with ht | ht
    · exact .inr (.inl ⟨t, ht, h2.symm, .inl h0⟩)
    · exact .inr (.inr ⟨t, ht, .inl h0⟩)
  | succ n ih =>
    intro x hx hw
    obtain ⟨y, b, rfl⟩ : ∃ y b, x = y ++ [b] := ⟨x.dropLast, x.getLast (by intro e; subst e; simp at hx), (List.dropLast_concat_getLast _).symm⟩
    obtain ⟨hwy, c, hc, rfl⟩ := isW_init hw
    rw [runS_snoc]
    rcases ih y (by simpa using hx) hwy with h1 | ⟨t, ht, h1, h2⟩ | ⟨q, hq, h1⟩
    · exact .inl (hd _ c h1 hc)
    · rw [← h1]
      rcases h.step t ht c hc with h3 | ⟨u, hu, h3, h4⟩
      · exact .inl h3
      · have h5 : leL u.1 (y ++ [97 + (c : Int)]) := h4.trans (leL_snoc _ h2)
        rw [List.mem_append] at hu
        rcases hu with hu | hu
        · exact .inr (.inl ⟨u, hu, h3, h5⟩)
        · exact .inr (.inr ⟨u, hu, h5⟩)
    · exact .inr (.inr ⟨q, hq, h1.trans (.inr (lessL_more _ _))⟩)
/-- Nothing waits: no word leads to a bad state. -/
theorem BF.none (h : BF k δ s0 dead D []) (hd : ∀ s c, dead s → c < k → dead (δ s c)) (bad : σ → Prop) (hb : ∀ s, dead s → ¬ bad s) (hD : ∀ d ∈ D, ¬ bad d.2) {x : List Int} (hx : isW k x) : ¬ bad (runS δ s0 x) := by
  rcases h.cover hd _ x rfl hx with h1 | ⟨t, ht, h1, _⟩ | ⟨q, hq, _⟩
  · exact hb _ h1
  · rw [← h1]; exact hD t ht
  · simp at hq
/-- The first that waits leads to a bad state: it is the first such word. -/
theorem BF.least (h : BF k δ s0 dead D (v :: Q)) (hd : ∀ s c, dead s → c < k → dead (δ s c)) (bad : σ → Prop) (hb : ∀ s, dead s → ¬ bad s) (hD : ∀ d ∈ D, ¬ bad d.2) {x : List Int} (hx : isW k x) (hbx : bad (runS δ s0 x)) : leL v.1 x := by
  rcases h.cover hd _ x rfl hx with h1 | ⟨t, ht, h1, _⟩ | ⟨q, hq, h1⟩
  · exact absurd hbx (hb _ h1)
  · rw [← h1] at hbx; exact absurd hbx (hD t ht)
  · rw [List.mem_cons] at hq
    rcases hq with rfl | hq
    · exact h1
    · have h2 := (List.pairwise_append.1 h.sorted).2.1
      exact leL.trans (.inr ((List.pairwise_cons.1 h2).1 q hq)) h1
theorem BF.head (h : BF k δ s0 dead D (v :: Q)) : runS δ s0 v.1 = v.2 ∧ isW k v.1 := h.ok v (by simp)
end Go.Proofs.Ytkemcmeagnggeaa
/- Layer 3: a range over a function whose iterator keeps cells of its own: what the caller pays, and what the iterator. -/
namespace Go.Proofs.Ytkemcmeagnggeaa
open Go.RowKit Go.Shelf
set_option linter.unusedVariables false

/-- What a round that goes on leaves to the iterator: the blocks that it reads, and those from B on. -/
structure KeepUp (Rd : Nat → Prop) (B : Nat) (W W' : World) : Prop where
  os : W'.os = W.os
  tape : W'.tape = W.tape
  output : W'.output = W.output
  size : W.heap.size ≤ W'.heap.size
  same : ∀ k, k < W.heap.size → (Rd k ∨ B ≤ k) → W'.heap[k]? = W.heap[k]?
/-- What stays whatever happens to blocks from B on. -/
def Sure {β : Type} (B : Nat) (J : β → World → Prop) : Prop := ∀ s W W', J s W → Below B W W' → J s W'
theorem Sure.alloc {β : Type} {B : Nat} {J : β → World → Prop} (h : Sure B J) {s : β} {W : World} (hs : J s W) (hB : B ≤ W.heap.size) (o : Obj) : J s (W.alloc o) := h s W _ hs ((Below.refl B W).alloc hB o)
theorem below_put {B : Nat} (W : World) {l : Nat} (hl : B ≤ l) (o : Obj) : Below B W (W.putObj l o) := ⟨rfl, rfl, rfl, by simp, fun k hk => World.putObj_heap_other (by omega)⟩
theorem Sure.put {β : Type} {B : Nat} {J : β → World → Prop} (h : Sure B J) {s : β} {W : World} (hs : J s W) {l : Nat} (hl : B ≤ l) (o : Obj) : J s (W.putObj l o) := h s W _ hs (below_put W hl o)
/-- The iterator's side. -/
def IterOk {α : Type} (n : Nat) (P : Program) (gf : Nat) (lb : Array Value) (encs : α → Array Value) (Rd : Nat → Prop) (S Sp : List α → Prop) (w : World) : Prop :=
  ∀ (l : Nat) (J Jx : List α → World → Prop) (W : World), W.heap.size = w.heap.size + 2 → (∀ k, k < w.heap.size → W.heap[k]? = w.heap[k]?) → Sure W.heap.size J → Sure W.heap.size Jx →
    (∀ pre x W1, J pre W1 → YieldAt Fence.wide n P l (encs x) W1 fun e W' => (e = .returned (.bool true) ∧ J (pre ++ [x]) W' ∧ KeepUp Rd W.heap.size W1 W') ∨ (e = .returned (.bool false) ∧ Jx (pre ++ [x]) W')) →
    J [] W → Calls P gf (#[.func (.yield l) #[] #[]] ++ lb) W fun e W' => (∃ v, e = .returned v) ∧ ((∃ xs, S xs ∧ J xs W') ∨ (∃ pre, Sp pre ∧ Jx pre W'))
/-- How the caller's body is left: on it goes with the world as it is, or it returns, and nothing from B on has changed. -/
def LeaveQ {α : Type} (B : Nat) (I Ix : List α → World → Prop) (xs : List α) (W : World) : Exit → Act → World → Prop
  | .normal, _, W' => W' = W ∧ I xs W'
  | .ret, _, W' => W'.heap.size = W.heap.size ∧ (∀ k, B ≤ k → W'.heap[k]? = W.heap[k]?) ∧ Ix xs W'
  | _, _, _ => False

/-- The caller's side. -/
theorem range_law {α : Type} {n : Nat} {P : Program} {g : Operand} {ps : Array Tmp} {assign body : Code} {Q : Exit → Act → World → Prop} {a : Act} {w : World} {gf : Nat} {lb : Array Value}
    (hg : a.eval g = .func (.func gf) #[] lb) (eg : ∀ args w, (callFunc gf args).run P w = .ok (.enter gf args) w) {encs : α → Array Value} {Rd : Nat → Prop} {S Sp : List α → Prop}
    (hit : IterOk n P gf lb encs Rd S Sp w) (hps : ∀ x, (encs x).size = ps.size) (hRd : ∀ k, Rd k → k < w.heap.size) (I Ix : List α → World → Prop) (hI : Sure w.heap.size I) (hIx : Sure w.heap.size Ix) (h0 : I [] w)
    (hround : ∀ (l : Nat) (pre : List α) (x : α) (W : World), w.heap.size ≤ l → l < W.heap.size → I pre W →
      assign.wpIn (Fence.wide.inRound l) n P (Exit.then (fun a₁ W₁ => Below W.heap.size W W₁ ∧ ∀ o, body.wpIn (Fence.wide.inRound l) n P (LeaveQ w.heap.size I Ix (pre ++ [x]) (W₁.putObj l o)) a₁ (W₁.putObj l o)) (fun _ _ _ => False))
        { tmps := (ps.zip (encs x)).foldl (fun t (p, v) => t.setIfInBounds p v) a.tmps, defers := [] } W)
    (hdone : ∀ (D : Nat) (xs : List α) (W : World), w.heap.size ≤ D → S xs → I xs W → W.heap[D]? = some (.deferred (some [])) → Q .normal { a with defers := { target := .collected D, args := #[] } :: a.defers } W)
    (hstop : ∀ (D : Nat) (pre : List α) (W : World), w.heap.size ≤ D → Sp pre → Ix pre W → W.heap[D]? = some (.deferred (some [])) → Code.ret.wpIn Fence.wide (n + 1) P Q { a with defers := { target := .collected D, args := #[] } :: a.defers } W) :
    (Code.rangeFunc g ps assign body).wpIn Fence.wide (n + 1) P Q a w := by
  refine wpIn_rangeFunc fun fn hfn => ?_
  have hm : w.heap.size < w.heap.size + 1 := by omega
  let R : LoopState → Option Code → Loop := fun st pe => { state := st, pending := pe, fn, tmps := a.tmps, params := ps, assign, body, defers := w.heap.size }
  let W1 : World := (w.alloc (.deferred (some []))).alloc (.loop (R .ready none))
  have hz1 : W1.heap.size = w.heap.size + 2 := by simp [W1]
  have hold : ∀ k, k < w.heap.size → W1.heap[k]? = w.heap[k]? := fun k hk => by
    show ((w.heap.push _).push _)[k]? = _
    rw [Array.getElem?_push, if_neg (by simp; omega), Array.getElem?_push, if_neg (by omega)]
  have hD1 : W1.heap[w.heap.size]? = some (.deferred (some [])) := by
    show ((w.heap.push _).push _)[w.heap.size]? = _
    rw [Array.getElem?_push, if_neg (by simp), Array.getElem?_push, if_pos rfl]
  have hL1 : W1.heap[w.heap.size + 1]? = some (.loop (R .ready none)) := by
    show ((w.heap.push _).push _)[w.heap.size + 1]? = _
    rw [Array.getElem?_push, if_pos (by simp)]
  refine ⟨w.heap.size + 1, [{ target := .collected w.heap.size, args := #[] }], W1, { target := .fn (.func gf) lb, args := #[.func (.yield (w.heap.size + 1)) #[] #[]] }, W1, gf, #[.func (.yield (w.heap.size + 1)) #[] #[]] ++ lb, W1, run_enterLoop_outer _ _ _ _ _, ?_, fun _ _ => trivial, ?_, (fun h => (by cases h)), ?_⟩
  · simp only [resolve, hg]
    simp [go_sem]
  · simp [invoke, go_sem, eg]
  refine callsIn_wide.2 ((hit (w.heap.size + 1)
    (fun pre W => I pre W ∧ W.heap[w.heap.size + 1]? = some (.loop (R .ready none)) ∧ W.heap[w.heap.size]? = some (.deferred (some [])))
    (fun pre W => Ix pre W ∧ W.heap[w.heap.size + 1]? = some (.loop (R .done (some .ret))) ∧ W.heap[w.heap.size]? = some (.deferred (some [])))
    W1 hz1 hold ?_ ?_ ?_ ⟨hI.alloc (hI.alloc h0 (Nat.le_refl _) _) (by simp) _, hL1, hD1⟩).mono ?_)
  · rintro s A B ⟨h1, h2, h3⟩ hb
    exact ⟨hI s A B h1 (hb.mono (by omega)), (hb.block _ (by omega)).trans h2, (hb.block _ (by omega)).trans h3⟩
  · rintro s A B ⟨h1, h2, h3⟩ hb
    exact ⟨hIx s A B h1 (hb.mono (by omega)), (hb.block _ (by omega)).trans h2, (hb.block _ (by omega)).trans h3⟩
  · -- a round
    rintro pre x W ⟨hi, hl, hk⟩
    have hy := run_yield (P := P) (args := encs x) hl (hps x)
    refine ⟨fn, _, assign, body, hy, roundIn_of_wpIn trivial (wpIn_mono (hround (w.heap.size + 1) pre x W (Nat.le_succ _) (Array.getElem?_eq_some_iff.1 hl).1 hi) ?_)⟩
    intro e a₁ W₁ he
    cases e with
    | normal =>
      obtain ⟨hb, hbody⟩ := he
      have hlt : w.heap.size + 1 < W.heap.size := (Array.getElem?_eq_some_iff.1 hl).1
      have hl1 : W₁.heap[w.heap.size + 1]? = some (.loop (R .ready none)) := (hb.block _ hlt).trans hl
      have hk1 : W₁.heap[w.heap.size]? = some (.deferred (some [])) := (hb.block _ (by omega)).trans hk
      have hlt1 : w.heap.size + 1 < W₁.heap.size := Nat.lt_of_lt_of_le hlt hb.size
      refine ⟨_, run_beginRound hl1 rfl, wpIn_mono (hbody _) ?_⟩
      intro e2 a₂ W₂ he2
      have hl2 : (W₁.putObj (w.heap.size + 1) (.loop { R .ready none with state := .busy })).heap[w.heap.size + 1]? = some (.loop { R .ready none with state := .busy }) := World.putObj_heap_same hlt1
      have hk2 : (W₁.putObj (w.heap.size + 1) (.loop { R .ready none with state := .busy })).heap[w.heap.size]? = some (.deferred (some [])) := (World.putObj_heap_other (by omega)).trans hk1
      cases e2 with
      | normal =>
        obtain ⟨rfl, hi2⟩ := he2
        refine ⟨_, _, run_endRound none hl2, .inl ⟨rfl, ⟨hI.put hi2 (Nat.le_succ _) _, World.putObj_heap_same (by simpa using hlt1), (World.putObj_heap_other (by omega)).trans hk2⟩, ?_⟩⟩
        refine ⟨hb.os, hb.tape, hb.output, by simpa using hb.size, fun k hk hor => ?_⟩
        have hne : k ≠ w.heap.size + 1 := fun e => by
          subst e
          rcases hor with h | h
          · have := hRd _ h; omega
          · omega
        exact ((World.putObj_heap_other hne).trans (World.putObj_heap_other hne)).trans (hb.block k hk)
      | ret =>
        obtain ⟨hz2, hs2, hi2⟩ := he2
        have hl3 := (hs2 (w.heap.size + 1) (by omega)).trans hl2
        have hk3 := (hs2 w.heap.size (Nat.le_refl _)).trans hk2
        exact ⟨_, _, run_endRound (some .ret) hl3, .inr ⟨rfl, hIx.put hi2 (Nat.le_succ _) _, World.putObj_heap_same (by rw [hz2]; simpa using hlt1), (World.putObj_heap_other (by omega)).trans hk3⟩⟩
      | exit id => exact he2.elim
      | goto t => exact he2.elim
      | panic ch => exact he2.elim
      | outgrown => exact he2.elim
    | ret => exact he.elim
    | exit id => exact he.elim
    | goto t => exact he.elim
    | panic ch => exact he.elim
    | outgrown => exact he.elim
  · -- behind the iterator
    rintro e W2 ⟨⟨v, rfl⟩, (⟨xs, hS, hi, hl, hk⟩ | ⟨pre, hSp, hi, hl, hk⟩)⟩
    · exact ⟨none, _, run_endLoop hl (by simp [R]), hdone _ xs _ (Nat.le_refl _) hS (hI.put hi (Nat.le_succ _) _) ((World.putObj_heap_other (by omega)).trans hk)⟩
    · exact ⟨some .ret, _, run_endLoop hl (by simp [R]), hstop _ pre _ (Nat.le_refl _) hSp (hIx.put hi (Nat.le_succ _) _) ((World.putObj_heap_other (by omega)).trans hk)⟩
end Go.Proofs.Ytkemcmeagnggeaa
/- Layer 3: the program's after: a step in two words side by side. -/
namespace Go.Proofs.Ytkemcmeagnggeaa
open Go.RowKit
set_option linter.unusedVariables false

theorem Try.infoPair : (Try.prog.info? 80).map (·.size) = some 2 := by kernel_rfl
set_option maxRecDepth 100000 in
set_option maxHeartbeats 1600000 in
theorem after_any (bT t p q c : Nat) (g : Nat → Int) (w : World) (hr : Rw w bT t 496 g) (hp : p < 62) (hq : q < 62) (hc : c < 4) :
    Calls Try.prog 52 #[.pointer (some ⟨bT, 0, none⟩), .agg #[.int .i64 (p : Int), .int .i64 (q : Int)], .int .i64 (c : Int)] w fun e w' =>
      e = .returned (.agg #[.int .i64 (g (p * 4 + c)), .int .i64 (g (248 + q * 4 + c))]) ∧ Below w.heap.size w w' := by
  have HR := Lib.hid hr
  have hlt := hr.lt
  clear hr
  go_enter Try.func52, Try.ntmps52
  go_wp2
  have hW := (Rw.alloc (Rw.alloc HR.out (.cells #[.int .i64 (p : Int), .int .i64 (q : Int)] 80)) (.cells #[.int .i64 0, .int .i64 0] 80))
  have hB : Below w.heap.size w ((w.alloc (.cells #[.int .i64 (p : Int), .int .i64 (q : Int)] 80)).alloc (.cells #[.int .i64 0, .int .i64 0] 80)) := ((Below.refl _ w).alloc (Nat.le_refl _) _).alloc (by simp) _
  have h1 : ((w.alloc (.cells #[.int .i64 (p : Int), .int .i64 (q : Int)] 80)).alloc (.cells #[.int .i64 0, .int .i64 0] 80)).heap[w.heap.size]? = some (.cells #[.int .i64 (p : Int), .int .i64 (q : Int)] 80 (0, 0)) := by
    show ((w.heap.push _).push _)[w.heap.size]? = _
    rw [Array.getElem?_push, if_neg (by simp), Array.getElem?_push, if_pos rfl]
  have h2 : ((w.alloc (.cells #[.int .i64 (p : Int), .int .i64 (q : Int)] 80)).alloc (.cells #[.int .i64 0, .int .i64 0] 80)).heap[w.heap.size + 1]? = some (.cells #[.int .i64 0, .int .i64 0] 80 (0, 0)) := by
    show ((w.heap.push _).push _)[w.heap.size + 1]? = _
    rw [Array.getElem?_push, if_pos (by simp)]
  generalize (w.alloc (.cells #[.int .i64 (p : Int), .int .i64 (q : Int)] 80)).alloc (.cells #[.int .i64 0, .int .i64 0] 80) = W2 at hW hB h1 h2 ⊢
  have c0 : W2.cell? ⟨w.heap.size, 0, none⟩ = some (.int .i64 (p : Int)) := by rw [cell_of_row _ _ _ _ _ _ h1]; rfl
  have c1 : W2.cell? ⟨w.heap.size, 1, none⟩ = some (.int .i64 (q : Int)) := by rw [cell_of_row _ _ _ _ _ _ h1]; rfl
  have c2 := hW.cell (i := p * 4 + c) (by omega)
  have c3 := hW.cell (i := 248 + q * 4 + c) (by omega)
  have hp1 : (p : Int) < 62 := by omega
  have hq1 : (q : Int) < 62 := by omega
  have hc1 : (c : Int) < 4 := by omega
  have H2 := Lib.hid h2
  have HB := Lib.hid hB
  clear h1 h2 hB hW
  go_still_tail 19, (by kernel_rfl)
  clear c0 c1 c2 c3
  change wpList _ _ _ _ _ W2.drew
  have H3 : Hid (W2.drew.heap[w.heap.size + 1]? = some (Obj.cells #[.int .i64 0, .int .i64 0] 80 (0, 0))) := H2.out
  have HB3 : Hid (Below w.heap.size w W2.drew) := HB.out.drew
  generalize W2.drew = W3 at H3 HB3 ⊢
  obtain ⟨x, hx⟩ : ∃ x, x = g (p * 4 + c) := ⟨_, rfl⟩
  obtain ⟨y, hy⟩ : ∃ y, y = g (248 + q * 4 + c) := ⟨_, rfl⟩
  rw [← hx, ← hy]
  have HX := Lib.hid hx
  have HY := Lib.hid hy
  clear hx hy
  have HINF : Hid ((Try.prog.info? 80).map (·.size) = some (#[Value.int .i64 x, Value.int .i64 y] : Array Value).size) := Try.infoPair
  refine wpList_store_row (by rfl) 80 (.tmp 6) (.tmp 25) (by rfl) (w.heap.size + 1) _ (by rfl) (by rfl) 80 _ H3.out HINF.out (by rfl) (by simp [Value.oneCell']) ?_
  go_wp2
  refine bodyPost_ret (results_cell_row (by rfl) _ _ (w.heap.size + 1) 80 _ (0, 0) _ (by rfl) (setRow_heap _ _ _ _ _ _ H3.out) Try.underlying80 (by rfl) HINF.out) (by rfl) ⟨by rw [← HX.out, ← HY.out], ?_⟩
  have HBL := HB3
  exact ⟨HBL.out.os, HBL.out.tape, HBL.out.output, by simpa [World.setRow] using HBL.out.size, fun k hk => (setRow_other _ _ _ _ (by omega)).trans (HBL.out.block k hk)⟩
end Go.Proofs.Ytkemcmeagnggeaa
