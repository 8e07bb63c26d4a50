import Derived.Test.YtmbdjjkgjnemiaaT01
import Derived.Test.YtmbdjjkgjnemiaaT02
import Derived.Test.YtmbdjjkgjnemiaaT03
/- Layer 6, mathematics: nodes that stand for the same tree; refining classes. -/
namespace Go.Proofs.Ytmbdjjkgjnemiaa
open Go.RowKit
set_option linter.unusedVariables false

def StE (N : List Nd) (R : Pt → Prop) (p : Pt) : Prop := (nd N p.1).k = (nd N p.2).k ∧ ((nd N p.1).k < 4 ∨ (R ((nd N p.1).a, (nd N p.2).a) ∧ R ((nd N p.1).b, (nd N p.2).b)))
def CloE (N : List Nd) (R : Pt → Prop) : Prop := ∀ p, R p → StE N R p
def EqT (N : List Nd) (p : Pt) : Prop := ∃ R, CloE N R ∧ R p
theorem StE.mono {N : List Nd} {R S : Pt → Prop} {p : Pt} (h : StE N R p) (hRS : ∀ q, R q → S q) : StE N S p := ⟨h.1, h.2.imp id fun k => ⟨hRS _ k.1, hRS _ k.2⟩⟩
theorem eqT_clo (N : List Nd) : CloE N (EqT N) := fun p ⟨R, hR, hp⟩ => (hR p hp).mono fun q hq => ⟨R, hR, hq⟩
theorem eqT_refl (N : List Nd) (i : Nat) : EqT N (i, i) := ⟨fun p => p.1 = p.2, fun p hp => by
  rcases Nat.lt_or_ge (nd N p.1).k 4 with h | h
  · exact ⟨by rw [hp], .inl h⟩
  · exact ⟨by rw [hp], .inr ⟨by show (nd N p.1).a = (nd N p.2).a; rw [hp], by show (nd N p.1).b = (nd N p.2).b; rw [hp]⟩⟩, rfl⟩
theorem eqT_symm {N : List Nd} {i j : Nat} (h : EqT N (i, j)) : EqT N (j, i) := ⟨fun p => EqT N (p.2, p.1), fun p hp => by
  have := eqT_clo N _ hp
  refine ⟨this.1.symm, ?_⟩
  rcases this.2 with h | h
  · left; rw [← this.1]; exact h
  · exact .inr h, h⟩
theorem eqT_trans {N : List Nd} {i j k : Nat} (h : EqT N (i, j)) (h' : EqT N (j, k)) : EqT N (i, k) := ⟨fun p => ∃ m, EqT N (p.1, m) ∧ EqT N (m, p.2), fun p ⟨m, h1, h2⟩ => by
  have h1 := eqT_clo N _ h1
  have h2 := eqT_clo N _ h2
  refine ⟨h1.1.trans h2.1, ?_⟩
  rcases h1.2 with h | h
  · exact .inl h
  · rcases h2.2 with h' | h'
    · left; rw [h1.1]; exact h'
    · exact .inr ⟨⟨_, h.1, h'.1⟩, ⟨_, h.2, h'.2⟩⟩, ⟨j, h, h'⟩⟩
theorem eqT_iff {N : List Nd} {p : Pt} : EqT N p ↔ StE N (EqT N) p := by
  refine ⟨eqT_clo N p, fun h => ⟨fun q => EqT N q ∨ q = p, fun q hq => ?_, .inr rfl⟩⟩
  rcases hq with hq | rfl
  · exact (eqT_clo N q hq).mono fun _ => .inl
  · exact h.mono fun _ => .inl
abbrev Tr3 : Type := Nat × (Nat × Nat)
/-- What is said of a node, given the classes. -/
def keyT (N : List Nd) (cl : Nat → Nat) (i : Nat) : Tr3 := if 4 ≤ (nd N i).k then ((nd N i).k, (cl (nd N i).a, cl (nd N i).b)) else ((nd N i).k, (0, 0))
/-- The first one below n of which h says x. -/
def fndF (h : Nat → Tr3) (x : Tr3) : Nat → Option Nat
  | 0 => none
  | n + 1 => match fndF h x n with
    | some j => some j
    | none => if h n = x then some n else none
theorem fnd_some {h : Nat → Tr3} {x : Tr3} : ∀ {n j : Nat}, fndF h x n = some j → j < n ∧ h j = x ∧ ∀ i, i < j → h i ≠ x
  | 0, j, e => by cases e
  | n + 1, j, e => by
    unfold fndF at e
    rcases hf : fndF h x n with _ | j'
    · rw [hf] at e
      dsimp only at e
      by_cases hx : h n = x
      · rw [if_pos hx] at e
        injection e with e
        subst e
        refine ⟨by omega, hx, fun i hi hxi => ?_⟩
        have : ∀ m, fndF h x m = none → ∀ i, i < m → h i ≠ x := by
          intro m
          induction m with
          | zero => intro _ i hi; omega
          | succ m ih =>
            intro hm i hi
            unfold fndF at hm
            rcases hg : fndF h x m with _ | y
            · rw [hg] at hm
              dsimp only at hm
              by_cases e : i = m
              · subst e; intro hh; rw [if_pos hh] at hm; cases hm
              · exact ih hg i (by omega)
            · rw [hg] at hm; cases hm
        exact this n hf i hi hxi
      · rw [if_neg hx] at e; cases e
    · rw [hf] at e
      injection e with e
      subst e
      obtain ⟨h1, h2, h3⟩ := fnd_some hf
      exact ⟨by omega, h2, h3⟩
theorem fnd_none {h : Nat → Tr3} {x : Tr3} : ∀ {n : Nat}, fndF h x n = none → ∀ i, i < n → h i ≠ x
  | 0, _, i, hi => by omega
  | n + 1, hm, i, hi => by
    unfold fndF at hm
    rcases hg : fndF h x n with _ | y
    · rw [hg] at hm
      dsimp only at hm
      by_cases e : i = n
      · subst e; intro hh; rw [if_pos hh] at hm; cases hm
      · exact fnd_none hg i (by omega)
    · rw [hg] at hm; cases hm
/-- The first one that is like i. -/
def fstF (h : Nat → Tr3) (i : Nat) : Nat := (fndF h (h i) (i + 1)).getD 0
theorem fst_is (h : Nat → Tr3) (i : Nat) : fstF h i ≤ i ∧ h (fstF h i) = h i ∧ ∀ j, j < fstF h i → h j ≠ h i := by
  unfold fstF
  rcases hf : fndF h (h i) (i + 1) with _ | j
  · exact absurd rfl (fnd_none hf i (by omega))
  · obtain ⟨h1, h2, h3⟩ := fnd_some hf
    exact ⟨by simp; omega, h2, h3⟩
theorem fst_eq {h : Nat → Tr3} {i j : Nat} : fstF h i = fstF h j ↔ h i = h j := by
  constructor
  · intro e
    rw [← (fst_is h i).2.1, e, (fst_is h j).2.1]
  · intro e
    obtain ⟨_, h2, h3⟩ := fst_is h i
    obtain ⟨_, g2, g3⟩ := fst_is h j
    rcases Nat.lt_trichotomy (fstF h i) (fstF h j) with l | l | l
    · exact absurd (h2.trans e) (g3 _ l)
    · exact l
    · exact absurd (g2.trans e.symm) (h3 _ l)
theorem fst_idem (h : Nat → Tr3) (i : Nat) : fstF h (fstF h i) = fstF h i := fst_eq.2 (fst_is h i).2.1
/-- How many below n are the first of their class. -/
def cntF (u : Nat → Nat) : Nat → Nat
  | 0 => 0
  | n + 1 => if u n = n then cntF u n + 1 else cntF u n
theorem cnt_le (u : Nat → Nat) : ∀ n, cntF u n ≤ n
  | 0 => Nat.le_refl _
  | n + 1 => by
    have := cnt_le u n
    unfold cntF
    split <;> omega
theorem cnt_mono {u v : Nat → Nat} : ∀ n, (∀ i, i < n → u i = i → v i = i) → cntF u n ≤ cntF v n ∧ (cntF u n = cntF v n → ∀ i, i < n → v i = i → u i = i)
  | 0, _ => ⟨Nat.le_refl _, fun _ i hi => by omega⟩
  | n + 1, h => by
    obtain ⟨h1, h2⟩ := cnt_mono n fun i hi => h i (by omega)
    unfold cntF
    by_cases hu : u n = n
    · have hv := h n (by omega) hu
      rw [if_pos hu, if_pos hv]
      refine ⟨by omega, fun e i hi hvi => ?_⟩
      by_cases ei : i = n
      · rw [ei]; exact hu
      · exact h2 (by omega) i (by omega) hvi
    · rw [if_neg hu]
      by_cases hv : v n = n
      · rw [if_pos hv]
        exact ⟨by omega, fun e => by omega⟩
      · rw [if_neg hv]
        refine ⟨h1, fun e i hi hvi => ?_⟩
        by_cases ei : i = n
        · rw [ei] at hvi; exact absurd hvi hv
        · exact h2 e i (by omega) hvi
/-- What holds of the classes between two rounds. -/
structure RfI (N : List Nd) (cl : Nat → Nat) (m : Nat) : Prop where
  le : ∀ i, i < N.length → cl i ≤ i
  eqv : ∀ i j, i < N.length → j < N.length → EqT N (i, j) → cl i = cl j
  mono : ∀ i j, i < N.length → j < N.length → keyT N cl i = keyT N cl j → cl i = cl j
  cnt : (m = 0 ∧ ∀ i, i < N.length → cl i = 0) ∨ ((∀ i, i < N.length → cl (cl i) = cl i) ∧ m = cntF cl N.length)
theorem RfI.start (N : List Nd) : RfI N (fun _ => 0) 0 := ⟨fun _ _ => Nat.zero_le _, fun _ _ _ _ _ => rfl, fun _ _ _ _ _ => rfl, .inl ⟨rfl, fun _ _ => rfl⟩⟩
theorem key_of_eqT {N : List Nd} (hok : OkN N) {cl : Nat → Nat} (h : ∀ i j, i < N.length → j < N.length → EqT N (i, j) → cl i = cl j) {i j : Nat} (hi : i < N.length) (hj : j < N.length) (e : EqT N (i, j)) : keyT N cl i = keyT N cl j := by
  have := eqT_clo N _ e
  unfold keyT
  have hk : (nd N i).k = (nd N j).k := this.1
  rcases this.2 with h4 | ⟨ha, hb⟩
  · have h4 : (nd N i).k < 4 := h4
    rw [if_neg (by omega), if_neg (by omega), hk]
  · by_cases h4 : 4 ≤ (nd N i).k
    · rw [if_pos h4, if_pos (by omega), hk, h _ _ (hok.a i hi) (hok.a j hj) ha, h _ _ (hok.b i hi) (hok.b j hj) hb]
    · rw [if_neg h4, if_neg (by omega), hk]
theorem key_mono {N : List Nd} (hok : OkN N) {u v : Nat → Nat} (h : ∀ i j, i < N.length → j < N.length → v i = v j → u i = u j) {i j : Nat} (hi : i < N.length) (hj : j < N.length) (e : keyT N v i = keyT N v j) : keyT N u i = keyT N u j := by
  unfold keyT at e ⊢
  by_cases h4 : 4 ≤ (nd N i).k
  · rw [if_pos h4] at e ⊢
    by_cases h5 : 4 ≤ (nd N j).k
    · rw [if_pos h5] at e ⊢
      injection e with e1 e2
      injection e2 with e2 e3
      rw [e1, h _ _ (hok.a i hi) (hok.a j hj) e2, h _ _ (hok.b i hi) (hok.b j hj) e3]
    · rw [if_neg h5] at e
      injection e with e1 _
      omega
  · rw [if_neg h4] at e ⊢
    by_cases h5 : 4 ≤ (nd N j).k
    · rw [if_pos h5] at e
      injection e with e1 _
      omega
    · rw [if_neg h5] at e ⊢
      exact e
theorem RfI.step {N : List Nd} {cl : Nat → Nat} {m : Nat} (h : RfI N cl m) (hok : OkN N) : RfI N (fstF (keyT N cl)) (cntF (fstF (keyT N cl)) N.length) :=
  ⟨fun i _ => (fst_is _ i).1, fun i j hi hj e => fst_eq.2 (key_of_eqT hok h.eqv hi hj e), fun i j hi hj e => fst_eq.2 (key_mono hok (fun i j hi hj e => h.mono i j hi hj (fst_eq.1 e)) hi hj e), .inr ⟨fun i _ => fst_idem _ i, rfl⟩⟩
theorem RfI.fix {N : List Nd} {cl : Nat → Nat} {m : Nat} (h : RfI N cl m) : ∀ i, i < N.length → cl i = i → fstF (keyT N cl) i = i := fun i hi hu => by
  obtain ⟨h1, h2, h3⟩ := fst_is (keyT N cl) i
  have hj : fstF (keyT N cl) i < N.length := by omega
  have := h.mono _ _ hj hi h2
  have hle := h.le _ hj
  rw [this, hu] at hle
  omega
theorem RfI.grow {N : List Nd} {cl : Nat → Nat} {m : Nat} (h : RfI N cl m) (hok : OkN N) : m ≤ cntF (fstF (keyT N cl)) N.length := by
  rcases h.cnt with ⟨e, _⟩ | ⟨_, e⟩
  · omega
  · rw [e]; exact (cnt_mono N.length h.fix).1
/-- The classes of the same trees, each by its first node. -/
structure IsCls (N : List Nd) (c : Nat → Nat) : Prop where
  le : ∀ i, i < N.length → c i ≤ i
  iff : ∀ i j, i < N.length → j < N.length → (c i = c j ↔ EqT N (i, j))
  idem : ∀ i, i < N.length → c (c i) = c i
theorem cnt_pos {u : Nat → Nat} (h0 : u 0 = 0) : ∀ {n}, 1 ≤ n → 1 ≤ cntF u n
  | 0, h => by omega
  | n + 1, _ => by
    unfold cntF
    by_cases hn : 1 ≤ n
    · have := cnt_pos h0 hn
      split <;> omega
    · obtain rfl : n = 0 := by omega
      rw [if_pos h0]; omega
theorem RfI.done {N : List Nd} {cl : Nat → Nat} {m : Nat} (h : RfI N cl m) (hok : OkN N) (hm : m = cntF (fstF (keyT N cl)) N.length) : IsCls N (fstF (keyT N cl)) := by
  have hs := h.step hok
  rcases h.cnt with ⟨e, _⟩ | ⟨hid, e⟩
  · have := cnt_pos (u := fstF (keyT N cl)) (by have := (fst_is (keyT N cl) 0).1; omega) hok.pos
    omega
  · have hfix := (cnt_mono N.length h.fix).2 (by rw [← e]; exact hm)
    have same : ∀ i, i < N.length → fstF (keyT N cl) i = cl i := fun i hi => by
      obtain ⟨h1, h2, _⟩ := fst_is (keyT N cl) i
      have hj : fstF (keyT N cl) i < N.length := by omega
      have h4 := hfix _ hj (fst_idem _ i)
      rw [← h4]
      exact h.mono _ _ hj hi h2
    refine ⟨hs.le, fun i j hi hj => ⟨fun e => ?_, hs.eqv i j hi hj⟩, fun i _ => fst_idem _ i⟩
    refine ⟨fun p => inP N.length p ∧ cl p.1 = cl p.2, fun p ⟨hp, hpe⟩ => ?_, ⟨hi, hj⟩, by rw [same i hi, same j hj] at e; exact e⟩
    have hk : keyT N cl p.1 = keyT N cl p.2 := fst_eq.1 (by rw [same _ hp.1, same _ hp.2]; exact hpe)
    unfold keyT at hk
    by_cases h4 : 4 ≤ (nd N p.1).k
    · rw [if_pos h4] at hk
      by_cases h5 : 4 ≤ (nd N p.2).k
      · rw [if_pos h5] at hk
        injection hk with e1 e2
        injection e2 with e2 e3
        exact ⟨e1, .inr ⟨⟨⟨hok.a _ hp.1, hok.a _ hp.2⟩, e2⟩, ⟨hok.b _ hp.1, hok.b _ hp.2⟩, e3⟩⟩
      · rw [if_neg h5] at hk
        injection hk with e1 _
        omega
    · rw [if_neg h4] at hk
      by_cases h5 : 4 ≤ (nd N p.2).k
      · rw [if_pos h5] at hk
        injection hk with e1 _
        omega
      · rw [if_neg h5] at hk
        injection hk with e1 _
        exact ⟨e1, .inl (by omega)⟩
end Go.Proofs.Ytmbdjjkgjnemiaa
/- Layer 6: maps with their number of entries; the key of a node (the closure of alike). -/
namespace Go.Proofs.Ytmbdjjkgjnemiaa
open Go.RowKit Go.Maps Go.ChangeShapes Go.WideMaps
set_option linter.unusedVariables false

section
variable {kt : TypeId} {S : Type} (E : KeyEnc kt S)
/-- Block b is a map of exactly c entries that holds what f says. -/
def KC (w : World) (e : TypeId) (b c : Nat) (f : S → Option Lit) : Prop := ∃ D : DataW Unit, w.ownsMap Try.prog kt (plainElem (H := Unit) Try.prog e) b c D ∧ Rdk E D f ∧ Maps.size D = c
theorem KC.made (w : World) (e : TypeId) : KC E (w.alloc (.map #[] 0)) e w.heap.size 0 (fun _ => none) := ⟨_, World.ownsMap_made _ _ _ _, Rdk.empty E, rfl⟩
variable {E}
theorem KC.km {w : World} {e : TypeId} {b c : Nat} {f : S → Option Lit} (h : KC E w e b c f) : KM E w e b c f := by obtain ⟨D, h1, h2, _⟩ := h; exact ⟨D, h1, h2⟩
theorem KC.lt {w : World} {e : TypeId} {b c : Nat} {f : S → Option Lit} (h : KC E w e b c f) : b < w.heap.size := h.km.lt
theorem KC.heap {w w' : World} {e : TypeId} {b c : Nat} {f : S → Option Lit} (h : KC E w e b c f) (hb : w'.heap[b]? = w.heap[b]?) : KC E w' e b c f := by
  obtain ⟨D, ⟨es, clock, h1, h2⟩, hr⟩ := h
  exact ⟨D, ⟨es, clock, hb.trans h1, h2⟩, hr⟩
theorem KC.below {w w' : World} {B : Nat} {e : TypeId} {b c : Nat} {f : S → Option Lit} (h : KC E w e b c f) (k : Below B w w') (hb : b < B) : KC E w' e b c f := h.heap (k.block b hb)
theorem KC.len {w : World} {e : TypeId} {b c : Nat} {f : S → Option Lit} (h : KC E w e b c f) (t ty : TypeId) (ht : Try.prog.underlying t = some (.map kt e)) : (Builtin.len_ #[t] ty #[.map (some b)]).run Try.prog w = .ok (.int .i64 (c : Int)) w := by
  obtain ⟨D, h1, _, h3⟩ := h
  have := h1.len ht ty
  rw [h3] at this
  exact this
theorem KC.store [DecidableEq S] {w : World} {e : TypeId} {b c : Nat} {F : S → Option Lit} (h : KC E w e b c F) (t : TypeId) (ht : Try.prog.underlying t = some (.map kt e)) (hn : c ≤ 1099511627776) {k : S} (hk : E.ok k) (hF : F k = none) (val : Value) (l : Lit) (hl : plainElem (H := Unit) Try.prog e val = some (.lit l, [])) :
    ∃ w', (Instr.mapUpdate t (.map (some b)) (E.kv k) val).run Try.prog w = .ok () w' ∧ KC E w' e b (c + 1) (putK F k l) ∧ World.grownBy w w' (some b) := by
  obtain ⟨D, hD, hR, hs⟩ := h
  obtain ⟨w', h1, h2, h3⟩ := hD.update E.keyed ht (by unfold maxLen; omega) (E.key k hk) hl
  refine ⟨w', h1, ⟨_, h2, hR.put E hk l, ?_⟩, h3⟩
  rw [Maps.size_put (hD.tidy E.keyed), (hR.2 k hk).1, hF, hs]
  rfl
end
/-- A function on the first n numbers as a list. -/
def tabL (n : Nat) (f : Nat → Nat) : List Int := (List.range n).map fun i => (f i : Int)
theorem tabL_len (n : Nat) (f : Nat → Nat) : (tabL n f).length = n := by simp [tabL]
theorem tabL_at {n : Nat} (f : Nat → Nat) {i : Nat} (h : i < n) : (tabL n f)[i]?.getD 0 = (f i : Int) := by
  unfold tabL
  rw [List.getElem?_map, List.getElem?_range h]; rfl
theorem tabL_congr {n : Nat} {f g : Nat → Nat} (h : ∀ i, i < n → f i = g i) : tabL n f = tabL n g := List.map_congr_left fun i hi => by rw [h i (List.mem_range.1 hi)]
theorem tabL_set {n : Nat} (f : Nat → Nat) (j v : Nat) (hj : j < n) : (tabL n f).set j (v : Int) = tabL n (fun i => if i = j then v else f i) := by
  unfold tabL
  apply List.ext_getElem
  · simp
  · intro i h1 h2
    rw [List.getElem_set]
    simp only [List.getElem_map, List.getElem_range]
    by_cases e : j = i
    · subst e; simp
    · rw [if_neg e, if_neg (Ne.symm e)]
theorem hasB'_nat (k : Nat) (h : k < 6) : hasB' (k : Int) = decide (4 ≤ k) := by
  unfold hasB'
  by_cases h4 : 4 ≤ k
  · rcases (by omega : k = 4 ∨ k = 5) with rfl | rfl <;> rfl
  · rw [decide_eq_false (p := (k : Int) = 4) (by omega), decide_eq_false (p := (k : Int) = 5) (by omega), decide_eq_false h4]; rfl
theorem Try.sizeTr : (Try.prog.info? 57).map (·.size) = some 3 := by kernel_rfl
set_option maxRecDepth 100000 in
set_option maxHeartbeats 6400000 in
theorem key_any (N : List Nd) (A : Option Addr) (n c i s : Nat) (C : Option Addr) (d : Nat) (cl : Nat → Nat) (w : World) (hN : Nl w A n c N) (hok : OkN N) (hi : i < n) (hC : Sl w C n d (tabL n cl)) (hb : w.cell? ⟨s, 0, none⟩ = some (.slice A n c)) (hs : s < w.heap.size) :
    Calls Try.prog 60 #[.int .i64 (i : Int), .slice C n d, .pointer (some ⟨s, 0, none⟩)] w fun e w' => e = .returned (triV (keyT N cl i)) ∧ Below w.heap.size w w' := by
  have hkp := hok.kind i (by rw [hN.len]; exact hi)
  have hap := hok.a i (by rw [hN.len]; exact hi)
  have hbp := hok.b i (by rw [hN.len]; exact hi)
  rw [hN.len] at hap hbp
  have HK : Hid (keyT N cl i = if 4 ≤ (nd N i).k then ((nd N i).k, (cl (nd N i).a, cl (nd N i).b)) else ((nd N i).k, (0, 0))) := rfl
  obtain ⟨W, hW⟩ : ∃ W, W = w.alloc (.cells #[.int .i64 0, .int .i64 0, .int .i64 0] 57) := ⟨_, rfl⟩
  have HB : Hid (Below w.heap.size w W) := by rw [hW]; exact (Below.refl _ w).alloc (Nat.le_refl _) _
  have hbig := hN.big
  obtain ⟨b, off, rfl, hbl, n0, n1, n2⟩ := (hN.below HB.out (Nat.le_refl _)).rows i hi
  have hbox := (HB.out.cell (p := ⟨s, 0, none⟩) hs).trans hb
  have HR : Hid (W.heap[w.heap.size]? = some (Obj.cells #[.int .i64 0, .int .i64 0, .int .i64 0] 57 (0, 0))) := by rw [hW]; exact heap_alloc_new _ _
  have HSC := Lib.hid (hC.below HB.out (Nat.le_refl _))
  have HW := Lib.hid hW
  clear hW hN hok hC hb
  generalize nd N i = x at *
  obtain ⟨k, p, q⟩ := x
  dsimp only at n0 n1 n2 hkp hap hbp HK
  have i1 : (i : Int) < (n : Int) := by omega
  obtain ⟨W2, hW2⟩ : ∃ W2, W2 = W.alloc (.cells #[.int .i64 (k : Int), .int .i64 (p : Int), .int .i64 (q : Int)] 59) := ⟨_, rfl⟩
  have HB2 : Hid (Below W.heap.size W W2) := by rw [hW2]; exact (Below.refl _ W).alloc (Nat.le_refl _) _
  have H2 : Hid (W2.heap[W.heap.size]? = some (Obj.cells #[.int .i64 (k : Int), .int .i64 (p : Int), .int .i64 (q : Int)] 59 (0, 0))) := by rw [hW2]; exact heap_alloc_new _ _
  have hWs : W.heap.size = w.heap.size + 1 := by rw [HW.out]; simp
  have HW2 := Lib.hid hW2
  clear hW2
  by_cases h4 : 4 ≤ k
  · have HHP := Lib.hid (fun W => hasParts_is ⟨k, p, q⟩ true W (by rw [hasB'_nat k hkp]; exact decide_eq_true h4))
    rw [if_pos h4] at HK
    obtain ⟨v1, hv1⟩ : ∃ v, v = cl p := ⟨_, rfl⟩
    obtain ⟨v2, hv2⟩ : ∃ v, v = cl q := ⟨_, rfl⟩
    rw [← hv1, ← hv2] at HK
    obtain ⟨cb, co, rfl, hcc⟩ := HSC.out.cells (by omega)
    have c1 := hcc p hap
    have c2 := hcc q hbp
    rw [tabL_at _ hap, ← hv1] at c1
    rw [tabL_at _ hbp, ← hv2] at c2
    have C1 := Lib.hid c1
    have C2 := Lib.hid c2
    have hcl := Lib.hid (lt_of_cell c1)
    have hV : triV (keyT N cl i) = .agg #[.int .i64 (k : Int), .int .i64 (v1 : Int), .int .i64 (v2 : Int)] := by rw [HK.out]; rfl
    have HV := Lib.hid hV
    have HI3 : Hid ((Try.prog.info? 57).map (·.size) = some (#[Value.int .i64 (k : Int), Value.int .i64 (v1 : Int), Value.int .i64 (v2 : Int)] : Array Value).size) := Try.sizeTr
    have j1 : (p : Int) < (n : Int) := by omega
    have j2 : (q : Int) < (n : Int) := by omega
    clear h4 hv1 hv2 hcc c1 c2 hV
    rw [HW.out] at n0 n1 n2 hbox
    go_enter Try.func60, Try.ntmps60
    go_wp2_with (go_at_call 51; rw [← HW.out, ← HW2.out]; refine (HHP.out _).mono ?_; rintro e w3 ⟨rfl, hb3⟩)
    have HB3 : Hid (Below W.heap.size W w3.drew) := (HB2.out.trans (hb3.mono HB2.out.size)).drew
    have hd : Below W2.heap.size W2 w3.drew := hb3.drew
    have h2' := (hd.block _ (Array.getElem?_eq_some_iff.1 H2.out).1).trans H2.out
    rw [hWs] at h2'
    have d0 := cell_in h2' (i := 0) rfl
    have d1 := cell_in h2' (i := 1) rfl
    have d2 := cell_in h2' (i := 2) rfl
    have e1 := (HB3.out.cell (p := ⟨cb, co + p, none⟩) hcl.out).trans C1.out
    have e2 := (HB3.out.cell (p := ⟨cb, co + q, none⟩) hcl.out).trans C2.out
    clear h2' hd hb3
    go_still_tail 13, (by kernel_rfl)
    change wpList _ _ _ _ _ w3.drew
    have HR3 : Hid (w3.drew.heap[w.heap.size]? = some (Obj.cells #[.int .i64 0, .int .i64 0, .int .i64 0] 57 (0, 0))) := (HB3.out.block _ (by omega)).trans HR.out
    clear d0 d1 d2 e1 e2
    generalize w3.drew = w4 at HR3 HB3 ⊢
    refine wpList_store_row (by rfl) 57 (.tmp 5) (.tmp 29) (by rfl) w.heap.size _ (by rfl) (by rfl) 57 _ HR3.out HI3.out (by rfl) (by simp [Value.oneCell']) ?_
    go_wp2
    refine bodyPost_ret (results_cell_row (by rfl) _ _ w.heap.size 57 _ (0, 0) _ (by rfl) (setRow_heap _ _ _ _ _ _ HR3.out) Try.underlying57 (by rfl) HI3.out) (by rfl) ⟨by rw [HV.out], ?_⟩
    obtain ⟨W5, hW5, _, _, r5⟩ := row_set #[Value.int .i64 (k : Int), Value.int .i64 (v1 : Int), Value.int .i64 (v2 : Int)] HR3.out
    rw [← hW5]
    exact HB.out.trans ((HB3.out.mono (by omega)).trans (r5 _ (Nat.le_refl _)))
  · have HHP := Lib.hid (fun W => hasParts_is ⟨k, p, q⟩ false W (by rw [hasB'_nat k hkp]; exact decide_eq_false h4))
    rw [if_neg h4] at HK
    have hV : triV (keyT N cl i) = .agg #[.int .i64 (k : Int), .int .i64 0, .int .i64 0] := by rw [HK.out]; rfl
    have HV := Lib.hid hV
    have HI3 : Hid ((Try.prog.info? 57).map (·.size) = some (#[Value.int .i64 (k : Int), Value.int .i64 0, Value.int .i64 0] : Array Value).size) := Try.sizeTr
    clear h4 hV
    rw [HW.out] at n0 n1 n2 hbox
    go_enter Try.func60, Try.ntmps60
    go_wp2_with (first
      | (go_at_call 51; rw [← HW.out, ← HW2.out]; refine (HHP.out _).mono ?_; rintro e w3 ⟨rfl, hb3⟩; have HB3 : Hid (Below W.heap.size W w3) := (HB2.out.trans (hb3.mono HB2.out.size)); have h2' := (hb3.block _ (Array.getElem?_eq_some_iff.1 H2.out).1).trans H2.out; rw [hWs] at h2'; have d0 := cell_in h2' (i := 0) rfl; have HR3 : Hid (w3.heap[w.heap.size]? = some (Obj.cells #[.int .i64 0, .int .i64 0, .int .i64 0] 57 (0, 0))) := (HB3.out.block _ (by rw [hWs]; omega)).trans HR.out; clear hb3 h2')
      | (refine wpList_store_row (by rfl) 57 (.tmp 5) (.tmp 16) (by rfl) w.heap.size _ (by rfl) (by rfl) 57 _ HR3.out HI3.out (by rfl) (by simp [Value.oneCell']) ?_))
    refine bodyPost_ret (results_cell_row (by rfl) _ _ w.heap.size 57 _ (0, 0) _ (by rfl) (setRow_heap _ _ _ _ _ _ HR3.out) Try.underlying57 (by rfl) HI3.out) (by rfl) ⟨by rw [HV.out], ?_⟩
    obtain ⟨W5, hW5, _, _, r5⟩ := row_set #[Value.int .i64 (k : Int), Value.int .i64 0, Value.int .i64 0] HR3.out
    rw [← hW5]
    exact HB.out.trans ((HB3.out.mono (by omega)).trans (r5 _ (Nat.le_refl _)))
end Go.Proofs.Ytmbdjjkgjnemiaa
/- Layer 6: refine at the keys of nodes; alike. -/
namespace Go.Proofs.Ytmbdjjkgjnemiaa
open Go.RowKit Go.Maps
set_option linter.unusedVariables false

/-- The firsts of the keys of the first k nodes. -/
def fsM (h : Nat → Tr3) (k : Nat) : Tr3 → Option Lit := fun x => (fndF h x k).map fun (j : Nat) => Lit.int .i64 (j : Int)
theorem fnd_succ (h : Nat → Tr3) (x : Tr3) (k : Nat) : fndF h x (k + 1) = match fndF h x k with | some j => some j | none => if h k = x then some k else none := rfl
theorem fsM_same {h : Nat → Tr3} {k j : Nat} (hj : fndF h (h k) k = some j) : fsM h (k + 1) = fsM h k := by
  funext x
  unfold fsM
  rw [fnd_succ]
  rcases hx : fndF h x k with _ | y
  · dsimp only
    by_cases e : h k = x
    · rw [← e, hj] at hx; cases hx
    · rw [if_neg e]
  · rfl
theorem fsM_put {h : Nat → Tr3} {k : Nat} (hj : fndF h (h k) k = none) : fsM h (k + 1) = putK (fsM h k) (h k) (.int .i64 (k : Int)) := by
  funext x
  unfold fsM putK
  rw [fnd_succ]
  by_cases e : x = h k
  · subst e
    rw [if_pos rfl, hj]
    dsimp only
    rw [if_pos rfl]; rfl
  · rw [if_neg e]
    show _ = (fndF h x k).map fun (j : Nat) => Lit.int .i64 (j : Int)
    rcases hx : fndF h x k with _ | y
    · dsimp only
      rw [if_neg (fun e' => e e'.symm)]
    · rfl
theorem fst_found {h : Nat → Tr3} {k j : Nat} (hj : fndF h (h k) k = some j) : fstF h k = j ∧ j < k := by
  unfold fstF
  rw [fnd_succ, hj]
  exact ⟨rfl, (fnd_some hj).1⟩
theorem fst_new {h : Nat → Tr3} {k : Nat} (hj : fndF h (h k) k = none) : fstF h k = k := by
  unfold fstF
  rw [fnd_succ, hj]
  dsimp only
  rw [if_pos rfl]; rfl
theorem cnt_succ (u : Nat → Nat) (n : Nat) : cntF u (n + 1) = if u n = n then cntF u n + 1 else cntF u n := rfl
def upTo (f : Nat → Nat) (k : Nat) : Nat → Nat := fun i => if i < k then f i else 0
theorem upTo_succ (f : Nat → Nat) (k : Nat) : (fun i => if i = k then f k else upTo f k i) = upTo f (k + 1) := by
  funext i
  unfold upTo
  by_cases e : i = k
  · subst e; rw [if_pos rfl, if_pos (by omega)]
  · rw [if_neg e]
    by_cases h : i < k
    · rw [if_pos h, if_pos (by omega)]
    · rw [if_neg h, if_neg (by omega)]
theorem tabL_upTo {n : Nat} (f : Nat → Nat) : tabL n (upTo f n) = tabL n f := tabL_congr fun i hi => by unfold upTo; rw [if_pos hi]
theorem tabL_zero (f : Nat → Nat) (n : Nat) : List.replicate n (0 : Int) = tabL n (upTo f 0) := by
  apply List.ext_getElem
  · simp [tabL]
  · intro i h1 h2
    simp [tabL, upTo]
/-- Between two rounds of refine. -/
structure RfS (N : List Nd) (w : World) (n : Nat) (cl : Nat → Nat) (m : Nat) (v : Value) (wr : World) : Prop where
  i : RfI N cl m
  ow : Ow wr w.heap.size 3 v (tabL n cl)
  bl : Below w.heap.size w wr
/-- Within a round: the first k nodes are done. -/
structure RfJ (w : World) (n : Nat) (h : Nat → Tr3) (s k : Nat) (cl : Nat → Nat) (v : Value) (wr : World) : Prop where
  km : KC encTr wr 3 s (cntF (fstF h) k) (fsM h k)
  fn : Ow wr w.heap.size 3 (.slice (some ⟨s + 1, 0, none⟩) n n) (tabL n (upTo (fstF h) k))
  ow : Ow wr w.heap.size 3 v (tabL n cl)
  lo : ∀ b, v.ownBlock = some b → b < s
  hi : w.heap.size ≤ s
  bl : Below w.heap.size w wr
theorem RfJ.below {w : World} {n : Nat} {h : Nat → Tr3} {s k : Nat} {cl : Nat → Nat} {v : Value} {wr wr' : World} (j : RfJ w n h s k cl v wr) (hb : Below wr.heap.size wr wr') : RfJ w n h s k cl v wr' :=
  ⟨j.km.below hb j.km.lt, j.fn.below hb (Nat.le_refl _), j.ow.below hb (Nat.le_refl _), j.lo, j.hi, j.bl.trans (hb.mono j.bl.size)⟩
/-- The next entry of finer. -/
theorem RfJ.put {w : World} {n : Nat} {h : Nat → Tr3} {s k : Nat} {cl : Nat → Nat} {v : Value} {wr wr' : World} (j : RfJ w n h s k cl v wr) (hk : k < n) (hg : World.grownBy wr wr' (some s)) (hm : KC encTr wr' 3 s (cntF (fstF h) (k + 1)) (fsM h (k + 1))) :
    RfJ w n h s (k + 1) cl v (wr'.setCell ⟨s + 1, k, none⟩ (.int .i64 (fstF h k : Nat))) := by
  have fn' : Ow wr' w.heap.size 3 (.slice (some ⟨s + 1, 0, none⟩) n n) (tabL n (upTo (fstF h) k)) := j.fn.kept (u := .slice (some ⟨s, 0, none⟩) 0 0) hg (.inr (by intro e; have e : s + 1 = s := Option.some.inj e; omega))
  have ow' : Ow wr' w.heap.size 3 v (tabL n cl) := j.ow.kept (u := .slice (some ⟨s, 0, none⟩) 0 0) hg (by
    rcases hv : v.ownBlock with _ | b
    · exact .inl hv
    · right
      rw [hv]
      intro e
      have := j.lo b hv
      have e : b = s := Option.some.inj e
      omega)
  have hlt : s < wr.heap.size := j.km.lt
  have hhi := j.hi
  have bl' : Below w.heap.size w wr' := j.bl.trans ⟨hg.os, hg.tape, hg.output, hg.size, fun i hi => hg.block i (by omega) (by intro e; have e := Option.some.inj e; omega)⟩
  have hset : ∀ i, i ≠ s + 1 → (wr'.setCell ⟨s + 1, k, none⟩ (.int .i64 (fstF h k : Nat))).heap[i]? = wr'.heap[i]? := fun i hi => by
    simp [World.setCell, Array.getElem?_modify]
    intro e
    omega
  refine ⟨hm.heap (hset s (by omega)), ?_, ?_, j.lo, j.hi, bl'.trans ⟨rfl, rfl, rfl, by simp [World.setCell], fun i hi => hset i (by omega)⟩⟩
  · have := fn'.put (by rw [tabL_len]) k ((fstF h k : Nat) : Int)
    rw [tabL_set _ _ _ hk, upTo_succ] at this
    exact this
  · refine ow'.kept (u := .slice (some ⟨s + 1, 0, none⟩) 0 0) ⟨rfl, rfl, rfl, by simp [World.setCell], fun i hi hne => hset i (fun e => hne (by rw [e]; rfl))⟩ ?_
    rcases hv : v.ownBlock with _ | b
    · exact .inl hv
    · right
      rw [hv]
      intro e
      have := j.lo b hv
      have e : b = s + 1 := Option.some.inj e
      omega
end Go.Proofs.Ytmbdjjkgjnemiaa
