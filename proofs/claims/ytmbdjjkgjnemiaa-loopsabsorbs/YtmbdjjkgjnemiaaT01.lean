import Derived.Test.YtmbdjjkgjnemiaaT00
/- Layer 6, mathematics: nodes, what the kinds of a pair say, closed relations, subtypes, paths that refute. -/
namespace Go.Proofs.Ytmbdjjkgjnemiaa
open Go.RowKit
set_option linter.unusedVariables false

/-- A node: its kind and its parts. -/
structure Nd where
  k : Nat
  a : Nat
  b : Nat
  deriving DecidableEq
def nd0 : Nd := ⟨0, 0, 0⟩
def nd (N : List Nd) (i : Nat) : Nd := N[i]?.getD nd0
/-- The nodes are types, however many. -/
structure OkN (N : List Nd) : Prop where
  pos : 1 ≤ N.length
  kind : ∀ i, i < N.length → (nd N i).k < 6
  leaf : ∀ i, i < N.length → (nd N i).k < 4 → (nd N i).a = 0 ∧ (nd N i).b = 0
  a : ∀ i, i < N.length → (nd N i).a < N.length
  b : ∀ i, i < N.length → (nd N i).b < N.length
abbrev Pt : Type := Nat × Nat
/-- What the kinds say: 0 it holds, 1 it does not, 2 it does if its parts do. -/
def judX (x y : Nd) : Nat := if x.k = 0 ∨ y.k = 1 then 0 else if x.k ≠ y.k then 1 else if 4 ≤ x.k then 2 else 0
def jud (N : List Nd) (p : Pt) : Nat := judX (nd N p.1) (nd N p.2)
def pA (N : List Nd) (p : Pt) : Pt := if (nd N p.1).k = 5 then ((nd N p.2).a, (nd N p.1).a) else ((nd N p.1).a, (nd N p.2).a)
def pB (N : List Nd) (p : Pt) : Pt := ((nd N p.1).b, (nd N p.2).b)
def inP (n : Nat) (p : Pt) : Prop := p.1 < n ∧ p.2 < n
theorem OkN.pA {N : List Nd} (h : OkN N) {p : Pt} (hp : inP N.length p) : inP N.length (pA N p) := by
  unfold Go.Proofs.Ytmbdjjkgjnemiaa.pA
  by_cases e : (nd N p.1).k = 5
  · rw [if_pos e]; exact ⟨h.a _ hp.2, h.a _ hp.1⟩
  · rw [if_neg e]; exact ⟨h.a _ hp.1, h.a _ hp.2⟩
theorem OkN.pB {N : List Nd} (h : OkN N) {p : Pt} (hp : inP N.length p) : inP N.length (pB N p) := ⟨h.b _ hp.1, h.b _ hp.2⟩
/-- The pair holds if those of R do. -/
def Stp (N : List Nd) (R : Pt → Prop) (p : Pt) : Prop := jud N p = 0 ∨ (jud N p = 2 ∧ R (pA N p) ∧ R (pB N p))
def Clo (N : List Nd) (R : Pt → Prop) : Prop := ∀ p, R p → Stp N R p
def SubT (N : List Nd) (p : Pt) : Prop := ∃ R, Clo N R ∧ R p
theorem Stp.mono {N : List Nd} {R S : Pt → Prop} {p : Pt} (h : Stp N R p) (hRS : ∀ q, R q → S q) : Stp N S p := by
  rcases h with h | ⟨h1, h2, h3⟩
  · exact .inl h
  · exact .inr ⟨h1, hRS _ h2, hRS _ h3⟩
theorem subT_clo (N : List Nd) : Clo N (SubT N) := fun p ⟨R, hR, hp⟩ => (hR p hp).mono fun q hq => ⟨R, hR, hq⟩
theorem subT_iff {N : List Nd} {p : Pt} : SubT N p ↔ Stp N (SubT N) p := by
  refine ⟨subT_clo N p, fun h => ⟨fun q => SubT N q ∨ q = p, fun q hq => ?_, .inr rfl⟩⟩
  rcases hq with hq | rfl
  · exact (subT_clo N q hq).mono fun _ => .inl
  · exact h.mono fun _ => .inl
/-- Where a path leads, and whether it refutes. -/
def refB (N : List Nd) : Pt → List Int → Bool
  | p, [] => decide (jud N p = 1)
  | p, c :: s => decide (jud N p = 2) && ((decide (c = 97) && refB N (pA N p) s) || (decide (c = 98) && refB N (pB N p) s))
theorem refB_not {N : List Nd} : ∀ (s : List Int) (p : Pt), refB N p s = true → ¬ SubT N p
  | [], p, h, hs => by
    have h1 : jud N p = 1 := of_decide_eq_true h
    rcases subT_clo N p hs with h2 | ⟨h2, _⟩ <;> omega
  | c :: s, p, h, hs => by
    unfold refB at h
    rw [Bool.and_eq_true, Bool.or_eq_true, Bool.and_eq_true, Bool.and_eq_true] at h
    obtain ⟨h1, h2⟩ := h
    have h1 : jud N p = 2 := of_decide_eq_true h1
    rcases subT_clo N p hs with h3 | ⟨_, h3, h4⟩
    · omega
    · rcases h2 with ⟨_, h2⟩ | ⟨_, h2⟩
      · exact refB_not s _ h2 h3
      · exact refB_not s _ h2 h4
/-- The path leads from p to q over open pairs. -/
def leadT (N : List Nd) : Pt → List Int → Option Pt
  | p, [] => some p
  | p, c :: s => if jud N p = 2 then (if c = 97 then leadT N (pA N p) s else if c = 98 then leadT N (pB N p) s else none) else none
theorem refB_of_lead {N : List Nd} : ∀ (s : List Int) (p q : Pt), leadT N p s = some q → jud N q = 1 → refB N p s = true
  | [], p, q, h, hq => by
    injection h with h
    subst h
    exact decide_eq_true hq
  | c :: s, p, q, h, hq => by
    unfold leadT at h
    by_cases h1 : jud N p = 2
    · rw [if_pos h1] at h
      unfold refB
      by_cases h2 : c = 97
      · rw [if_pos h2] at h
        rw [refB_of_lead s _ q h hq, decide_eq_true h1, decide_eq_true h2]; rfl
      · rw [if_neg h2] at h
        by_cases h3 : c = 98
        · rw [if_pos h3] at h
          rw [refB_of_lead s _ q h hq, decide_eq_true h1, decide_eq_true h3, decide_eq_false h2]; rfl
        · rw [if_neg h3] at h; cases h
    · rw [if_neg h1] at h; cases h
theorem lead_snoc {N : List Nd} : ∀ (s : List Int) (p q : Pt) (c : Int), leadT N p s = some q → leadT N p (s ++ [c]) = leadT N q [c]
  | [], p, q, c, h => by
    injection h with h
    subst h; rfl
  | d :: s, p, q, c, h => by
    unfold leadT at h
    show leadT N p (d :: (s ++ [c])) = _
    rw [leadT]
    by_cases h1 : jud N p = 2
    · rw [if_pos h1] at h ⊢
      by_cases h2 : d = 97
      · rw [if_pos h2] at h ⊢; exact lead_snoc s _ q c h
      · rw [if_neg h2] at h ⊢
        by_cases h3 : d = 98
        · rw [if_pos h3] at h ⊢; exact lead_snoc s _ q c h
        · rw [if_neg h3] at h; cases h
    · rw [if_neg h1] at h; cases h
theorem lead_a {N : List Nd} {s : List Int} {p q : Pt} (h : leadT N p s = some q) (hq : jud N q = 2) : leadT N p (s ++ [97]) = some (pA N q) := by
  rw [lead_snoc s p q 97 h]
  unfold leadT
  rw [if_pos hq, if_pos rfl]; rfl
theorem lead_b {N : List Nd} {s : List Int} {p q : Pt} (h : leadT N p s = some q) (hq : jud N q = 2) : leadT N p (s ++ [98]) = some (pB N q) := by
  rw [lead_snoc s p q 98 h]
  unfold leadT
  rw [if_pos hq, if_neg (by decide), if_pos rfl]; rfl
/-- The list is closed. -/
def folB (N : List Nd) (L : List Pt) (p : Pt) : Bool := decide (jud N p = 0) || (decide (jud N p = 2) && L.contains (pA N p) && L.contains (pB N p))
theorem folB_iff {N : List Nd} {L : List Pt} {p : Pt} : folB N L p = true ↔ Stp N (· ∈ L) p := by
  unfold folB Stp
  simp [Bool.or_eq_true, Bool.and_eq_true, and_assoc]
theorem sub_of_closed {N : List Nd} {L : List Pt} (h : ∀ p ∈ L, folB N L p = true) {p : Pt} (hp : p ∈ L) : SubT N p := ⟨(· ∈ L), fun q hq => folB_iff.1 (h q hq), hp⟩
theorem jud_lt (N : List Nd) (p : Pt) : jud N p = 0 ∨ jud N p = 1 ∨ jud N p = 2 := by
  unfold jud judX
  split
  · exact .inl rfl
  · split
    · exact .inr (.inl rfl)
    · split
      · exact .inr (.inr rfl)
      · exact .inl rfl
theorem nodup_into' {α : Type} [DecidableEq α] : ∀ {l m : List α}, l.Nodup → (∀ x ∈ l, x ∈ m) → l.length ≤ m.length
  | [], m, _, _ => Nat.zero_le _
  | x :: l, m, hn, h => by
    rw [List.nodup_cons] at hn
    obtain ⟨h1, h2⟩ := hn
    have := nodup_into' (m := m.erase x) h2 fun y hy => (List.mem_erase_of_ne (fun e => h1 (by rw [← e]; exact hy))).2 (h y (List.mem_cons_of_mem _ hy))
    rw [List.length_erase_of_mem (h x List.mem_cons_self)] at this
    have := List.length_pos_of_mem (h x List.mem_cons_self)
    simp; omega
/-- Different pairs below n are n * n at most. -/
theorem pairs_le {n : Nat} {L : List Pt} (hn : L.Nodup) (h : ∀ p ∈ L, inP n p) : L.length ≤ n * n := by
  have := nodup_into' (m := (List.range n).flatMap fun i => (List.range n).map fun j => ((i, j) : Pt)) hn fun p hp => by
    rw [List.mem_flatMap]
    exact ⟨p.1, List.mem_range.2 (h p hp).1, List.mem_map.2 ⟨p.2, List.mem_range.2 (h p hp).2, rfl⟩⟩
  have e : ∀ l : List Nat, (l.flatMap fun i => (List.range n).map fun j => ((i, j) : Pt)).length = l.length * n := by
    intro l
    induction l with
    | nil => simp
    | cons x l ih => rw [List.flatMap_cons, List.length_append, ih, List.length_map, List.length_range, List.length_cons, Nat.succ_mul]; omega
  rw [e, List.length_range] at this
  exact this
end Go.Proofs.Ytmbdjjkgjnemiaa
/- Layer 6: nodes in memory; within, hasParts, validNode, valid. -/
namespace Go.Proofs.Ytmbdjjkgjnemiaa
open Go.RowKit
set_option linter.unusedVariables false

/-- A node as the program has it. -/
structure Ty where
  k : Int
  a : Int
  b : Int
  deriving DecidableEq
def ty0 : Ty := ⟨0, 0, 0⟩
def tyAt (zs : List Ty) (j : Nat) : Ty := zs[j]?.getD ty0
abbrev tyV (x : Ty) : Value := .agg #[.int .i64 x.k, .int .i64 x.a, .int .i64 x.b]
/-- The slice A n c holds the nodes zs. -/
structure Tl (w : World) (A : Option Addr) (n c : Nat) (zs : List Ty) : Prop where
  len : zs.length = n
  cap : n ≤ c
  big : n ≤ 9223372036854775807
  nil : A = none → n = 0 ∧ c = 0
  rows : ∀ k, k < n → ∃ b off, A = some ⟨b, off, none⟩ ∧ b < w.heap.size ∧ w.cell? ⟨b, off + k * 3, none⟩ = some (.int .i64 (tyAt zs k).k) ∧ w.cell? ⟨b, off + k * 3 + 1, none⟩ = some (.int .i64 (tyAt zs k).a) ∧ w.cell? ⟨b, off + k * 3 + 2, none⟩ = some (.int .i64 (tyAt zs k).b)
theorem Tl.below {w w' : World} {A : Option Addr} {n c : Nat} {zs : List Ty} {B : Nat} (h : Tl w A n c zs) (hb : Below B w w') (hB : w.heap.size ≤ B) : Tl w' A n c zs :=
  ⟨h.len, h.cap, h.big, h.nil, fun k hk => by
    obtain ⟨b, off, e, hlt, h1, h2, h3⟩ := h.rows k hk
    exact ⟨b, off, e, Nat.lt_of_lt_of_le hlt hb.size, (hb.cell (p := ⟨b, off + k * 3, none⟩) (by show b < B; omega)).trans h1, (hb.cell (p := ⟨b, off + k * 3 + 1, none⟩) (by show b < B; omega)).trans h2, (hb.cell (p := ⟨b, off + k * 3 + 2, none⟩) (by show b < B; omega)).trans h3⟩⟩
theorem Tl.dr {w w' : World} {A : Option Addr} {n c : Nat} {zs : List Ty} (h : Tl w A n c zs) (k : Dr w w') : Tl w' A n c zs := h.below (k.below _) (Nat.le_refl _)
/-- All cells at one address, once there is one. -/
theorem Tl.cells {w : World} {A : Option Addr} {n c : Nat} {zs : List Ty} (h : Tl w A n c zs) (hn : 0 < n) : ∃ b off, A = some ⟨b, off, none⟩ ∧ b < w.heap.size ∧ ∀ k, k < n → w.cell? ⟨b, off + k * 3, none⟩ = some (.int .i64 (tyAt zs k).k) ∧ w.cell? ⟨b, off + k * 3 + 1, none⟩ = some (.int .i64 (tyAt zs k).a) ∧ w.cell? ⟨b, off + k * 3 + 2, none⟩ = some (.int .i64 (tyAt zs k).b) := by
  obtain ⟨b, off, e, hlt, _⟩ := h.rows 0 hn
  refine ⟨b, off, e, hlt, fun k hk => ?_⟩
  obtain ⟨b', off', e', _, hc⟩ := h.rows k hk
  rw [e] at e'
  injection e' with e'
  injection e' with h1 h2
  subst h1; subst h2
  exact hc
theorem Sl.two (w : World) (e : Nat) (a b : Int) : Sl (w.alloc (.cells #[.int .i64 a, .int .i64 b] e)) (some ⟨w.heap.size, 0, none⟩) 2 2 [a, b] := by
  have h := World.ownsRow_lit (base := 0) (e := e) (size := 1) w #[.int .i64 a, .int .i64 b] 2 (by omega) (by unfold maxLen; omega) rfl
  have h' : Ow (w.alloc (.cells #[.int .i64 a, .int .i64 b] e)) 0 e (.slice (some ⟨w.heap.size, 0, none⟩) 2 2) [a, b] := by simpa [Ow] using h
  obtain ⟨A, z, h1, hs⟩ := h'.sl_len (n := 2) rfl (by omega)
  injection h1 with h1 h2 h3
  subst h1; subst h3
  exact hs
theorem Sl.two_at (w : World) (g e : Nat) (a b : Int) (hg : w.heap.size = g) : Sl (w.alloc (.cells #[.int .i64 a, .int .i64 b] e)) (some ⟨g, 0, none⟩) 2 2 [a, b] := by subst hg; exact Sl.two w e a b
def inB (n : Nat) (z : Int) : Bool := decide (0 ≤ z) && decide (z < (n : Int))
theorem inB_iff {n : Nat} {z : Int} : inB n z = true ↔ 0 ≤ z ∧ z < (n : Int) := by unfold inB; simp [Bool.and_eq_true]
theorem inB_lo {n : Nat} {z : Int} (h : z < 0) : inB n z = false := by unfold inB; rw [decide_eq_false (p := 0 ≤ z) (by omega)]; rfl
theorem inB_hi {n : Nat} {z : Int} (h : (n : Int) ≤ z) : inB n z = false := by unfold inB; rw [decide_eq_false (p := z < (n : Int)) (by omega), Bool.and_false]
theorem inB_in {n : Nat} {z : Int} (h : ¬ z < 0) (k : ¬ (n : Int) ≤ z) : inB n z = true := inB_iff.2 ⟨by omega, by omega⟩
def insB (n : Nat) (ps : List Int) : Bool := allB (fun j => inB n (ps[j]?.getD 0)) ps.length
set_option maxHeartbeats 800000 in
theorem within_any (A : Option Addr) (n c : Nat) (B : Option Addr) (m d : Nat) (ps : List Int) (w : World) (hp : Sl w B m d ps) (hn : n ≤ 9223372036854775807) :
    Calls Try.prog 54 #[.slice A n c, .slice B m d] w fun e w' => e = .returned (.bool (insB n ps)) ∧ w = w' := by
  have HL : Hid (ps.length = m) := hp.len
  have hbig := hp.big
  have HP := Lib.hid hp
  have HNO : Hid (∀ k, k < m → inB n (ps[k]?.getD 0) = false → false = insB n ps) := fun k hk h => allB_bad (p := fun j => inB n (ps[j]?.getD 0)) (by rw [HL.out]; exact hk) h
  have HYES : Hid ((∀ k, k < m → inB n (ps[k]?.getD 0) = true) → true = insB n ps) := fun h => allB_good (p := fun j => inB n (ps[j]?.getD 0)) fun j hj => h j (by rw [← HL.out]; exact hj)
  clear hp
  go_enter Try.func54, Try.ntmps54
  go_wp2
  go_loopw [6, 9] (fun _ i w' => ∃ k : Nat, k ≤ m ∧ i = .int .i64 (k : Int) ∧ Hid (∀ j, j < k → inB n (ps[j]?.getD 0) = true) ∧ w = w') (fun _ i _ => m - (intOf i).toNat)
  case atStart => exact ⟨0, by omega, by go_num, fun j hj => absurd hj (Nat.not_lt_zero _), rfl⟩
  case round =>
    obtain ⟨k, hk, rfl, HK, rfl⟩ := hrel
    by_cases hlt : k < m
    · obtain ⟨b, off, rfl, hc⟩ := HP.out.at_ hlt
      have HNK := Lib.hid (HNO.out k hlt)
      have HKS : Hid (inB n (ps[k]?.getD 0) = true → ∀ j, j < k + 1 → inB n (ps[j]?.getD 0) = true) := fun h j hj => by
        by_cases e : j = k
        · rw [e]; exact h
        · exact HK.out j (by omega)
      generalize ps[k]?.getD 0 = z at *
      by_cases h1 : z < 0
      · have HX := Lib.hid (HNK.out (inB_lo h1))
        go_wp2
        go_ret
        exact ⟨bend HX.out, rfl⟩
      · by_cases h2 : (n : Int) ≤ z
        · have HX := Lib.hid (HNK.out (inB_hi h2))
          go_wp2
          go_ret
          exact ⟨bend HX.out, rfl⟩
        · have HK2 := Lib.hid (HKS.out (inB_in h1 h2))
          have h3 : ¬ z ≥ (n : Int) := h2
          go_wp2
          exact ⟨⟨k + 1, by omega, by go_num, HK2.out, trivial⟩, by simp [intOf] <;> omega⟩
    · have HX := Lib.hid (HYES.out fun j hj => HK.out j (by omega))
      go_wp2
      go_ret
      exact ⟨bend HX.out, rfl⟩
def hasB' (k : Int) : Bool := decide (k = 4) || decide (k = 5)
theorem hasParts_any (x : Ty) (w : World) : Calls Try.prog 51 #[tyV x] w fun e w' => e = .returned (.bool (hasB' x.k)) ∧ Below w.heap.size w w' := by
  obtain ⟨k, a, b⟩ := x
  by_cases h4 : k = 4
  · subst h4
    go_enter Try.func51, Try.ntmps51
    go_wp2
    go_ret
    exact ⟨rfl, (Below.refl _ w).alloc (Nat.le_refl _) _⟩
  · by_cases h5 : k = 5
    · subst h5
      go_enter Try.func51, Try.ntmps51
      go_wp2
      go_ret
      exact ⟨rfl, (Below.refl _ w).alloc (Nat.le_refl _) _⟩
    · have HX : Hid (false = hasB' k) := by unfold hasB'; rw [Hid, decide_eq_false h4, decide_eq_false h5]; rfl
      have g4 : (k == 4) = false := by simpa using h4
      have g5 : (k == 5) = false := by simpa using h5
      clear h4 h5
      go_enter Try.func51, Try.ntmps51
      go_wp2
      go_ret
      exact ⟨bend HX.out, (Below.refl _ w).alloc (Nat.le_refl _) _⟩
/-- The node is one of n nodes. -/
def nodeB (n : Nat) (x : Ty) : Bool := decide (0 ≤ x.k) && decide (x.k ≤ 5) && (decide (4 ≤ x.k) || (decide (x.a = 0) && decide (x.b = 0))) && (inB n x.a && inB n x.b)
theorem nodeB_leaf {n : Nat} {x : Ty} (hn : 0 < n) (h : x.k = 0 ∨ x.k = 1 ∨ x.k = 2 ∨ x.k = 3) : nodeB n x = (decide (x.a = 0) && decide (x.b = 0)) := by
  unfold nodeB
  rw [decide_eq_true (by omega), decide_eq_true (by omega), decide_eq_false (p := 4 ≤ x.k) (by omega)]
  by_cases h1 : x.a = 0
  · by_cases h2 : x.b = 0
    · rw [h1, h2, inB_in (by omega) (by omega)]; rfl
    · rw [decide_eq_false h2]; simp
  · rw [decide_eq_false h1]; simp
theorem nodeB_part {n : Nat} {x : Ty} (h : x.k = 4 ∨ x.k = 5) : nodeB n x = (inB n x.a && inB n x.b) := by
  unfold nodeB
  rw [decide_eq_true (by omega), decide_eq_true (by omega), decide_eq_true (by omega)]
  simp
theorem nodeB_none {n : Nat} {x : Ty} (h0 : x.k ≠ 0) (h1 : x.k ≠ 1) (h2 : x.k ≠ 2) (h3 : x.k ≠ 3) (h4 : x.k ≠ 4) (h5 : x.k ≠ 5) : nodeB n x = false := by
  unfold nodeB
  by_cases h : 0 ≤ x.k
  · rw [decide_eq_false (p := x.k ≤ 5) (by omega)]; simp
  · rw [decide_eq_false h]; simp
theorem insB_two {n : Nat} {x y : Int} : insB n [x, y] = (inB n x && inB n y) := by unfold insB allB; simp [List.range_succ]
set_option maxHeartbeats 1600000 in
theorem validNode_any (A : Option Addr) (n c : Nat) (x : Ty) (w : World) (hn : n ≤ 9223372036854775807) (h0 : 0 < n) :
    Calls Try.prog 53 #[.slice A n c, tyV x] w fun e w' => e = .returned (.bool (nodeB n x)) ∧ Below w.heap.size w w' := by
  have HLF := Lib.hid (fun h => nodeB_leaf (x := x) h0 h)
  have HPT := Lib.hid (fun h => nodeB_part (n := n) (x := x) h)
  have HNO := Lib.hid (fun h0 h1 h2 h3 h4 h5 => nodeB_none (n := n) (x := x) h0 h1 h2 h3 h4 h5)
  obtain ⟨k, a, b⟩ := x
  by_cases hl : k = 0 ∨ k = 1 ∨ k = 2 ∨ k = 3
  · have HX := Lib.hid (HLF.out hl)
    clear HLF HPT HNO
    dsimp only at HX
    by_cases ha : a = 0
    · have ga : (a == 0) = true := by simpa using ha
      by_cases hb : b = 0
      · have gb : (b == 0) = true := by simpa using hb
        have HY : Hid (true = nodeB n ⟨k, a, b⟩) := by rw [Hid, HX.out, decide_eq_true ha, decide_eq_true hb]; rfl
        clear ha hb HX
        rcases hl with rfl | rfl | rfl | rfl
        all_goals (
          go_enter Try.func53, Try.ntmps53
          go_wp2
          go_ret
          exact ⟨bend HY.out, (Below.refl _ w).alloc (Nat.le_refl _) _⟩)
      · have gb : (b == 0) = false := by simpa using hb
        have HY : Hid (false = nodeB n ⟨k, a, b⟩) := by rw [Hid, HX.out, decide_eq_false hb, Bool.and_false]
        clear ha hb HX
        rcases hl with rfl | rfl | rfl | rfl
        all_goals (
          go_enter Try.func53, Try.ntmps53
          go_wp2
          go_ret
          exact ⟨bend HY.out, (Below.refl _ w).alloc (Nat.le_refl _) _⟩)
    · have ga : (a == 0) = false := by simpa using ha
      have HY : Hid (false = nodeB n ⟨k, a, b⟩) := by rw [Hid, HX.out, decide_eq_false ha, Bool.false_and]
      clear ha HX
      rcases hl with rfl | rfl | rfl | rfl
      all_goals (
        go_enter Try.func53, Try.ntmps53
        go_wp2
        go_ret
        exact ⟨bend HY.out, (Below.refl _ w).alloc (Nat.le_refl _) _⟩)
  · by_cases hp : k = 4 ∨ k = 5
    · have HX := Lib.hid (HPT.out hp)
      dsimp only at HX
      clear HLF HPT HNO hl
      have HW : Hid (∀ g W, Sl W (some ⟨g, 0, none⟩) 2 2 [a, b] → Calls Try.prog 54 #[.slice A n c, .slice (some ⟨g, 0, none⟩) 2 2] W fun e w' => e = .returned (.bool (nodeB n ⟨k, a, b⟩)) ∧ W = w') := fun g W h => by
        have := within_any A n c (some ⟨g, 0, none⟩) 2 2 [a, b] W h hn
        rw [insB_two, ← HX.out] at this
        exact this
      clear HX
      rcases hp with rfl | rfl
      all_goals (
        go_enter Try.func53, Try.ntmps53
        go_wp2_with (go_at_call 54; refine (HW.out _ _ (Sl.two_at _ _ _ _ _ (by simp))).mono ?_; rintro e w1 ⟨rfl, rfl⟩)
        go_ret
        exact ⟨rfl, ((Below.refl _ w).alloc (Nat.le_refl _) _).alloc (by simp) _⟩)
    · have HX : Hid (false = nodeB n ⟨k, a, b⟩) := (HNO.out (by dsimp; omega) (by dsimp; omega) (by dsimp; omega) (by dsimp; omega) (by dsimp; omega) (by dsimp; omega)).symm
      have g0 : (k == 0) = false := by simpa using (by omega : ¬ k = 0)
      have g1 : (k == 1) = false := by simpa using (by omega : ¬ k = 1)
      have g2 : (k == 2) = false := by simpa using (by omega : ¬ k = 2)
      have g3 : (k == 3) = false := by simpa using (by omega : ¬ k = 3)
      have g4 : (k == 4) = false := by simpa using (by omega : ¬ k = 4)
      have g5 : (k == 5) = false := by simpa using (by omega : ¬ k = 5)
      clear hl hp HLF HPT HNO
      go_enter Try.func53, Try.ntmps53
      go_wp2
      go_ret
      exact ⟨bend HX.out, (Below.refl _ w).alloc (Nat.le_refl _) _⟩
def tysB (n : Nat) (zs : List Ty) : Bool := allB (fun j => nodeB n (tyAt zs j)) n
def validB (zs : List Ty) (ps : List Int) : Bool := decide (1 ≤ zs.length) && decide (zs.length ≤ 24) && tysB zs.length zs && insB zs.length ps
set_option maxHeartbeats 1600000 in
theorem valid_any (A : Option Addr) (n c : Nat) (zs : List Ty) (B : Option Addr) (m d : Nat) (ps : List Int) (w : World) (ht : Tl w A n c zs) (hp : Sl w B m d ps) :
    Calls Try.prog 40 #[.slice A n c, .slice B m d] w fun e w' => e = .returned (.bool (validB zs ps)) ∧ Below w.heap.size w w' := by
  have HL : Hid (zs.length = n) := ht.len
  have hbig := ht.big
  have HT := Lib.hid ht
  have HP := Lib.hid hp
  have HSZ : Hid (¬ (1 ≤ n ∧ n ≤ 24) → false = validB zs ps) := fun h => by
    unfold validB
    rw [HL.out]
    by_cases h1 : 1 ≤ n
    · rw [decide_eq_false (p := n ≤ 24) (by omega)]; simp
    · rw [decide_eq_false h1]; simp
  have HNO : Hid (∀ k, k < n → nodeB n (tyAt zs k) = false → false = validB zs ps) := fun k hk h => by
    have : false = tysB n zs := allB_bad (p := fun j => nodeB n (tyAt zs j)) hk h
    unfold validB
    rw [HL.out, ← this]; simp
  have HYES : Hid (1 ≤ n → n ≤ 24 → (∀ k, k < n → nodeB n (tyAt zs k) = true) → insB n ps = validB zs ps) := fun h1 h2 h => by
    have : true = tysB n zs := allB_good (p := fun j => nodeB n (tyAt zs j)) h
    unfold validB
    rw [HL.out, ← this, decide_eq_true h1, decide_eq_true h2]; simp
  clear ht hp
  by_cases hbad : 1 ≤ n ∧ n ≤ 24
  · obtain ⟨h1, h2⟩ := hbad
    have g1 : decide ((n : Int) < 1) = false := decide_eq_false (by omega)
    have g2 : decide ((n : Int) > 24) = false := decide_eq_false (by omega)
    go_enter Try.func40, Try.ntmps40
    go_wp2
    go_loopw [6, 17] (fun _ i w' => ∃ k : Nat, k ≤ n ∧ i = .int .i64 (k : Int) ∧ Hid (∀ j, j < k → nodeB n (tyAt zs j) = true) ∧ Hid (Below w.heap.size w w')) (fun _ i _ => n - (intOf i).toNat)
    case atStart => exact ⟨0, by omega, by go_num, fun j hj => absurd hj (Nat.not_lt_zero _), Below.refl _ _⟩
    case round =>
      obtain ⟨k, hk, rfl, HK, HB⟩ := hrel
      obtain ⟨wo, rfl⟩ : ∃ wo : World, wo = wr := ⟨_, rfl⟩
      by_cases hlt : k < n
      · obtain ⟨b, off, rfl, hbl, c0, c1, c2⟩ := (HT.out.below HB.out (Nat.le_refl _)).rows k hlt
        obtain ⟨b1, hb1⟩ : ∃ b1, nodeB n (tyAt zs k) = b1 := ⟨_, rfl⟩
        have HV : Hid (∀ W, Calls Try.prog 53 #[.slice (some ⟨b, off, none⟩) n c, tyV (tyAt zs k)] W fun e w' => e = .returned (.bool b1) ∧ Below W.heap.size W w') := fun W => hb1 ▸ validNode_any (some ⟨b, off, none⟩) n c (tyAt zs k) W (by omega) (by omega)
        have HA : Hid (Below w.heap.size w (wo.alloc (.cells #[.int .i64 (tyAt zs k).k, .int .i64 (tyAt zs k).a, .int .i64 (tyAt zs k).b] 59))) := HB.out.alloc HB.out.size _
        cases b1 with
        | false =>
          have HX := Lib.hid (HNO.out k hlt hb1)
          clear hb1
          generalize tyAt zs k = x at *
          go_wp2_with (go_at_call 53; refine (HV.out _).mono ?_; rintro e w2 ⟨rfl, hb2⟩)
          go_ret
          exact ⟨bend HX.out, HA.out.trans (hb2.mono HA.out.size)⟩
        | true =>
          have HK2 : Hid (∀ j, j < k + 1 → nodeB n (tyAt zs j) = true) := ok_step (p := fun j => nodeB n (tyAt zs j)) HK.out hb1
          clear hb1
          generalize tyAt zs k = x at *
          go_wp2_with (go_at_call 53; refine (HV.out _).mono ?_; rintro e w2 ⟨rfl, hb2⟩; have HB2 := Lib.hid (HA.out.trans (hb2.mono HA.out.size)))
          exact ⟨⟨k + 1, by omega, by go_num, HK2.out, HB2.out⟩, by simp [intOf] <;> omega⟩
      · have HX := Lib.hid (HYES.out h1 h2 fun j hj => HK.out j (by omega))
        have HW := Lib.hid (within_any A n c B m d ps wo (HP.out.below HB.out (Nat.le_refl _)) (by omega))
        go_wp2_with (go_at_call 54; refine HW.out.mono ?_; rintro e w2 ⟨rfl, rfl⟩)
        go_ret
        exact ⟨bend HX.out, HB.out⟩
  · have HX := Lib.hid (HSZ.out hbad)
    have h3 : n < 1 ∨ (¬ n < 1 ∧ 24 < n) := by omega
    clear hbad
    rcases h3 with h1 | ⟨h1, h2⟩
    · have g1 : decide ((n : Int) < 1) = true := decide_eq_true (by omega)
      go_enter Try.func40, Try.ntmps40
      go_wp2
      go_ret
      exact ⟨bend HX.out, Below.refl _ _⟩
    · have g1 : decide ((n : Int) < 1) = false := decide_eq_false (by omega)
      have g2 : decide ((n : Int) > 24) = true := decide_eq_true (by omega)
      go_enter Try.func40, Try.ntmps40
      go_wp2
      go_ret
      exact ⟨bend HX.out, Below.refl _ _⟩
end Go.Proofs.Ytmbdjjkgjnemiaa
