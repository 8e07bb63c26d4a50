import Derived.Test.YtmnnehpoaedifaaJ07
import Derived.Test.YtmnnehpoaedifaaJ08
/- Plain mathematics of layer 2: if no two positions of one side are in conflict, the sides sort. -/
namespace Go.Proofs.Ytmnnehpoaedifaa

/-- An order has every number from 1 to n. -/
theorem ord_surj {o : List Int} (hd : Diff o) (hr : ∀ i, i < o.length → 1 ≤ at0 o i ∧ at0 o i ≤ o.length) {v : Nat} (h1 : 1 ≤ v) (h2 : v ≤ o.length) : ∃ c, c < o.length ∧ at0 o c = v := by
  rcases Classical.em (∃ c, c < o.length ∧ at0 o c = v) with h | h
  · exact h
  · exfalso
    have hne : ∀ i, i < o.length → at0 o i ≠ v := fun i hi e => h ⟨i, hi, e⟩
    have := nodup_len (o.length - 1) ((List.range o.length).map fun i => if at0 o i < v then (at0 o i).toNat - 1 else (at0 o i).toNat - 2) (by
      rw [List.nodup_iff_pairwise_ne, List.pairwise_map]
      refine List.Pairwise.imp_of_mem ?_ (List.pairwise_lt_range (n := o.length))
      intro i j hi hj hij e
      have hi := List.mem_range.1 hi
      have hj := List.mem_range.1 hj
      have ri := hr i hi
      have rj := hr j hj
      have ni := hne i hi
      have nj := hne j hj
      have : at0 o i = at0 o j := by
        split at e <;> split at e <;> omega
      have := hd i j hi hj this
      omega) (by
      intro x hx
      obtain ⟨i, hi, rfl⟩ := List.mem_map.1 hx
      have hi := List.mem_range.1 hi
      have ri := hr i hi
      have ni := hne i hi
      split <;> omega)
    simp at this
    omega
/-- No top is the wanted item. -/
def Tops (s : S2) : Prop := (∀ t r, s.r0 = t :: r → t ≠ (s.wa : Int)) ∧ (∀ t r, s.r1 = t :: r → t ≠ (s.wa : Int))
theorem pop0_same {s : S2} (h : (pop0 s).wa = s.wa) : pop0 s = s ∧ ∀ t r, s.r0 = t :: r → t ≠ (s.wa : Int) := by
  rcases s with ⟨r0, r1, wa⟩
  cases r0 with
  | nil => exact ⟨rfl, by intro t r h; cases h⟩
  | cons t r =>
    unfold pop0 at *
    simp only at *
    split at h
    · simp at h
    · rename_i hne
      rw [if_neg hne]
      exact ⟨rfl, by intro t' r' h; injection h with h1 h2; subst h1; exact hne⟩
theorem pop1_same {s : S2} (h : (pop1 s).wa = s.wa) : pop1 s = s ∧ ∀ t r, s.r1 = t :: r → t ≠ (s.wa : Int) := by
  rcases s with ⟨r0, r1, wa⟩
  cases r1 with
  | nil => exact ⟨rfl, by intro t r h; cases h⟩
  | cons t r =>
    unfold pop1 at *
    simp only at *
    split at h
    · simp at h
    · rename_i hne
      rw [if_neg hne]
      exact ⟨rfl, by intro t' r' h; injection h with h1 h2; subst h1; exact hne⟩
theorem drain_tops (t : Nat) : ∀ s : S2, s.size < t → Tops (drainF t s) := by
  induction t with
  | zero => intro s h; omega
  | succ t ih =>
    intro s h
    rw [drainF]
    have hp := pass_sum s
    split
    · rename_i he
      have a := pop0_sum s
      have b := pop1_sum (pop0 s)
      obtain ⟨e0, t0⟩ := pop0_same (s := s) (by omega)
      rw [e0] at he ⊢
      obtain ⟨e1, t1⟩ := pop1_same he
      rw [e1]
      exact ⟨t0, t1⟩
    · exact ih _ (by omega)
/-- What holds after k items. -/
structure FInv (o d : List Int) (k : Nat) (s : S2) (p0 p1 : List Nat) : Prop where
  pos : PosJ o d k s p0 p1
  asc : Asc2 s
  past : ∀ v : Nat, 1 ≤ v → v < s.wa → ∃ i, i < k ∧ at0 o i = v
  one : 1 ≤ s.wa
theorem FInv.pop0 {o d : List Int} (hd : Diff o) {k : Nat} (hk : k ≤ o.length) {s : S2} {p0 p1 : List Nat} (h : FInv o d k s p0 p1) : ∃ q0, FInv o d k (pop0 s) q0 p1 := by
  rcases s with ⟨r0, r1, wa⟩
  obtain ⟨hp, ha, hpa, ho⟩ := h
  cases p0 with
  | nil =>
    have : r0 = [] := hp.m0
    subst this
    exact ⟨[], hp, ha, hpa, ho⟩
  | cons p p0 =>
    have e : r0 = at0 o p :: p0.map (at0 o) := hp.m0
    subst e
    by_cases ht : at0 o p = (wa : Int)
    · have hpop : Go.Proofs.Ytmnnehpoaedifaa.pop0 ⟨at0 o p :: p0.map (at0 o), r1, wa⟩ = ⟨p0.map (at0 o), r1, wa + 1⟩ := by
        unfold Go.Proofs.Ytmnnehpoaedifaa.pop0; simp only; rw [if_pos ht]
      rw [hpop]
      have hpl := hp.l0 p (by simp)
      have a0 := List.pairwise_cons.1 ha.a0
      refine ⟨p0, ⟨rfl, hp.m1, (List.pairwise_cons.1 hp.d0).2, hp.d1, fun i hi => hp.l0 i (List.mem_cons.2 (.inr hi)), hp.l1, fun i hi => ?_⟩, ⟨a0.2, ha.a1, fun x hx => ?_, fun x hx => ?_⟩, fun v h1 h2 => ?_, ?_⟩
      · rcases hp.gone i hi with h | h | h
        · rcases List.mem_cons.1 h with rfl | h
          · right; right; show at0 o i < ((wa + 1 : Nat) : Int); omega
          · exact .inl h
        · exact .inr (.inl h)
        · right; right
          have h' : at0 o i < (wa : Int) := h
          show at0 o i < ((wa + 1 : Nat) : Int); omega
      · show ((wa + 1 : Nat) : Int) ≤ x
        have := a0.1 x hx; omega
      · show ((wa + 1 : Nat) : Int) ≤ x
        have hw : (wa : Int) ≤ x := ha.w1 x hx
        have hm : x ∈ p1.map (at0 o) := by rw [← hp.m1]; exact hx
        obtain ⟨i, hi, rfl⟩ := List.mem_map.1 hm
        have hil := hp.l1 i hi
        have hne : at0 o i ≠ at0 o p := fun e => by
          have := hd i p (by omega) (by omega) e
          subst this
          exact hil.2 hpl.2
        omega
      · have h2' : v < wa + 1 := h2
        by_cases e : v = wa
        · exact ⟨p, hpl.1, by rw [e]; exact ht⟩
        · exact hpa v h1 (show v < wa by omega)
      · show 1 ≤ wa + 1
        omega
    · have hpop : Go.Proofs.Ytmnnehpoaedifaa.pop0 ⟨at0 o p :: p0.map (at0 o), r1, wa⟩ = ⟨at0 o p :: p0.map (at0 o), r1, wa⟩ := by
        unfold Go.Proofs.Ytmnnehpoaedifaa.pop0; simp only; rw [if_neg ht]
      rw [hpop]
      exact ⟨p :: p0, hp, ha, hpa, ho⟩
theorem FInv.pop1 {o d : List Int} (hd : Diff o) {k : Nat} (hk : k ≤ o.length) {s : S2} {p0 p1 : List Nat} (h : FInv o d k s p0 p1) : ∃ q1, FInv o d k (pop1 s) p0 q1 := by
  rcases s with ⟨r0, r1, wa⟩
  obtain ⟨hp, ha, hpa, ho⟩ := h
  cases p1 with
  | nil =>
    have : r1 = [] := hp.m1
    subst this
    exact ⟨[], hp, ha, hpa, ho⟩
  | cons p p1 =>
    have e : r1 = at0 o p :: p1.map (at0 o) := hp.m1
    subst e
    by_cases ht : at0 o p = (wa : Int)
    · have hpop : Go.Proofs.Ytmnnehpoaedifaa.pop1 ⟨r0, at0 o p :: p1.map (at0 o), wa⟩ = ⟨r0, p1.map (at0 o), wa + 1⟩ := by
        unfold Go.Proofs.Ytmnnehpoaedifaa.pop1; simp only; rw [if_pos ht]
      rw [hpop]
      have hpl := hp.l1 p (by simp)
      have a1 := List.pairwise_cons.1 ha.a1
      refine ⟨p1, ⟨hp.m0, rfl, hp.d0, (List.pairwise_cons.1 hp.d1).2, hp.l0, fun i hi => hp.l1 i (List.mem_cons.2 (.inr hi)), fun i hi => ?_⟩, ⟨ha.a0, a1.2, fun x hx => ?_, fun x hx => ?_⟩, fun v h1 h2 => ?_, ?_⟩
      · rcases hp.gone i hi with h | h | h
        · exact .inl h
        · rcases List.mem_cons.1 h with rfl | h
          · right; right; show at0 o i < ((wa + 1 : Nat) : Int); omega
          · exact .inr (.inl h)
        · right; right
          have h' : at0 o i < (wa : Int) := h
          show at0 o i < ((wa + 1 : Nat) : Int); omega
      · show ((wa + 1 : Nat) : Int) ≤ x
        have hw : (wa : Int) ≤ x := ha.w0 x hx
        have hm : x ∈ p0.map (at0 o) := by rw [← hp.m0]; exact hx
        obtain ⟨i, hi, rfl⟩ := List.mem_map.1 hm
        have hil := hp.l0 i hi
        have hne : at0 o i ≠ at0 o p := fun e => by
          have := hd i p (by omega) (by omega) e
          subst this
          exact hpl.2 hil.2
        omega
      · show ((wa + 1 : Nat) : Int) ≤ x
        have := a1.1 x hx; omega
      · have h2' : v < wa + 1 := h2
        by_cases e : v = wa
        · exact ⟨p, hpl.1, by rw [e]; exact ht⟩
        · exact hpa v h1 (show v < wa by omega)
      · show 1 ≤ wa + 1
        omega
    · have hpop : Go.Proofs.Ytmnnehpoaedifaa.pop1 ⟨r0, at0 o p :: p1.map (at0 o), wa⟩ = ⟨r0, at0 o p :: p1.map (at0 o), wa⟩ := by
        unfold Go.Proofs.Ytmnnehpoaedifaa.pop1; simp only; rw [if_neg ht]
      rw [hpop]
      exact ⟨p :: p1, hp, ha, hpa, ho⟩
theorem FInv.drain {o d : List Int} (hd : Diff o) {k : Nat} (hk : k ≤ o.length) (t : Nat) : ∀ {s : S2} {p0 p1 : List Nat}, FInv o d k s p0 p1 → ∃ q0 q1, FInv o d k (drainF t s) q0 q1 := by
  induction t with
  | zero => intro s p0 p1 h; exact ⟨p0, p1, h⟩
  | succ t ih =>
    intro s p0 p1 h
    obtain ⟨q0, h1⟩ := h.pop0 hd hk
    obtain ⟨q1, h2⟩ := h1.pop1 hd hk
    rw [drainF]
    split
    · exact ⟨q0, q1, h2⟩
    · exact ih h2
/-- The wanted item has not come yet. -/
theorem FInv.late {o d : List Int} {k : Nat} {s : S2} {p0 p1 : List Nat} (h : FInv o d k s p0 p1) (ht : Tops s) (i : Nat) (hi : i < k) : at0 o i ≠ (s.wa : Int) := by
  intro e
  have key : ∀ (r : List Int), r.Pairwise (· < ·) → (∀ x ∈ r, (s.wa : Int) ≤ x) → (∀ t r', r = t :: r' → t ≠ (s.wa : Int)) → at0 o i ∈ r → False := by
    intro r h1 h2 h3 h4
    cases r with
    | nil => cases h4
    | cons t r' =>
      have a := h3 t r' rfl
      have b := h2 t (by simp)
      rcases List.mem_cons.1 h4 with h5 | h5
      · omega
      · have := (List.pairwise_cons.1 h1).1 _ h5; omega
  rcases h.pos.gone i hi with hm | hm | hm
  · exact key s.r0 h.asc.a0 h.asc.w0 ht.1 (by rw [h.pos.m0]; exact List.mem_map.2 ⟨i, hm, rfl⟩)
  · exact key s.r1 h.asc.a1 h.asc.w1 ht.2 (by rw [h.pos.m1]; exact List.mem_map.2 ⟨i, hm, rfl⟩)
  · omega
/-- If no two positions of one side are in conflict, everything leaves. -/
theorem sides_sort (o d : List Int) (hd : Diff o) (hr : ∀ i, i < o.length → 1 ≤ at0 o i ∧ at0 o i ≤ o.length)
    (hp : ∀ a b, Conf o a b → ¬ (d[a]?.getD 0 = 0 ↔ d[b]?.getD 0 = 0)) : (sidesTo o d o.length).wa = o.length + 1 := by
  have main : ∀ k, k ≤ o.length → (∃ p0 p1, FInv o d k (sidesTo o d k) p0 p1) ∧ Tops (sidesTo o d k) := by
    intro k
    induction k with
    | zero =>
      intro _
      exact ⟨⟨[], [], ⟨rfl, rfl, by simp, by simp, by simp, by simp, fun i hi => by omega⟩, ⟨List.Pairwise.nil, List.Pairwise.nil, by simp [sidesTo], by simp [sidesTo]⟩, fun v h1 h2 => (by have : v < 1 := h2; omega), Nat.le_refl _⟩, ⟨(by intro t r h; cases h), (by intro t r h; cases h)⟩⟩
    | succ k ih =>
      intro hk
      obtain ⟨⟨p0, p1, hf⟩, ht⟩ := ih (by omega)
      have hlate := hf.late ht
      have hsum := sidesTo_sum o d k
      have hrk := hr k (by omega)
      -- the item that arrives is not smaller than the wanted one
      have hge : ((sidesTo o d k).wa : Int) ≤ at0 o k := by
        rcases Int.lt_or_le (at0 o k) (sidesTo o d k).wa with h | h
        · exfalso
          obtain ⟨i, hi, e⟩ := hf.past (at0 o k).toNat (by omega) (by omega)
          have := hd i k (by omega) (by omega) (show at0 o i = at0 o k by omega)
          omega
        · exact h
      -- it is smaller than all on its stack
      have hless : ∀ a, a < k → (d[a]?.getD 0 = 0 ↔ d[k]?.getD 0 = 0) → ((sidesTo o d k).wa : Int) ≤ at0 o a → at0 o k < at0 o a := by
        intro a hak hs hw
        have hne : at0 o a ≠ at0 o k := fun e => by
          have := hd a k (by omega) (by omega) e
          omega
        rcases Int.lt_or_le (at0 o k) (at0 o a) with h | h
        · exact h
        · exfalso
          have hw' := hlate a hak
          have hra := hr a (by omega)
          obtain ⟨c, hc, hce⟩ := ord_surj hd hr (v := (sidesTo o d k).wa) hf.one (by omega)
          have hck : k < c := by
            rcases Nat.lt_or_ge c k with h1 | h1
            · exact absurd hce (hlate c h1)
            · by_cases e : c = k
              · subst e; omega
              · omega
          exact hp a k ⟨hak, c, hak, hck, hc, (by show at0 o c < at0 o a; omega), (by show at0 o a < at0 o k; omega)⟩ hs
      have hpush := hf.pos.push
      have hfp : FInv o d (k + 1) (pushS (sidesTo o d k) (d[k]?.getD 0) (o[k]?.getD 0)) (if d[k]?.getD 0 = 0 then k :: p0 else p0) (if d[k]?.getD 0 = 0 then p1 else k :: p1) := by
        refine ⟨hpush, ?_, ?_, ?_⟩
        · unfold pushS
          by_cases h0 : d[k]?.getD 0 = 0
          · rw [if_pos h0]
            refine ⟨List.pairwise_cons.2 ⟨fun x hx => ?_, hf.asc.a0⟩, hf.asc.a1, fun x hx => ?_, hf.asc.w1⟩
            · have hw := hf.asc.w0 x hx
              have hm : x ∈ p0.map (at0 o) := by rw [← hf.pos.m0]; exact hx
              obtain ⟨a, ha, rfl⟩ := List.mem_map.1 hm
              have hl := hf.pos.l0 a ha
              exact hless a hl.1 ⟨fun _ => h0, fun _ => hl.2⟩ hw
            · rcases List.mem_cons.1 hx with rfl | hx
              · exact hge
              · exact hf.asc.w0 x hx
          · rw [if_neg h0]
            refine ⟨hf.asc.a0, List.pairwise_cons.2 ⟨fun x hx => ?_, hf.asc.a1⟩, hf.asc.w0, fun x hx => ?_⟩
            · have hw := hf.asc.w1 x hx
              have hm : x ∈ p1.map (at0 o) := by rw [← hf.pos.m1]; exact hx
              obtain ⟨a, ha, rfl⟩ := List.mem_map.1 hm
              have hl := hf.pos.l1 a ha
              exact hless a hl.1 ⟨fun h => absurd h hl.2, fun h => absurd h h0⟩ hw
            · rcases List.mem_cons.1 hx with rfl | hx
              · exact hge
              · exact hf.asc.w1 x hx
        · intro v h1 h2
          rw [(pushS_sum _ _ _).1] at h2
          obtain ⟨i, hi, e⟩ := hf.past v h1 h2
          exact ⟨i, by omega, e⟩
        · rw [(pushS_sum _ _ _).1]; exact hf.one
      exact ⟨hfp.drain hd (by omega) _, drain_tops _ _ (Nat.lt_succ_self _)⟩
  obtain ⟨⟨p0, p1, hf⟩, ht⟩ := main o.length (Nat.le_refl _)
  have hsum := sidesTo_sum o d o.length
  rcases Nat.lt_or_ge (sidesTo o d o.length).wa (o.length + 1) with h | h
  · exfalso
    obtain ⟨c, hc, e⟩ := ord_surj hd hr (v := (sidesTo o d o.length).wa) hf.one (by omega)
    exact hf.late ht c hc e
  · omega
end Go.Proofs.Ytmnnehpoaedifaa
/- Plain mathematics of layer 2: the colouring goes through exactly if there is one; a ring of an odd number of conflicts has none. -/
namespace Go.Proofs.Ytmnnehpoaedifaa

/-- A relation of positions below n, seen both ways. -/
def link (cf : Nat → Nat → Bool) (a b : Nat) : Prop := a ≠ b ∧ cf (min a b) (max a b) = true
theorem link_symm {cf : Nat → Nat → Bool} {a b : Nat} (h : link cf a b) : link cf b a := by
  obtain ⟨h1, h2⟩ := h
  exact ⟨fun e => h1 e.symm, by rw [Nat.min_comm, Nat.max_comm]; exact h2⟩
/-- Two colours for the positions. -/
def Proper (cf : Nat → Nat → Bool) (n : Nat) (f : Nat → Bool) : Prop := ∀ a b, a < n → b < n → link cf a b → f a ≠ f b
/-- A ring of an odd number of links has no two colours. -/
theorem ring_odd {cf : Nat → Nat → Bool} {n : Nat} {f : Nat → Bool} (hf : Proper cf n f) (l : Nat → Nat) (m : Nat) (hm : m % 2 = 1) (hl : ∀ i, i < m → l i < n) (h : ∀ i, i + 1 < m → link cf (l i) (l (i + 1))) (hend : link cf (l (m - 1)) (l 0)) : False := by
  have alt : ∀ i, i < m → f (l i) = (if i % 2 = 0 then f (l 0) else !f (l 0)) := by
    intro i
    induction i with
    | zero => intro _; rfl
    | succ i ih =>
      intro hi
      have h1 := ih (by omega)
      have h2 := hf (l i) (l (i + 1)) (hl i (by omega)) (hl (i + 1) hi) (h i hi)
      by_cases e : i % 2 = 0
      · rw [if_pos e] at h1
        rw [if_neg (by omega)]
        rw [h1] at h2
        cases ha : f (l 0) <;> cases hb : f (l (i + 1)) <;> simp_all
      · rw [if_neg e] at h1
        rw [if_pos (by omega)]
        rw [h1] at h2
        cases ha : f (l 0) <;> cases hb : f (l (i + 1)) <;> simp_all
  have h1 := alt (m - 1) (by omega)
  rw [if_pos (by omega)] at h1
  exact hf _ _ (hl (m - 1) (by omega)) (hl 0 (by omega)) hend h1

/-! The colouring of the reference -/
/-- If a position has been given a colour, both colours of a link that has been looked at differ. `done a`: all of a's links have been looked at. -/
structure Good2 (cf : Nat → Nat → Bool) (n : Nat) (s : BS) (done : Nat → Prop) : Prop where
  inv : BInv n s
  dn : ∀ a b, a < n → b < n → done a → link cf a b → s.C[b]?.getD 0 ≠ 0 ∧ s.C[a]?.getD 0 ≠ s.C[b]?.getD 0
theorem visit_keeps {cf : Nat → Nat → Bool} {n a b : Nat} {s s' : BS} (h : BInv n s) (ha : a < n) (hb : b < n) (hac : s.C[a]?.getD 0 ≠ 0) (hv : visit cf a b s = some s') :
    BInv n s' ∧ (∀ i, i < n → s.C[i]?.getD 0 ≠ 0 → s'.C[i]?.getD 0 = s.C[i]?.getD 0) ∧ (∃ v, s'.Q = s.Q ++ v) ∧ (∀ i, i < n → s'.C[i]?.getD 0 ≠ 0 → s.C[i]?.getD 0 ≠ 0 ∨ i ∈ s'.Q) ∧ (link cf a b → s'.C[b]?.getD 0 ≠ 0 ∧ s'.C[b]?.getD 0 ≠ s'.C[a]?.getD 0) := by
  unfold visit at hv
  split at hv
  · rename_i h1
    injection hv with hv
    subst hv
    refine ⟨h, fun _ _ _ => rfl, ⟨[], by simp⟩, fun i _ hi => .inl hi, fun hl => ?_⟩
    rcases h1 with h1 | h1
    · exact absurd h1 hl.1
    · rw [hl.2] at h1; cases h1
  · split at hv
    · cases hv
    · rename_i h2
      split at hv
      · rename_i h3
        injection hv with hv
        subst hv
        have hl := h.len
        have hget : ∀ i, i < n → (s.C.set b (3 - s.C[a]?.getD 0))[i]?.getD 0 = if i = b then 3 - s.C[a]?.getD 0 else s.C[i]?.getD 0 := fun i hi => by
          by_cases e : i = b
          · subst e
            rw [List.getElem?_set_self (by omega), if_pos rfl]; rfl
          · rw [List.getElem?_set_ne (by omega), if_neg e]
        have hab : a ≠ b := fun e => by subst e; exact hac h3
        have h1 := h.lo a ha
        have h4 := h.hi a ha
        refine ⟨h.add ha hb hac h3, fun i hi hc => ?_, ⟨[b], rfl⟩, fun i hi hc => ?_, fun _ => ⟨?_, ?_⟩⟩
        · show (s.C.set b (3 - s.C[a]?.getD 0))[i]?.getD 0 = _
          rw [hget i hi, if_neg (fun e => by subst e; exact hc h3)]
        · have hc' : (s.C.set b (3 - s.C[a]?.getD 0))[i]?.getD 0 ≠ 0 := hc
          rw [hget i hi] at hc'
          by_cases e : i = b
          · right; rw [e]; show b ∈ s.Q ++ [b]; simp
          · rw [if_neg e] at hc'; exact .inl hc'
        · show (s.C.set b (3 - s.C[a]?.getD 0))[b]?.getD 0 ≠ 0
          rw [hget b hb, if_pos rfl]; omega
        · show (s.C.set b (3 - s.C[a]?.getD 0))[b]?.getD 0 ≠ (s.C.set b (3 - s.C[a]?.getD 0))[a]?.getD 0
          rw [hget b hb, if_pos rfl, hget a ha, if_neg hab]; omega
      · rename_i h3
        injection hv with hv
        subst hv
        exact ⟨h, fun _ _ _ => rfl, ⟨[], by simp⟩, fun i _ hi => .inl hi, fun _ => ⟨h3, h2⟩⟩
/-- What a row leaves: the links of a to positions below k have been looked at. -/
theorem row_keeps {cf : Nat → Nat → Bool} {n a : Nat} (ha : a < n) (k : Nat) (hk : k ≤ n) : ∀ {s s' : BS}, BInv n s → s.C[a]?.getD 0 ≠ 0 → rowTo cf a k s = some s' →
    BInv n s' ∧ (∀ i, i < n → s.C[i]?.getD 0 ≠ 0 → s'.C[i]?.getD 0 = s.C[i]?.getD 0) ∧ (∃ v, s'.Q = s.Q ++ v) ∧ (∀ i, i < n → s'.C[i]?.getD 0 ≠ 0 → s.C[i]?.getD 0 ≠ 0 ∨ i ∈ s'.Q) ∧ (∀ b, b < k → link cf a b → s'.C[b]?.getD 0 ≠ 0 ∧ s'.C[b]?.getD 0 ≠ s'.C[a]?.getD 0) := by
  induction k with
  | zero =>
    intro s s' h _ hr
    simp only [rowTo, Option.some.injEq] at hr
    subst hr
    exact ⟨h, fun _ _ _ => rfl, ⟨[], by simp⟩, fun i _ hi => .inl hi, fun b hb => by omega⟩
  | succ k ih =>
    intro s s' h hac hr
    rw [rowTo] at hr
    rcases hm : rowTo cf a k s with _ | s1
    · rw [hm] at hr; cases hr
    · rw [hm] at hr
      have hr' : visit cf a k s1 = some s' := hr
      obtain ⟨i1, i2, ⟨v1, i3⟩, i4, i5⟩ := ih (by omega) h hac hm
      have hac1 : s1.C[a]?.getD 0 ≠ 0 := by rw [i2 a ha hac]; exact hac
      obtain ⟨j1, j2, ⟨v2, j3⟩, j4, j5⟩ := visit_keeps i1 ha (by omega) hac1 hr'
      refine ⟨j1, fun i hi hc => ?_, ⟨v1 ++ v2, by rw [j3, i3, List.append_assoc]⟩, fun i hi hc => ?_, fun b hb hl => ?_⟩
      · have h1 := i2 i hi hc
        rw [j2 i hi (by rw [h1]; exact hc), h1]
      · rcases j4 i hi hc with h1 | h1
        · rcases i4 i hi h1 with h2 | h2
          · exact .inl h2
          · exact .inr (by rw [j3]; exact List.mem_append.2 (.inl h2))
        · exact .inr h1
      · by_cases e : b = k
        · subst e; exact j5 hl
        · obtain ⟨h1, h2⟩ := i5 b (by omega) hl
          rw [j2 b (by omega) h1, j2 a ha hac1]
          exact ⟨h1, h2⟩
end Go.Proofs.Ytmnnehpoaedifaa
/- Plain mathematics of layer 2: the colouring goes through exactly if there are two colours. -/
namespace Go.Proofs.Ytmnnehpoaedifaa

/-- All links of a have been looked at. -/
def Done (cf : Nat → Nat → Bool) (n : Nat) (C : List Int) (a : Nat) : Prop := ∀ b, b < n → link cf a b → C[b]?.getD 0 ≠ 0 ∧ C[b]?.getD 0 ≠ C[a]?.getD 0
theorem Done.keep {cf : Nat → Nat → Bool} {n a : Nat} {C C' : List Int} (h : Done cf n C a) (ha : a < n) (hc : C[a]?.getD 0 ≠ 0) (hk : ∀ i, i < n → C[i]?.getD 0 ≠ 0 → C'[i]?.getD 0 = C[i]?.getD 0) : Done cf n C' a := fun b hb hl => by
  obtain ⟨h1, h2⟩ := h b hb hl
  rw [hk b hb h1, hk a ha hc]
  exact ⟨h1, h2⟩
theorem bfs_keeps {cf : Nat → Nat → Bool} {n : Nat} (t : Nat) : ∀ {q : Nat} {s s' : BS}, BInv n s → n + 1 ≤ t + q → q ≤ s.Q.length → (∀ j, j < q → Done cf n s.C (s.Q[j]?.getD 0)) → bfsTo cf n t q s = some s' →
    BInv n s' ∧ (∀ i, i < n → s.C[i]?.getD 0 ≠ 0 → s'.C[i]?.getD 0 = s.C[i]?.getD 0) ∧ (∀ i, i < n → s'.C[i]?.getD 0 ≠ 0 → s.C[i]?.getD 0 ≠ 0 ∨ i ∈ s'.Q) ∧ (∀ a ∈ s'.Q, Done cf n s'.C a) := by
  induction t with
  | zero =>
    intro q s s' h ht hq _ _
    have := h.short
    omega
  | succ t ih =>
    intro q s s' h ht hq hd hb
    rw [bfsTo] at hb
    split at hb
    · rename_i hlt
      obtain ⟨han, hac⟩ := h.at_ hlt
      rcases hr : rowTo cf (s.Q[q]?.getD 0) n s with _ | s1
      · rw [hr] at hb; cases hb
      · rw [hr] at hb
        have hb' : bfsTo cf n t (q + 1) s1 = some s' := hb
        obtain ⟨i1, i2, ⟨v, i3⟩, i4, i5⟩ := row_keeps han n (Nat.le_refl _) h hac hr
        have hget : ∀ j, j < s.Q.length → s1.Q[j]?.getD 0 = s.Q[j]?.getD 0 := fun j hj => by rw [i3, List.getElem?_append_left hj]
        have hdone : ∀ j, j < q + 1 → Done cf n s1.C (s1.Q[j]?.getD 0) := fun j hj => by
          rw [hget j (by omega)]
          by_cases e : j = q
          · subst e; exact i5
          · have hj' := h.at_ (q := j) (by omega)
            exact (hd j (by omega)).keep hj'.1 hj'.2 i2
        obtain ⟨j1, j2, j3, j4⟩ := ih i1 (by omega) (by rw [i3, List.length_append]; omega) hdone hb'
        refine ⟨j1, fun i hi hc => ?_, fun i hi hc => ?_, j4⟩
        · have h1 := i2 i hi hc
          rw [j2 i hi (by rw [h1]; exact hc), h1]
        · rcases j3 i hi hc with h1 | h1
          · rcases i4 i hi h1 with h2 | h2
            · exact .inl h2
            · right
              -- what is in the queue of s1 is in that of s'
              have : ∀ (u : Nat) {p : Nat} {x y : BS}, bfsTo cf n u p x = some y → BInv n x → p ≤ x.Q.length → ∀ z ∈ x.Q, z ∈ y.Q := by
                intro u
                induction u with
                | zero => intro p x y h _ _ z hz; simp only [bfsTo, Option.some.injEq] at h; subst h; exact hz
                | succ u ihu =>
                  intro p x y h hx hp z hz
                  rw [bfsTo] at h
                  split at h
                  · rename_i hlt2
                    rcases hr2 : rowTo cf (x.Q[p]?.getD 0) n x with _ | x1
                    · rw [hr2] at h; cases h
                    · rw [hr2] at h
                      obtain ⟨xa, xc⟩ := hx.at_ hlt2
                      obtain ⟨k1, k2, ⟨v2, k3⟩, k4, k5⟩ := row_keeps xa n (Nat.le_refl _) hx xc hr2
                      exact ihu h k1 (by rw [k3, List.length_append]; omega) z (by rw [k3]; exact List.mem_append.2 (.inl hz))
                  · simp only [Option.some.injEq] at h; subst h; exact hz
              exact this t hb' i1 (by rw [i3, List.length_append]; omega) i h2
          · exact .inr h1
    · rename_i hge
      simp only [Option.some.injEq] at hb
      subst hb
      refine ⟨h, fun _ _ _ => rfl, fun i _ hc => .inl hc, fun a ha => ?_⟩
      obtain ⟨j, hj, rfl⟩ := List.mem_iff_getElem.1 ha
      have := hd j (by omega)
      rw [List.getElem?_eq_getElem hj] at this
      exact this
/-- What the colours say when the first k positions have been gone through. -/
structure FstInv (cf : Nat → Nat → Bool) (n k : Nat) (C : List Int) : Prop where
  len : C.length = n
  rng : ∀ i, i < n → 0 ≤ C[i]?.getD 0 ∧ C[i]?.getD 0 ≤ 2
  some_ : ∀ i, i < k → C[i]?.getD 0 ≠ 0
  done : ∀ a, a < n → C[a]?.getD 0 ≠ 0 → Done cf n C a
theorem first_inv {cf : Nat → Nat → Bool} {n : Nat} (k : Nat) (hk : k ≤ n) : ∀ {C : List Int}, firstTo cf n k = some C → FstInv cf n k C := by
  induction k with
  | zero =>
    intro C h
    simp only [firstTo, Option.some.injEq] at h
    subst h
    refine ⟨by simp, fun i hi => by simp [hi], fun i hi => by omega, fun a ha hc => ?_⟩
    simp [ha] at hc
  | succ k ih =>
    intro C h
    rw [firstTo] at h
    rcases hf : firstTo cf n k with _ | C0
    · rw [hf] at h; cases h
    · rw [hf] at h
      obtain ⟨l0, r0, s0, d0⟩ := ih (by omega) hf
      have h' : (if C0[k]?.getD 0 ≠ 0 then some C0 else (bfsTo cf n (n + 1) 0 ⟨C0.set k 1, [k]⟩).map BS.C) = some C := h
      split at h'
      · rename_i hc
        injection h' with h'
        subst h'
        refine ⟨l0, r0, fun i hi => ?_, d0⟩
        by_cases e : i = k
        · subst e; exact hc
        · exact s0 i (by omega)
      · rename_i hc
        have hc0 : C0[k]?.getD 0 = 0 := by omega
        rcases hb : bfsTo cf n (n + 1) 0 ⟨C0.set k 1, [k]⟩ with _ | s'
        · rw [hb] at h'; cases h'
        · rw [hb] at h'
          have e : s'.C = C := by injection h'
          subst e
          have hst := BInv.start l0 r0 (show k < n by omega)
          obtain ⟨j1, j2, j3, j4⟩ := bfs_keeps (n + 1) hst (by omega) (by simp) (fun j hj => by omega) hb
          have hset : ∀ i, i < n → (C0.set k 1)[i]?.getD 0 = if i = k then 1 else C0[i]?.getD 0 := fun i hi => by
            by_cases e : i = k
            · subst e
              rw [List.getElem?_set_self (by omega), if_pos rfl]; rfl
            · rw [List.getElem?_set_ne (by omega), if_neg e]
          have hold : ∀ i, i < n → C0[i]?.getD 0 ≠ 0 → s'.C[i]?.getD 0 = C0[i]?.getD 0 := fun i hi hci => by
            have hik : i ≠ k := fun e => hci (by rw [e]; exact hc0)
            have h1 : (C0.set k 1)[i]?.getD 0 = C0[i]?.getD 0 := by rw [hset i hi, if_neg hik]
            have h2 := j2 i hi (by show (C0.set k 1)[i]?.getD 0 ≠ 0; rw [h1]; exact hci)
            rw [h2]; exact h1
          refine ⟨j1.len, fun i hi => ⟨j1.lo i hi, j1.hi i hi⟩, fun i hi => ?_, fun a ha hc => ?_⟩
          · by_cases e : i = k
            · subst e
              have h1 : (C0.set i 1)[i]?.getD 0 = 1 := by rw [hset i (by omega), if_pos rfl]
              rw [j2 i (by omega) (by show (C0.set i 1)[i]?.getD 0 ≠ 0; rw [h1]; decide)]
              show (C0.set i 1)[i]?.getD 0 ≠ 0
              rw [h1]; decide
            · rw [hold i (by omega) (s0 i (by omega))]; exact s0 i (by omega)
          · by_cases hca : C0[a]?.getD 0 = 0
            · by_cases hq : a ∈ s'.Q
              · exact j4 a hq
              · exfalso
                rcases j3 a ha hc with h1 | h1
                · have h2 : (C0.set k 1)[a]?.getD 0 ≠ 0 := h1
                  rw [hset a ha] at h2
                  by_cases e : a = k
                  · -- k itself is in the queue
                    subst e
                    have : ∀ (u : Nat) {p : Nat} {x y : BS}, bfsTo cf n u p x = some y → BInv n x → p ≤ x.Q.length → ∀ z ∈ x.Q, z ∈ y.Q := by
                      intro u
                      induction u with
                      | zero => intro p x y h _ _ z hz; simp only [bfsTo, Option.some.injEq] at h; subst h; exact hz
                      | succ u ihu =>
                        intro p x y h hx hp z hz
                        rw [bfsTo] at h
                        split at h
                        · rename_i hlt2
                          rcases hr2 : rowTo cf (x.Q[p]?.getD 0) n x with _ | x1
                          · rw [hr2] at h; cases h
                          · rw [hr2] at h
                            obtain ⟨xa, xc⟩ := hx.at_ hlt2
                            obtain ⟨k1, k2, ⟨v2, k3⟩, k4, k5⟩ := row_keeps xa n (Nat.le_refl _) hx xc hr2
                            exact ihu h k1 (by rw [k3, List.length_append]; omega) z (by rw [k3]; exact List.mem_append.2 (.inl hz))
                        · simp only [Option.some.injEq] at h; subst h; exact hz
                    exact hq (this (n + 1) hb hst (by simp) a (by simp))
                  · rw [if_neg e] at h2; exact h2 hca
                · exact hq h1
            · have hd := d0 a ha hca
              exact hd.keep ha hca hold
/-- If the colouring goes through, there are two colours. -/
theorem proper_of_first {cf : Nat → Nat → Bool} {n : Nat} {C : List Int} (h : firstTo cf n n = some C) : Proper cf n (fun i => decide (C[i]?.getD 0 = 1)) := by
  obtain ⟨_, r, s, d⟩ := first_inv n (Nat.le_refl _) h
  intro a b ha hb hl
  have h1 := d a ha (s a ha) b hb hl
  have h2 := r a ha
  have h3 := r b hb
  have h4 := s a ha
  simp only [ne_eq, decide_eq_decide]
  intro e
  by_cases e1 : C[a]?.getD 0 = 1
  · have := e.1 e1; omega
  · have : ¬ C[b]?.getD 0 = 1 := fun h => e1 (e.2 h)
    omega
end Go.Proofs.Ytmnnehpoaedifaa
/- Plain mathematics of layer 2: if there are two colours, the colouring goes through. -/
namespace Go.Proofs.Ytmnnehpoaedifaa

/-- What holds while the positions that hang together with k are coloured. -/
structure CompInv (n : Nat) (f : Nat → Bool) (C0 : List Int) (k : Nat) (s : BS) : Prop where
  inv : BInv n s
  ext : ∀ i, i < n → C0[i]?.getD 0 ≠ 0 → s.C[i]?.getD 0 = C0[i]?.getD 0
  new : ∀ i ∈ s.Q, C0[i]?.getD 0 = 0
  all : ∀ i, i < n → s.C[i]?.getD 0 ≠ 0 → C0[i]?.getD 0 ≠ 0 ∨ i ∈ s.Q
  col : ∀ i ∈ s.Q, s.C[i]?.getD 0 = if f i = f k then 1 else 2
theorem visit_comp {cf : Nat → Nat → Bool} {n a b k : Nat} {f : Nat → Bool} {C0 : List Int} {s : BS} (hf : Proper cf n f) (hd : ∀ a, a < n → C0[a]?.getD 0 ≠ 0 → Done cf n C0 a)
    (h : CompInv n f C0 k s) (ha : a ∈ s.Q) (hb : b < n) : ∃ s', visit cf a b s = some s' ∧ CompInv n f C0 k s' ∧ ∃ v, s'.Q = s.Q ++ v := by
  have han := h.inv.lt a ha
  have hac := h.inv.col a ha
  unfold visit
  by_cases h1 : a = b ∨ cf (min a b) (max a b) = false
  · exact ⟨s, by rw [if_pos h1], h, [], by simp⟩
  · rw [if_neg h1]
    have hl : link cf a b := ⟨fun e => h1 (.inl e), by
      cases hc : cf (min a b) (max a b) with
      | true => rfl
      | false => exact absurd (.inr hc) h1⟩
    have hne := hf a b han hb hl
    have hb0 : C0[b]?.getD 0 = 0 := by
      by_cases e : C0[b]?.getD 0 = 0
      · exact e
      · exact absurd (h.new a ha) (hd b hb e a han (link_symm hl)).1
    have hca := h.col a ha
    by_cases h3 : s.C[b]?.getD 0 = 0
    · rw [if_neg (by rw [h3]; exact fun e => hac e.symm), if_pos h3]
      refine ⟨_, rfl, ⟨h.inv.add han hb hac h3, fun i hi hc => ?_, fun i hi => ?_, fun i hi hc => ?_, fun i hi => ?_⟩, [b], rfl⟩
      · have hib : i ≠ b := fun e => hc (by rw [e]; exact hb0)
        show (s.C.set b (3 - s.C[a]?.getD 0))[i]?.getD 0 = _
        rw [List.getElem?_set_ne (by omega)]
        exact h.ext i hi hc
      · have hi' : i ∈ s.Q ++ [b] := hi
        rcases List.mem_append.1 hi' with hi' | hi'
        · exact h.new i hi'
        · rw [List.mem_singleton.1 hi']; exact hb0
      · show _ ∨ i ∈ s.Q ++ [b]
        by_cases e : i = b
        · right; rw [e]; simp
        · have hc' : (s.C.set b (3 - s.C[a]?.getD 0))[i]?.getD 0 ≠ 0 := hc
          rw [List.getElem?_set_ne (by omega)] at hc'
          rcases h.all i hi hc' with h4 | h4
          · exact .inl h4
          · exact .inr (List.mem_append.2 (.inl h4))
      · have hi' : i ∈ s.Q ++ [b] := hi
        show (s.C.set b (3 - s.C[a]?.getD 0))[i]?.getD 0 = _
        by_cases e : i = b
        · subst e
          rw [List.getElem?_set_self (by rw [h.inv.len]; exact hb), Option.getD_some, hca]
          cases e1 : f a <;> cases e2 : f i <;> cases e3 : f k <;> simp_all
        · rw [List.getElem?_set_ne (by omega)]
          rcases List.mem_append.1 hi' with h4 | h4
          · exact h.col i h4
          · exact absurd (List.mem_singleton.1 h4) e
    · have hbq : b ∈ s.Q := by
        rcases h.all b hb h3 with h4 | h4
        · exact absurd hb0 h4
        · exact h4
      have hcb := h.col b hbq
      have hne2 : ¬ s.C[b]?.getD 0 = s.C[a]?.getD 0 := by
        rw [hca, hcb]
        cases e1 : f a <;> cases e2 : f b <;> cases e3 : f k <;> simp_all
      rw [if_neg hne2, if_neg h3]
      exact ⟨s, rfl, h, [], by simp⟩
theorem row_comp {cf : Nat → Nat → Bool} {n a k : Nat} {f : Nat → Bool} {C0 : List Int} (hf : Proper cf n f) (hd : ∀ a, a < n → C0[a]?.getD 0 ≠ 0 → Done cf n C0 a)
    (j : Nat) (hj : j ≤ n) : ∀ {s : BS}, CompInv n f C0 k s → a ∈ s.Q → ∃ s', rowTo cf a j s = some s' ∧ CompInv n f C0 k s' ∧ ∃ v, s'.Q = s.Q ++ v := by
  induction j with
  | zero => intro s h _; exact ⟨s, rfl, h, [], by simp⟩
  | succ j ih =>
    intro s h ha
    obtain ⟨s1, e1, h1, v1, q1⟩ := ih (by omega) h ha
    obtain ⟨s2, e2, h2, v2, q2⟩ := visit_comp hf hd h1 (by rw [q1]; exact List.mem_append.2 (.inl ha)) (show j < n by omega)
    exact ⟨s2, by rw [rowTo, e1]; exact e2, h2, v1 ++ v2, by rw [q2, q1, List.append_assoc]⟩
theorem bfs_comp {cf : Nat → Nat → Bool} {n k : Nat} {f : Nat → Bool} {C0 : List Int} (hf : Proper cf n f) (hd : ∀ a, a < n → C0[a]?.getD 0 ≠ 0 → Done cf n C0 a)
    (t : Nat) : ∀ {q : Nat} {s : BS}, CompInv n f C0 k s → ∃ s', bfsTo cf n t q s = some s' := by
  induction t with
  | zero => intro q s _; exact ⟨s, rfl⟩
  | succ t ih =>
    intro q s h
    rw [bfsTo]
    split
    · rename_i hlt
      obtain ⟨s1, e1, h1, _⟩ := row_comp hf hd n (Nat.le_refl _) h (show s.Q[q]?.getD 0 ∈ s.Q by rw [List.getElem?_eq_getElem hlt]; exact List.getElem_mem _)
      rw [e1]
      exact ih h1
    · exact ⟨s, rfl⟩
/-- If there are two colours, the colouring goes through. -/
theorem first_of_proper {cf : Nat → Nat → Bool} {n : Nat} {f : Nat → Bool} (hf : Proper cf n f) (k : Nat) (hk : k ≤ n) : ∃ C, firstTo cf n k = some C := by
  induction k with
  | zero => exact ⟨_, rfl⟩
  | succ k ih =>
    obtain ⟨C0, h0⟩ := ih (by omega)
    obtain ⟨l0, r0, s0, d0⟩ := first_inv k (by omega) h0
    rw [firstTo, h0]
    show ∃ C, (if C0[k]?.getD 0 ≠ 0 then some C0 else (bfsTo cf n (n + 1) 0 ⟨C0.set k 1, [k]⟩).map BS.C) = some C
    split
    · exact ⟨C0, rfl⟩
    · rename_i hc
      have hc0 : C0[k]?.getD 0 = 0 := by omega
      have hset : ∀ i, i < n → (C0.set k 1)[i]?.getD 0 = if i = k then 1 else C0[i]?.getD 0 := fun i hi => by
        by_cases e : i = k
        · subst e
          rw [List.getElem?_set_self (by omega), if_pos rfl]; rfl
        · rw [List.getElem?_set_ne (by omega), if_neg e]
      have hci : CompInv n f C0 k ⟨C0.set k 1, [k]⟩ := by
        refine ⟨BInv.start l0 r0 (by omega), fun i hi hci => ?_, fun i hi => ?_, fun i hi hci => ?_, fun i hi => ?_⟩
        · show (C0.set k 1)[i]?.getD 0 = _
          rw [hset i hi, if_neg (fun e => hci (by rw [e]; exact hc0))]
        · rw [List.mem_singleton.1 hi]; exact hc0
        · have hci' : (C0.set k 1)[i]?.getD 0 ≠ 0 := hci
          rw [hset i hi] at hci'
          by_cases e : i = k
          · right; rw [e]; show k ∈ [k]; simp
          · rw [if_neg e] at hci'; exact .inl hci'
        · rw [List.mem_singleton.1 hi]
          show (C0.set k 1)[k]?.getD 0 = _
          rw [hset k (by omega), if_pos rfl, if_pos rfl]
      obtain ⟨s', e⟩ := bfs_comp hf d0 (n + 1) (q := 0) hci
      rw [e]
      exact ⟨s'.C, rfl⟩
end Go.Proofs.Ytmnnehpoaedifaa
