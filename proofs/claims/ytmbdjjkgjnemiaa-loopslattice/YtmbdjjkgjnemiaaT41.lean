import Derived.Test.YtmbdjjkgjnemiaaT38
import Derived.Test.YtmbdjjkgjnemiaaT14
import Derived.Test.YtmbdjjkgjnemiaaT30
/- Layer 6, mathematics: nodes of one list within another; joins and meets are bounds. -/
namespace Go.Proofs.Ytmbdjjkgjnemiaa
open Go.RowKit
set_option linter.unusedVariables false

/-- The nodes of N lie within J, each at its e. -/
structure Emb (N J : List Nd) (e : Nat → Nat) : Prop where
  lt : ∀ p, p < N.length → e p < J.length
  kind : ∀ p, p < N.length → (nd J (e p)).k = (nd N p).k
  a : ∀ p, p < N.length → 4 ≤ (nd N p).k → (nd J (e p)).a = e (nd N p).a
  b : ∀ p, p < N.length → 4 ≤ (nd N p).k → (nd J (e p)).b = e (nd N p).b
theorem emb_l (N M : List Nd) : Emb N (joinN N M) (fun p => p) :=
  ⟨fun p hp => by rw [joinN_len]; omega, fun p hp => by rw [joinN_l hp], fun p hp _ => by rw [joinN_l hp], fun p hp _ => by rw [joinN_l hp]⟩
theorem shN_k (n : Nat) (x : Nd) : (shN n x).k = x.k := by unfold shN; split <;> rfl
theorem shN_part {n : Nat} {x : Nd} (h : 4 ≤ x.k) : (shN n x).a = n + x.a ∧ (shN n x).b = n + x.b := by unfold shN; rw [if_pos h]; exact ⟨Nat.add_comm _ _, Nat.add_comm _ _⟩
theorem emb_r (N M : List Nd) : Emb M (joinN N M) (fun p => N.length + p) :=
  ⟨fun p hp => by rw [joinN_len]; omega, fun p hp => by rw [joinN_r hp, shN_k], fun p hp h4 => by rw [joinN_r hp, (shN_part h4).1], fun p hp h4 => by rw [joinN_r hp, (shN_part h4).2]⟩
theorem eqT_emb {N J : List Nd} {e : Nat → Nat} (hok : OkN N) (h : Emb N J e) {p q : Nat} (hp : p < N.length) (hq : q < N.length) : EqT J (e p, e q) ↔ EqT N (p, q) := by
  constructor
  · intro g
    refine ⟨fun x => x.1 < N.length ∧ x.2 < N.length ∧ EqT J (e x.1, e x.2), fun x ⟨h1, h2, g⟩ => ?_, hp, hq, g⟩
    have s := eqT_clo J _ g
    have k1 := h.kind _ h1
    have k2 := h.kind _ h2
    have sk : (nd J (e x.1)).k = (nd J (e x.2)).k := s.1
    refine ⟨by omega, ?_⟩
    rcases s.2 with s4 | ⟨sa, sb⟩
    · have s4 : (nd J (e x.1)).k < 4 := s4
      exact .inl (by omega)
    · by_cases h4 : (nd N x.1).k < 4
      · exact .inl h4
      · dsimp only at sa sb
        rw [h.a _ h1 (by omega), h.a _ h2 (by omega)] at sa
        rw [h.b _ h1 (by omega), h.b _ h2 (by omega)] at sb
        exact .inr ⟨⟨hok.a _ h1, hok.a _ h2, sa⟩, ⟨hok.b _ h1, hok.b _ h2, sb⟩⟩
  · intro g
    refine ⟨fun x => ∃ p q, p < N.length ∧ q < N.length ∧ x = (e p, e q) ∧ EqT N (p, q), fun x ⟨p, q, h1, h2, hx, g⟩ => ?_, p, q, hp, hq, rfl, g⟩
    subst hx
    have s := eqT_clo N _ g
    have k1 := h.kind _ h1
    have k2 := h.kind _ h2
    have sk : (nd N p).k = (nd N q).k := s.1
    refine ⟨by dsimp only; omega, ?_⟩
    by_cases h4 : (nd N p).k < 4
    · exact .inl (by dsimp only; omega)
    · rcases s.2 with s4 | ⟨sa, sb⟩
      · exact absurd s4 h4
      · refine .inr ⟨⟨_, _, hok.a _ h1, hok.a _ h2, ?_, sa⟩, ⟨_, _, hok.b _ h1, hok.b _ h2, ?_, sb⟩⟩
        · dsimp only; rw [h.a _ h1 (by omega), h.a _ h2 (by omega)]
        · dsimp only; rw [h.b _ h1 (by omega), h.b _ h2 (by omega)]
theorem subT_emb {N J : List Nd} {e : Nat → Nat} (hok : OkN N) (h : Emb N J e) {p q : Nat} (hp : p < N.length) (hq : q < N.length) : SubT J (e p, e q) ↔ SubT N (p, q) := by
  constructor
  · intro g
    refine ⟨fun x => x.1 < N.length ∧ x.2 < N.length ∧ SubT J (e x.1, e x.2), fun x ⟨h1, h2, g⟩ => ?_, hp, hq, g⟩
    obtain ⟨p, q⟩ := x
    dsimp only at h1 h2 g
    have k1 := h.kind _ h1
    have k2 := h.kind _ h2
    refine stp_iff.2 ?_
    rcases stp_iff.1 (subT_clo J _ g) with s | s | ⟨s, s'⟩
    · exact .inl (by omega)
    · exact .inr (.inl (by omega))
    · refine .inr (.inr ⟨by omega, ?_⟩)
      by_cases h4 : (nd N p).k < 4
      · exact .inl h4
      · rcases s' with s' | ⟨sa, sb⟩
        · omega
        · right
          unfold pB at sb ⊢
          dsimp only at sb ⊢
          rw [h.b _ h1 (by omega), h.b _ h2 (by omega)] at sb
          refine ⟨?_, hok.b _ h1, hok.b _ h2, sb⟩
          by_cases h5 : (nd N p).k = 5
          · rw [pA_five (by omega), h.a _ h1 (by omega), h.a _ h2 (by omega)] at sa
            rw [pA_five h5]
            exact ⟨hok.a _ h2, hok.a _ h1, sa⟩
          · rw [pA_four (by omega), h.a _ h1 (by omega), h.a _ h2 (by omega)] at sa
            rw [pA_four h5]
            exact ⟨hok.a _ h1, hok.a _ h2, sa⟩
  · intro g
    refine ⟨fun x => ∃ p q, p < N.length ∧ q < N.length ∧ x = (e p, e q) ∧ SubT N (p, q), fun x ⟨p, q, h1, h2, hx, g⟩ => ?_, p, q, hp, hq, rfl, g⟩
    subst hx
    have k1 := h.kind _ h1
    have k2 := h.kind _ h2
    refine stp_iff.2 ?_
    rcases stp_iff.1 (subT_clo N _ g) with s | s | ⟨s, s'⟩
    · exact .inl (by omega)
    · exact .inr (.inl (by omega))
    · refine .inr (.inr ⟨by omega, ?_⟩)
      by_cases h4 : (nd N p).k < 4
      · exact .inl (by omega)
      · rcases s' with s' | ⟨sa, sb⟩
        · omega
        · right
          unfold pB at sb ⊢
          dsimp only at sb ⊢
          refine ⟨?_, _, _, hok.b _ h1, hok.b _ h2, by rw [h.b _ h1 (by omega), h.b _ h2 (by omega)], sb⟩
          by_cases h5 : (nd N p).k = 5
          · rw [pA_five h5] at sa
            rw [pA_five (by omega), h.a _ h1 (by omega), h.a _ h2 (by omega)]
            exact ⟨_, _, hok.a _ h2, hok.a _ h1, rfl, sa⟩
          · rw [pA_four h5] at sa
            rw [pA_four (by omega), h.a _ h1 (by omega), h.a _ h2 (by omega)]
            exact ⟨_, _, hok.a _ h1, hok.a _ h2, rfl, sa⟩
/-- What is reached, under other names, of any kind. -/
theorem rch_mapK {K K' : Type} [DecidableEq K] [DecidableEq K'] {sc : K → List K} {sc' : K' → List K'} {k0 : K} (f : K → K') (P : K → Prop) (h0 : P k0) (hP : ∀ q, P q → ∀ x ∈ sc q, P x) (hsc : ∀ q, P q → sc' (f q) = (sc q).map f) (hinj : ∀ x y, P x → P y → f x = f y → x = y) :
    ∀ m, rch sc' (f k0) m = (rch sc k0 m).map f
  | 0 => rfl
  | m + 1 => by
    have ih := rch_mapK f P h0 hP hsc hinj m
    have hall := rch_all sc k0 (P := P) h0 hP m
    have hadd : ∀ (xs L : List K), (∀ x ∈ L, P x) → (∀ x ∈ xs, P x) → addAll (L.map f) (xs.map f) = (addAll L xs).map f := by
      intro xs
      induction xs with
      | nil => intro L _ _; rfl
      | cons x xs ihx =>
        intro L hL hx
        show addAll (addK (L.map f) (f x)) (xs.map f) = (addAll (addK L x) xs).map f
        have hk : addK (L.map f) (f x) = (addK L x).map f := by
          by_cases hm : x ∈ L
          · rw [addK_in hm, addK_in (List.mem_map.2 ⟨x, hm, rfl⟩)]
          · rw [addK_new hm, addK_new (fun hm' => by
              obtain ⟨y, hy, e⟩ := List.mem_map.1 hm'
              exact hm (hinj y x (hL y hy) (hx x List.mem_cons_self) e ▸ hy)), List.map_append]
            rfl
        rw [hk]
        refine ihx _ (fun y hy => ?_) (fun y hy => hx y (List.mem_cons_of_mem _ hy))
        rcases addK_sub hy with hy | hy
        · exact hL y hy
        · rw [hy]; exact hx x List.mem_cons_self
    rcases h : (rch sc k0 m)[m]? with _ | q
    · have hle := List.getElem?_eq_none_iff.1 h
      have e1 : rch sc k0 (m + 1) = rch sc k0 m := rch_end sc k0 hle 1
      have e2 : rch sc' (f k0) (m + 1) = rch sc' (f k0) m := rch_end sc' (f k0) (by rw [ih, List.length_map]; exact hle) 1
      rw [e1, e2, ih]
    · have hq : P q := hall q (List.mem_of_getElem? h)
      have h' : (rch sc' (f k0) m)[m]? = some (f q) := by rw [ih, List.getElem?_map, h]; rfl
      rw [rch_at sc k0 h, rch_at sc' (f k0) h', ih, hsc q hq]
      exact hadd _ _ hall (hP q hq)
theorem idx_map {K K' : Type} [DecidableEq K] [DecidableEq K'] (f : K → K') (P : K → Prop) (hinj : ∀ x y, P x → P y → f x = f y → x = y) : ∀ (L : List K) (x : K), (∀ y ∈ L, P y) → P x → (L.map f).idxOf (f x) = L.idxOf x
  | [], x, _, _ => rfl
  | y :: L, x, hL, hx => by
    have ih := idx_map f P hinj L x (fun z hz => hL z (List.mem_cons_of_mem _ hz)) hx
    rw [List.map_cons, List.idxOf_cons, List.idxOf_cons, ih]
    by_cases e : y = x
    · subst e; simp
    · have e' : f y ≠ f x := fun e' => e (hinj y x (hL y List.mem_cons_self) hx e')
      rw [show (f y == f x) = false from by simpa using e', show (y == x) = false from by simpa using e]
/-- Nodes that unfold makes under other names are the same. -/
theorem unf_mapK {K K' : Type} [DecidableEq K] [DecidableEq K'] {sc : K → List K} {sc' : K' → List K'} {mk : K → List Nat → Nd} {mk' : K' → List Nat → Nd} {k0 : K} (f : K → K') (P : K → Prop) (h0 : P k0) (hP : ∀ q, P q → ∀ x ∈ sc q, P x) (hsc : ∀ q, P q → sc' (f q) = (sc q).map f) (hinj : ∀ x y, P x → P y → f x = f y → x = y) (hmk : ∀ q ps, P q → mk' (f q) ps = mk q ps)
    {out : List Nd} (h : Unf sc k0 mk out) : Unf sc' (f k0) mk' out := by
  obtain ⟨m, hm, rfl⟩ := h
  have hr := rch_mapK f P h0 hP hsc hinj m
  have hall := rch_all sc k0 (P := P) h0 hP m
  refine ⟨m, by rw [hr, List.length_map, hm], ?_⟩
  unfold outL
  rw [hr, ← List.map_take, List.map_map]
  refine List.map_congr_left fun q hq => ?_
  have hq' : q ∈ rch sc k0 m := List.mem_of_mem_take hq
  have hPq := hall q hq'
  show mk q _ = mk' (f q) ((sc' (f q)).map _)
  rw [hmk q _ hPq, hsc q hPq, List.map_map]
  congr 1
  refine List.map_congr_left fun x hx => ?_
  exact (idx_map f P hinj _ x hall (hP q hPq x hx)).symm
theorem can_emb {N J : List Nd} {e : Nat → Nat} (hN : OkN N) (hJ : OkN J) (h : Emb N J e) {p : Nat} (hp : p < N.length) {o : List Nd} (hc : IsCan N p o) : IsCan J (e p) o := by
  obtain ⟨cl, hcl, hu⟩ := hc
  obtain ⟨cj, hcj⟩ := cls_exists J
  have key : ∀ q, q < N.length → cl q < N.length ∧ cl (cl q) = cl q ∧ cj (e (cl q)) = cj (e q) := fun q hq => by
    have l := hcl.le q hq
    have hlt : cl q < N.length := by omega
    exact ⟨hlt, hcl.idem q hq, (hcj.iff _ _ (h.lt _ hlt) (h.lt _ hq)).2 ((eqT_emb hN h hlt hq).2 ((hcl.iff _ _ hlt hq).1 (hcl.idem q hq)))⟩
  refine ⟨cj, hcj, ?_⟩
  rw [← (key p hp).2.2]
  refine unf_mapK (fun q => cj (e q)) (fun q => q < N.length ∧ cl q = q) ⟨(key p hp).1, (key p hp).2.1⟩ (fun q hq x hx => ?_) (fun q hq => ?_) (fun x y hx hy he => ?_) (fun q ps hq => ?_) hu
  · unfold scC at hx
    split at hx
    · rcases List.mem_cons.1 hx with e' | hx
      · subst e'; exact ⟨(key _ (hN.a q hq.1)).1, (key _ (hN.a q hq.1)).2.1⟩
      · rw [List.mem_singleton] at hx
        subst hx; exact ⟨(key _ (hN.b q hq.1)).1, (key _ (hN.b q hq.1)).2.1⟩
    · cases hx
  · obtain ⟨n1, n2, n3⟩ := cls_node hcj hJ (h.lt q hq.1)
    have hk := h.kind q hq.1
    unfold scC
    by_cases h4 : 4 ≤ (nd N q).k
    · obtain ⟨a1, b1⟩ := n2 (by omega)
      rw [if_pos (show 4 ≤ (nd J (cj (e q))).k by omega), if_pos h4, a1, b1, h.a q hq.1 h4, h.b q hq.1 h4, List.map_cons, List.map_cons, (key _ (hN.a q hq.1)).2.2, (key _ (hN.b q hq.1)).2.2]
      rfl
    · rw [if_neg (show ¬ 4 ≤ (nd J (cj (e q))).k by omega), if_neg h4]; rfl
  · have := (eqT_emb hN h hx.1 hy.1).1 ((hcj.iff _ _ (h.lt _ hx.1) (h.lt _ hy.1)).1 he)
    have := (hcl.iff _ _ hx.1 hy.1).2 this
    rw [hx.2, hy.2] at this
    exact this
  · obtain ⟨n1, n2, n3⟩ := cls_node hcj hJ (h.lt q hq.1)
    have hk := h.kind q hq.1
    unfold mkC
    by_cases h4 : 4 ≤ (nd N q).k
    · rw [if_pos (show 4 ≤ (nd J (cj (e q))).k by omega), if_pos h4, n1, hk]
    · rw [if_neg (show ¬ 4 ≤ (nd J (cj (e q))).k by omega), if_neg h4]
      have l1 := hN.leaf q hq.1 (by omega)
      have l2 := hJ.leaf (cj (e q)) (by have := hcj.le _ (h.lt q hq.1); have := h.lt q hq.1; omega) (by omega)
      have e1 : (nd J (cj (e q))).k = (nd N q).k := by omega
      cases hx : nd J (cj (e q)) with
      | mk a b c =>
        cases hy : nd N q with
        | mk a' b' c' =>
          rw [hx] at l2 e1
          rw [hy] at l1 e1
          dsimp only at l1 l2 e1
          rw [e1, l1.1, l1.2, l2.1, l2.2]
/-- Canonical types of equal nodes of two lists. -/
theorem can_two {N M : List Nd} (hN : OkN N) (hM : OkN M) {i j : Nat} (hi : i < N.length) (hj : j < M.length) (h : EqT (joinN N M) (i, N.length + j)) {o a : List Nd} (h1 : IsCan N i o) (h2 : IsCan M j a) : o = a := by
  have hJ := joinN_ok hN hM
  have c1 := can_emb hN hJ (emb_l N M) hi h1
  have c2 := can_emb hM hJ (emb_r N M) hj h2
  have hi' : i < (joinN N M).length := by rw [joinN_len]; omega
  have hj' : N.length + j < (joinN N M).length := by rw [joinN_len]; omega
  exact (can_of_eq hi' hj' h c1).uniq hJ hj' c2
end Go.Proofs.Ytmbdjjkgjnemiaa
/- Layer 6, mathematics: the nodes of goals are joins and meets. -/
namespace Go.Proofs.Ytmbdjjkgjnemiaa
open Go.RowKit
set_option linter.unusedVariables false

abbrev s1G (N : List Nd) (x : Tri) : Nat := (simG N x).2.1
abbrev s2G (N : List Nd) (x : Tri) : Nat := (simG N x).2.2
/-- The nodes of M stand for goals of N. -/
structure RepS (N M : List Nd) (R : Nat → Tri → Prop) : Prop where
  lt : ∀ c x, R c x → c < M.length
  ok : ∀ c x, R c x → OkG N.length x
  diff : ∀ c x, R c x → (nd N (s1G N x)).k ≠ (nd N (s2G N x)).k → (nd M c).k = farN x.1
  same : ∀ c x, R c x → (nd N (s1G N x)).k = (nd N (s2G N x)).k → (nd M c).k = (nd N (s1G N x)).k
  part : ∀ c x, R c x → (nd N (s1G N x)).k = (nd N (s2G N x)).k → 4 ≤ (nd N (s1G N x)).k →
    R (nd M c).a (if (nd N (s1G N x)).k = 5 then othN x.1 else x.1, (nd N (s1G N x)).a, (nd N (s2G N x)).a) ∧ R (nd M c).b (x.1, (nd N (s1G N x)).b, (nd N (s2G N x)).b)
theorem simG_keep {N : List Nd} {u i j m : Nat} (hm : m = i ∨ m = j) (hk : (nd N m).k ≠ farN (othN u)) : m = s1G N (u, i, j) ∨ m = s2G N (u, i, j) := by
  unfold s1G s2G simG
  dsimp only
  by_cases h1 : (nd N i).k = farN (othN u)
  · rw [if_pos h1]
    rcases hm with rfl | rfl
    · exact absurd h1 hk
    · exact .inl rfl
  · rw [if_neg h1]
    by_cases h2 : (nd N j).k = farN (othN u)
    · rw [if_pos h2]
      rcases hm with rfl | rfl
      · exact .inl rfl
      · exact absurd h2 hk
    · rw [if_neg h2]; exact hm
theorem simG_of {N : List Nd} {u i j : Nat} : (s1G N (u, i, j) = i ∨ s1G N (u, i, j) = j) ∧ (s2G N (u, i, j) = i ∨ s2G N (u, i, j) = j) := by
  unfold s1G s2G simG
  dsimp only
  split
  · exact ⟨.inr rfl, .inr rfl⟩
  · split
    · exact ⟨.inl rfl, .inl rfl⟩
    · exact ⟨.inl rfl, .inr rfl⟩
theorem simG_kind {N : List Nd} {u i j : Nat} (h : (nd N (s1G N (u, i, j))).k ≠ (nd N (s2G N (u, i, j))).k) : (nd N (s1G N (u, i, j))).k ≠ farN (othN u) ∧ (nd N (s2G N (u, i, j))).k ≠ farN (othN u) := by
  unfold s1G s2G simG at *
  dsimp only at *
  by_cases h1 : (nd N i).k = farN (othN u)
  · rw [if_pos h1] at h; exact absurd rfl h
  · rw [if_neg h1] at h ⊢
    by_cases h2 : (nd N j).k = farN (othN u)
    · rw [if_pos h2] at h; exact absurd rfl h
    · rw [if_neg h2] at h ⊢; exact ⟨h1, h2⟩
section
variable {N M : List Nd} {R : Nat → Tri → Prop}
theorem RepS.kJ (h : RepS N M R) {c : Nat} {x : Tri} (hx : R c x) : (nd (joinN N M) (N.length + c)).k = (nd M c).k := by rw [joinN_r (h.lt c x hx), shN_k]
theorem RepS.pJ (h : RepS N M R) {c : Nat} {x : Tri} (hx : R c x) (h4 : 4 ≤ (nd M c).k) : (nd (joinN N M) (N.length + c)).a = N.length + (nd M c).a ∧ (nd (joinN N M) (N.length + c)).b = N.length + (nd M c).b := by
  rw [joinN_r (h.lt c x hx)]; exact shN_part h4
/-- A join is above both nodes, a meet below both. -/
theorem RepS.bound (h : RepS N M R) {c u i j m : Nat} (hx : R c (u, i, j)) (hm : m = i ∨ m = j) : (u = 0 → SubT (joinN N M) (m, N.length + c)) ∧ (u = 1 → SubT (joinN N M) (N.length + c, m)) := by
  have key : Clo (joinN N M) (fun p => ∃ c u i j m, R c (u, i, j) ∧ (m = i ∨ m = j) ∧ ((u = 0 ∧ p = (m, N.length + c)) ∨ (u = 1 ∧ p = (N.length + c, m)))) := fun p ⟨c, u, i, j, m, hx, hm, hp⟩ => by
    obtain ⟨hu, hi, hj⟩ := h.ok _ _ hx
    dsimp only at hu hi hj
    have hmn : m < N.length := by rcases hm with rfl | rfl <;> assumption
    have kc := h.kJ hx
    have kd := h.diff _ _ hx
    have ks := h.same _ _ hx
    have kp := h.part _ _ hx
    dsimp only at kd kp
    rcases hp with ⟨rfl, rfl⟩ | ⟨rfl, rfl⟩
    · refine stp_iff.2 ?_
      rw [joinN_l hmn]
      by_cases h0 : (nd N m).k = 0
      · exact .inl h0
      · have hin := simG_keep (N := N) (u := 0) hm h0
        by_cases he : (nd N (s1G N (0, i, j))).k = (nd N (s2G N (0, i, j))).k
        · have ks := ks he
          have hmk : (nd N m).k = (nd N (s1G N (0, i, j))).k := by rcases hin with e | e <;> rw [e]; exact he.symm
          refine .inr (.inr ⟨by omega, ?_⟩)
          by_cases h4 : (nd N m).k < 4
          · exact .inl h4
          · obtain ⟨pa, pb⟩ := kp he (by omega)
            obtain ⟨ja, jb⟩ := h.pJ hx (by omega)
            right
            refine ⟨?_, _, 0, _, _, (nd N m).b, pb, by rcases hin with e | e <;> simp [e], .inl ⟨rfl, ?_⟩⟩
            · by_cases h5 : (nd N m).k = 5
              · rw [pA_five (by rw [joinN_l hmn]; exact h5), joinN_l hmn, ja]
                rw [if_pos (by omega)] at pa
                exact ⟨_, 1, _, _, (nd N m).a, pa, by rcases hin with e | e <;> simp [e], .inr ⟨rfl, rfl⟩⟩
              · rw [pA_four (by rw [joinN_l hmn]; exact h5), joinN_l hmn, ja]
                rw [if_neg (by omega)] at pa
                exact ⟨_, 0, _, _, (nd N m).a, pa, by rcases hin with e | e <;> simp [e], .inl ⟨rfl, rfl⟩⟩
            · unfold pB
              dsimp only
              rw [joinN_l hmn, jb]
        · exact .inr (.inl (by rw [kc, kd he]; rfl))
    · refine stp_iff.2 ?_
      rw [joinN_l hmn]
      by_cases h0 : (nd N m).k = 1
      · exact .inr (.inl h0)
      · have hin := simG_keep (N := N) (u := 1) hm h0
        by_cases he : (nd N (s1G N (1, i, j))).k = (nd N (s2G N (1, i, j))).k
        · have ks := ks he
          have hmk : (nd N m).k = (nd N (s1G N (1, i, j))).k := by rcases hin with e | e <;> rw [e]; exact he.symm
          refine .inr (.inr ⟨by omega, ?_⟩)
          by_cases h4 : (nd N m).k < 4
          · exact .inl (by omega)
          · obtain ⟨pa, pb⟩ := kp he (by omega)
            obtain ⟨ja, jb⟩ := h.pJ hx (by omega)
            right
            refine ⟨?_, _, 1, _, _, (nd N m).b, pb, by rcases hin with e | e <;> simp [e], .inr ⟨rfl, ?_⟩⟩
            · by_cases h5 : (nd N m).k = 5
              · rw [pA_five (by omega), joinN_l hmn, ja]
                rw [if_pos (by omega)] at pa
                exact ⟨_, 0, _, _, (nd N m).a, pa, by rcases hin with e | e <;> simp [e], .inl ⟨rfl, rfl⟩⟩
              · rw [pA_four (by omega), joinN_l hmn, ja]
                rw [if_neg (by omega)] at pa
                exact ⟨_, 1, _, _, (nd N m).a, pa, by rcases hin with e | e <;> simp [e], .inr ⟨rfl, rfl⟩⟩
            · unfold pB
              dsimp only
              rw [joinN_l hmn, jb]
        · exact .inl (by rw [kc, kd he]; rfl)
  exact ⟨fun hu => ⟨_, key, c, u, i, j, m, hx, hm, .inl ⟨hu, rfl⟩⟩, fun hu => ⟨_, key, c, u, i, j, m, hx, hm, .inr ⟨hu, rfl⟩⟩⟩
/-- It is the least one above both, or the greatest one below. -/
theorem RepS.least (h : RepS N M R) (hN : OkN N) {c u i j k : Nat} (hx : R c (u, i, j)) (hk : k < N.length) :
    (u = 0 → SubT N (i, k) → SubT N (j, k) → SubT (joinN N M) (N.length + c, k)) ∧ (u = 1 → SubT N (k, i) → SubT N (k, j) → SubT (joinN N M) (k, N.length + c)) := by
  have key : Clo (joinN N M) (fun p => ∃ c u i j k, R c (u, i, j) ∧ k < N.length ∧ ((u = 0 ∧ p = (N.length + c, k) ∧ SubT N (i, k) ∧ SubT N (j, k)) ∨ (u = 1 ∧ p = (k, N.length + c) ∧ SubT N (k, i) ∧ SubT N (k, j)))) := fun p ⟨c, u, i, j, k, hx, hk, hp⟩ => by
    have kc := h.kJ hx
    have kd := h.diff _ _ hx
    have ks := h.same _ _ hx
    have kp := h.part _ _ hx
    dsimp only at kd kp
    rcases hp with ⟨rfl, rfl, hi, hj⟩ | ⟨rfl, rfl, hi, hj⟩
    · have g1 : SubT N (s1G N (0, i, j), k) := by rcases (simG_of (N := N) (u := 0) (i := i) (j := j)).1 with e | e <;> rw [e] <;> assumption
      have g2 : SubT N (s2G N (0, i, j), k) := by rcases (simG_of (N := N) (u := 0) (i := i) (j := j)).2 with e | e <;> rw [e] <;> assumption
      have t1 := stp_iff.1 (subT_clo N _ g1)
      have t2 := stp_iff.1 (subT_clo N _ g2)
      refine stp_iff.2 ?_
      rw [joinN_l hk]
      by_cases h1 : (nd N k).k = 1
      · exact .inr (.inl h1)
      · by_cases he : (nd N (s1G N (0, i, j))).k = (nd N (s2G N (0, i, j))).k
        · have ks := ks he
          by_cases h0 : (nd N (s1G N (0, i, j))).k = 0
          · exact .inl (by omega)
          · rcases t1 with t | t | ⟨e1, r1⟩
            · exact absurd t h0
            · exact absurd t h1
            · rcases t2 with t | t | ⟨e2, r2⟩
              · omega
              · exact absurd t h1
              · refine .inr (.inr ⟨by omega, ?_⟩)
                by_cases h4 : (nd N (s1G N (0, i, j))).k < 4
                · exact .inl (by omega)
                · right
                  rcases r1 with r1 | ⟨a1, b1⟩
                  · omega
                  · rcases r2 with r2 | ⟨a2, b2⟩
                    · omega
                    · obtain ⟨pa, pb⟩ := kp he (by omega)
                      obtain ⟨ja, jb⟩ := h.pJ hx (by omega)
                      refine ⟨?_, _, 0, _, _, (nd N k).b, pb, hN.b k hk, .inl ⟨rfl, ?_, b1, b2⟩⟩
                      · by_cases h5 : (nd N k).k = 5
                        · rw [pA_five (by omega), joinN_l hk, ja]
                          rw [if_pos (by omega)] at pa
                          rw [pA_five (by omega)] at a1 a2
                          exact ⟨_, 1, _, _, (nd N k).a, pa, hN.a k hk, .inr ⟨rfl, rfl, a1, a2⟩⟩
                        · rw [pA_four (by omega), joinN_l hk, ja]
                          rw [if_neg (by omega)] at pa
                          rw [pA_four (by omega)] at a1 a2
                          exact ⟨_, 0, _, _, (nd N k).a, pa, hN.a k hk, .inl ⟨rfl, rfl, a1, a2⟩⟩
                      · unfold pB
                        dsimp only
                        rw [joinN_l hk, jb]
        · obtain ⟨z1, z2⟩ := simG_kind he
          have z1 : (nd N (s1G N (0, i, j))).k ≠ 0 := z1
          have z2 : (nd N (s2G N (0, i, j))).k ≠ 0 := z2
          rcases t1 with t | t | ⟨e1, _⟩
          · exact absurd t z1
          · exact absurd t h1
          · rcases t2 with t | t | ⟨e2, _⟩
            · exact absurd t z2
            · exact absurd t h1
            · omega
    · have g1 : SubT N (k, s1G N (1, i, j)) := by rcases (simG_of (N := N) (u := 1) (i := i) (j := j)).1 with e | e <;> rw [e] <;> assumption
      have g2 : SubT N (k, s2G N (1, i, j)) := by rcases (simG_of (N := N) (u := 1) (i := i) (j := j)).2 with e | e <;> rw [e] <;> assumption
      have t1 := stp_iff.1 (subT_clo N _ g1)
      have t2 := stp_iff.1 (subT_clo N _ g2)
      refine stp_iff.2 ?_
      rw [joinN_l hk]
      by_cases h1 : (nd N k).k = 0
      · exact .inl h1
      · by_cases he : (nd N (s1G N (1, i, j))).k = (nd N (s2G N (1, i, j))).k
        · have ks := ks he
          by_cases h0 : (nd N (s1G N (1, i, j))).k = 1
          · exact .inr (.inl (by omega))
          · rcases t1 with t | t | ⟨e1, r1⟩
            · exact absurd t h1
            · exact absurd t h0
            · rcases t2 with t | t | ⟨e2, r2⟩
              · exact absurd t h1
              · omega
              · refine .inr (.inr ⟨by omega, ?_⟩)
                by_cases h4 : (nd N k).k < 4
                · exact .inl h4
                · right
                  rcases r1 with r1 | ⟨a1, b1⟩
                  · omega
                  · rcases r2 with r2 | ⟨a2, b2⟩
                    · omega
                    · obtain ⟨pa, pb⟩ := kp he (by omega)
                      obtain ⟨ja, jb⟩ := h.pJ hx (by omega)
                      refine ⟨?_, _, 1, _, _, (nd N k).b, pb, hN.b k hk, .inr ⟨rfl, ?_, b1, b2⟩⟩
                      · by_cases h5 : (nd N k).k = 5
                        · rw [pA_five (by rw [joinN_l hk]; exact h5), joinN_l hk, ja]
                          rw [if_pos (by omega)] at pa
                          rw [pA_five h5] at a1 a2
                          exact ⟨_, 0, _, _, (nd N k).a, pa, hN.a k hk, .inl ⟨rfl, rfl, a1, a2⟩⟩
                        · rw [pA_four (by rw [joinN_l hk]; exact h5), joinN_l hk, ja]
                          rw [if_neg (by omega)] at pa
                          rw [pA_four h5] at a1 a2
                          exact ⟨_, 1, _, _, (nd N k).a, pa, hN.a k hk, .inr ⟨rfl, rfl, a1, a2⟩⟩
                      · unfold pB
                        dsimp only
                        rw [joinN_l hk, jb]
        · obtain ⟨z1, z2⟩ := simG_kind he
          have z1 : (nd N (s1G N (1, i, j))).k ≠ 1 := z1
          have z2 : (nd N (s2G N (1, i, j))).k ≠ 1 := z2
          rcases t1 with t | t | ⟨e1, _⟩
          · exact absurd t h1
          · exact absurd t z1
          · rcases t2 with t | t | ⟨e2, _⟩
            · exact absurd t h1
            · exact absurd t z2
            · omega
  exact ⟨fun hu h1 h2 => ⟨_, key, c, u, i, j, k, hx, hk, .inl ⟨hu, rfl, h1, h2⟩⟩, fun hu h1 h2 => ⟨_, key, c, u, i, j, k, hx, hk, .inr ⟨hu, rfl, h1, h2⟩⟩⟩
end
theorem ndz {x y : Nd} (hk : x.k = y.k) (hx : x.a = 0 ∧ x.b = 0) (hy : y.a = 0 ∧ y.b = 0) : x = y := by
  obtain ⟨a, b, c⟩ := x
  obtain ⟨a', b', c'⟩ := y
  dsimp only at hk hx hy
  rw [hk, hx.1, hx.2, hy.1, hy.2]
theorem idx_getK {K : Type} [DecidableEq K] {L : List K} {y : K} (h : y ∈ L) : L[ixK L y]? = some y := by
  unfold ixK
  rw [List.getElem?_eq_getElem (List.idxOf_lt_length_of_mem h), List.getElem_idxOf]
/-- What unfold makes of goals. -/
structure GoU (N : List Nd) (g : Tri) (L : List Tri) (out : List Nd) : Prop where
  len : out.length = L.length
  zero : L[0]? = some g
  nod : L.Nodup
  le : L.length ≤ 2 * (N.length * N.length)
  ok : ∀ x ∈ L, OkG N.length x
  at_ : ∀ a x, L[a]? = some x → nd out a = mkG N x ((scG N x).map (ixK L)) ∧ ∀ y ∈ scG N x, y ∈ L
theorem rch_zero {K : Type} [DecidableEq K] {sc : K → List K} {k0 : K} : ∀ m, (rch sc k0 m)[0]? = some k0
  | 0 => rfl
  | m + 1 => by
    obtain ⟨X, hX⟩ := rch_pre sc k0 m
    have := rch_zero (sc := sc) (k0 := k0) m
    rw [hX, List.getElem?_append_left (by
      rcases h : rch sc k0 m with _ | ⟨y, ys⟩
      · rw [h] at this; cases this
      · simp)]
    exact this
theorem goU_of {N : List Nd} (hN : OkN N) {g : Tri} (hg : OkG N.length g) {out : List Nd} (h : Unf (scG N) g (mkG N) out) : ∃ L, GoU N g L out := by
  obtain ⟨m, hm, rfl⟩ := h
  refine ⟨rch (scG N) g m, ?_, rch_zero m, rch_nodup _ _ m, rchG_len rfl hN hg m, rchG_ok rfl hN hg m, fun a x hx => ?_⟩
  · unfold outL
    rw [List.length_map, List.length_take]; omega
  · have ha : a < m := by rw [← hm]; exact (List.getElem?_eq_some_iff.1 hx).1
    refine ⟨?_, rch_parts (scG N) g ha hx⟩
    unfold nd outL
    rw [List.getElem?_map, List.getElem?_take, if_pos ha, hx]
    rfl
section
variable {N : List Nd} {g : Tri} {L : List Tri} {out : List Nd}
theorem GoU.rep (h : GoU N g L out) : RepS N out (fun c x => L[c]? = some x) := by
  refine ⟨fun c x hx => by rw [h.len]; exact (List.getElem?_eq_some_iff.1 hx).1, fun c x hx => h.ok x (List.mem_of_getElem? hx), fun c x hx hd => ?_, fun c x hx hs => ?_, fun c x hx hs h4 => ?_⟩
  · rw [(h.at_ c x hx).1]
    unfold mkG
    rw [if_neg hd]
  · rw [(h.at_ c x hx).1]
    unfold mkG
    rw [if_pos hs]
    split <;> rfl
  · obtain ⟨e, hm⟩ := h.at_ c x hx
    have hsc : scG N x = [(if (nd N (s1G N x)).k = 5 then othN x.1 else x.1, (nd N (s1G N x)).a, (nd N (s2G N x)).a), (x.1, (nd N (s1G N x)).b, (nd N (s2G N x)).b)] := by unfold scG; rw [if_pos ⟨hs, h4⟩]
    rw [hsc] at hm e
    rw [e]
    unfold mkG
    rw [if_pos hs, if_pos h4]
    exact ⟨idx_getK (hm _ List.mem_cons_self), idx_getK (hm _ (List.mem_cons_of_mem _ List.mem_cons_self))⟩
theorem farN_leaf {N : List Nd} {x : Tri} (ps : List Nat) (hd : (nd N (s1G N x)).k ≠ (nd N (s2G N x)).k) : mkG N x ps = ⟨farN x.1, 0, 0⟩ := by unfold mkG; rw [if_neg hd]
theorem GoU.okN (h : GoU N g L out) (hN : OkN N) : OkN out := by
  have hp : 0 < L.length := by
    have := h.zero
    exact (List.getElem?_eq_some_iff.1 this).1
  have hr := h.rep
  have all : ∀ c, c < out.length → (nd out c).k < 6 ∧ ((nd out c).k < 4 → (nd out c).a = 0 ∧ (nd out c).b = 0) ∧ (4 ≤ (nd out c).k → (nd out c).a < out.length ∧ (nd out c).b < out.length) := fun c hc => by
    have hcl : c < L.length := by rw [← h.len]; exact hc
    have hx : L[c]? = some L[c] := List.getElem?_eq_getElem hcl
    generalize L[c] = x at hx
    have hs := simG_ok (N := N) (h.ok x (List.mem_of_getElem? hx))
    by_cases he : (nd N (s1G N x)).k = (nd N (s2G N x)).k
    · have k1 := hr.same c x hx he
      have k6 := hN.kind _ hs.2.1
      refine ⟨by rw [k1]; exact k6, fun h4 => ?_, fun h4 => ?_⟩
      · rw [(h.at_ c x hx).1]
        unfold mkG
        rw [if_pos he, if_neg (by rw [k1] at h4; exact Nat.not_le.2 h4)]
        exact hN.leaf _ hs.2.1 (by rw [k1] at h4; exact h4)
      · obtain ⟨pa, pb⟩ := hr.part c x hx he (by rw [k1] at h4; exact h4)
        exact ⟨hr.lt _ _ pa, hr.lt _ _ pb⟩
    · have e := (h.at_ c x hx).1
      rw [farN_leaf _ he] at e
      have := farN_le x.1
      rw [e]
      exact ⟨by dsimp only; omega, fun _ => ⟨rfl, rfl⟩, fun h4 => by dsimp only at h4; omega⟩
  have ho : 0 < out.length := by rw [h.len]; exact hp
  refine ⟨ho, fun c hc => (all c hc).1, fun c hc => (all c hc).2.1, fun c hc => ?_, fun c hc => ?_⟩
  · by_cases h4 : 4 ≤ (nd out c).k
    · exact ((all c hc).2.2 h4).1
    · rw [((all c hc).2.1 (by omega)).1]; exact ho
  · by_cases h4 : 4 ≤ (nd out c).k
    · exact ((all c hc).2.2 h4).2
    · rw [((all c hc).2.1 (by omega)).2]; exact ho
end
/-- The canonical types of a goal. -/
def GoC (N : List Nd) (g : Tri) (can : List Nd) : Prop := ∃ out, Unf (scG N) g (mkG N) out ∧ IsCan out 0 can
section
variable {N : List Nd} {g : Tri} {can : List Nd}
theorem GoC.rep (h : GoC N g can) (hN : OkN N) (hg : OkG N.length g) : ∃ R, RepS N can R ∧ R 0 g ∧ OkN can ∧ IsCan can 0 can ∧ can.length ≤ 2 * (N.length * N.length) := by
  obtain ⟨out, hu, hc⟩ := h
  obtain ⟨L, hL⟩ := goU_of hN hg hu
  have ho := hL.okN hN
  obtain ⟨cl, LC, hR⟩ := can_rep hc ho ho.pos
  have hr := hL.rep
  have hlen := can_len hc ho ho.pos
  refine ⟨fun c x => ∃ a, L[a]? = some x ∧ LC[c]? = some (cl a), ?_, ⟨0, hL.zero, hR.zero⟩, hR.ok ho, hR.again ho ho.pos, Nat.le_trans hlen (by rw [hL.len]; exact hL.le)⟩
  have part : ∀ {c a x}, L[a]? = some x → LC[c]? = some (cl a) → (nd can c).k = (nd out a).k ∧ (4 ≤ (nd out a).k → LC[(nd can c).a]? = some (cl (nd out a).a) ∧ LC[(nd can c).b]? = some (cl (nd out a).b)) := fun {c a x} ha hc => hR.part ho (hr.lt _ _ ha) hc
  refine ⟨fun c x ⟨a, ha, hc⟩ => by rw [hR.len]; exact (List.getElem?_eq_some_iff.1 hc).1, fun c x ⟨a, ha, _⟩ => hr.ok a x ha, fun c x ⟨a, ha, hc⟩ hd => ?_, fun c x ⟨a, ha, hc⟩ hs => ?_, fun c x ⟨a, ha, hc⟩ hs h4 => ?_⟩
  · rw [(part ha hc).1]; exact hr.diff a x ha hd
  · rw [(part ha hc).1]; exact hr.same a x ha hs
  · obtain ⟨pa, pb⟩ := hr.part a x ha hs h4
    obtain ⟨qa, qb⟩ := (part ha hc).2 (by rw [hr.same a x ha hs]; exact h4)
    exact ⟨⟨_, pa, qa⟩, ⟨_, pb, qb⟩⟩
theorem GoC.uniq {can' : List Nd} (h : GoC N g can) (h' : GoC N g can') (hN : OkN N) (hg : OkG N.length g) : can = can' := by
  obtain ⟨out, hu, hc⟩ := h
  obtain ⟨out', hu', hc'⟩ := h'
  obtain rfl := hu.uniq _ _ hu'
  obtain ⟨L, hL⟩ := goU_of hN hg hu
  have ho := hL.okN hN
  exact hc.uniq ho ho.pos hc'
end
/-- The other order of the nodes gives the same. -/
def swG (x : Tri) : Tri := (x.1, x.2.2, x.2.1)
theorem simG_sw {N : List Nd} {u i j : Nat} : simG N (u, j, i) = swG (simG N (u, i, j)) ∨ ((nd N (s1G N (u, i, j))).k = farN (othN u) ∧ (nd N (s2G N (u, i, j))).k = farN (othN u) ∧ (nd N (s1G N (u, j, i))).k = farN (othN u) ∧ (nd N (s2G N (u, j, i))).k = farN (othN u)) := by
  unfold s1G s2G simG swG
  dsimp only
  by_cases h1 : (nd N i).k = farN (othN u)
  · by_cases h2 : (nd N j).k = farN (othN u)
    · right
      rw [if_pos h1, if_pos h2]
      exact ⟨h2, h2, h1, h1⟩
    · left
      rw [if_neg h2, if_pos h1, if_pos h1]
  · left
    by_cases h2 : (nd N j).k = farN (othN u)
    · rw [if_pos h2, if_neg h1, if_pos h2]
    · rw [if_neg h2, if_neg h1, if_neg h1, if_neg h2]
theorem GoC.swap {N : List Nd} {u i j : Nat} {c c' : List Nd} (h : GoC N (u, i, j) c) (h' : GoC N (u, j, i) c') (hN : OkN N) (hg : OkG N.length (u, i, j)) : c = c' := by
  obtain ⟨out, hu, hc⟩ := h
  have hg' : OkG N.length (u, j, i) := ⟨hg.1, hg.2.2, hg.2.1⟩
  refine GoC.uniq ⟨out, ?_, hc⟩ h' hN hg'
  refine unf_mapK (sc' := scG N) (mk' := mkG N) swG (OkG N.length) hg (fun q hq x hx => scG_ok rfl hN hq x hx) (fun q hq => ?_) (fun x y _ _ e => ?_) (fun q ps hq => ?_) hu
  · obtain ⟨v, p, q⟩ := q
    have hv := hq.1
    dsimp only at hv
    show scG N (v, q, p) = _
    unfold scG
    rcases simG_sw (N := N) (u := v) (i := p) (j := q) with e | ⟨e1, e2, e3, e4⟩
    · rw [e]
      unfold swG
      dsimp only
      by_cases hk : (nd N (s1G N (v, p, q))).k = (nd N (s2G N (v, p, q))).k ∧ 4 ≤ (nd N (s1G N (v, p, q))).k
      · rw [if_pos ⟨hk.1.symm, by rw [← hk.1]; exact hk.2⟩, if_pos hk, hk.1]
        rfl
      · rw [if_neg (fun h => hk ⟨h.1.symm, by rw [← h.1]; exact h.2⟩), if_neg hk]
        rfl
    · have := farN_le (othN v)
      unfold s1G s2G at *
      rw [if_neg (by omega), if_neg (by omega)]; rfl
  · obtain ⟨a, b, c⟩ := x
    obtain ⟨a', b', c'⟩ := y
    unfold swG at e
    injection e with e1 e2
    injection e2 with e2 e3
    dsimp only at e1 e2 e3
    rw [e1, e2, e3]
  · have hs := simG_ok (N := N) hq
    obtain ⟨v, p, q⟩ := q
    have hv := hq.1
    dsimp only at hv
    have hs' := simG_ok (N := N) (show OkG N.length (v, q, p) from ⟨hq.1, hq.2.2, hq.2.1⟩)
    show mkG N (v, q, p) ps = _
    unfold mkG
    rcases simG_sw (N := N) (u := v) (i := p) (j := q) with e | ⟨e1, e2, e3, e4⟩
    · rw [e]
      unfold swG
      dsimp only
      by_cases hk : (nd N (s1G N (v, p, q))).k = (nd N (s2G N (v, p, q))).k
      · rw [if_pos hk.symm, if_pos hk]
        by_cases h4 : 4 ≤ (nd N (s1G N (v, p, q))).k
        · rw [if_pos (by rw [← hk]; exact h4), if_pos h4, hk]
        · rw [if_neg (by rw [← hk]; exact h4), if_neg h4]
          exact ndz hk.symm (hN.leaf _ hs.2.2 (by unfold s1G s2G at *; omega)) (hN.leaf _ hs.2.1 (by unfold s1G s2G at *; omega))
      · rw [if_neg (fun h => hk h.symm), if_neg hk]
    · have := farN_le (othN v)
      unfold s1G s2G at *
      rw [if_pos (by omega), if_neg (by omega), if_pos (by omega), if_neg (by omega)]
      exact ndz (by omega) (hN.leaf _ hs'.2.1 (by omega)) (hN.leaf _ hs.2.1 (by omega))
section
variable {N : List Nd} {i j : Nat} {a : List Nd}
/-- What the lattice's law asks of a join. -/
theorem GoC.up (h : GoC N (0, i, j) a) (hN : OkN N) (hi : i < N.length) (hj : j < N.length) : SubT (joinN N a) (i, N.length) ∧ SubT (joinN N a) (j, N.length) ∧ (∀ k, k < N.length → (SubT (joinN N a) (N.length, k) ↔ SubT N (i, k) ∧ SubT N (j, k))) ∧ (∀ o, IsCan N j o → (SubT N (i, j) ↔ a = o)) := by
  obtain ⟨R, hR, h0, hok, hca, _⟩ := h.rep hN ⟨Nat.zero_le _, hi, hj⟩
  have b1 := (hR.bound h0 (m := i) (.inl rfl)).1 rfl
  have b2 := (hR.bound h0 (m := j) (.inr rfl)).1 rfl
  rw [Nat.add_zero] at b1 b2
  have hl : ∀ k, k < N.length → (SubT (joinN N a) (N.length, k) ↔ SubT N (i, k) ∧ SubT N (j, k)) := fun k hk => by
    constructor
    · intro hs
      exact ⟨(subT_emb hN (emb_l N a) hi hk).1 (subT_trans b1 hs), (subT_emb hN (emb_l N a) hj hk).1 (subT_trans b2 hs)⟩
    · rintro ⟨s1, s2⟩
      have := (hR.least hN h0 hk).1 rfl s1 s2
      rw [Nat.add_zero] at this
      exact this
  refine ⟨b1, b2, hl, fun o ho => ?_⟩
  have hp := hok.pos
  constructor
  · intro hs
    have s1 := (hl j hj).2 ⟨hs, subT_refl N j⟩
    exact (can_two hN hok hj hp (by rw [Nat.add_zero]; exact eqT_of_sub b2 s1) ho hca).symm
  · intro e
    subst e
    obtain ⟨cl, LC, hC⟩ := can_rep ho hN hj
    have e := hC.join hN hj
    exact (subT_emb hN (emb_l N a) hi hj).1 (subT_trans b1 (subT_of_eq (eqT_symm e)))
theorem GoC.down (h : GoC N (1, i, j) a) (hN : OkN N) (hi : i < N.length) (hj : j < N.length) : SubT (joinN N a) (N.length, i) ∧ SubT (joinN N a) (N.length, j) ∧ (∀ k, k < N.length → (SubT (joinN N a) (k, N.length) ↔ SubT N (k, i) ∧ SubT N (k, j))) ∧ (∀ o, IsCan N i o → SubT N (i, j) → a = o) := by
  obtain ⟨R, hR, h0, hok, hca, _⟩ := h.rep hN ⟨Nat.le_refl _, hi, hj⟩
  have b1 := (hR.bound h0 (m := i) (.inl rfl)).2 rfl
  have b2 := (hR.bound h0 (m := j) (.inr rfl)).2 rfl
  rw [Nat.add_zero] at b1 b2
  have hl : ∀ k, k < N.length → (SubT (joinN N a) (k, N.length) ↔ SubT N (k, i) ∧ SubT N (k, j)) := fun k hk => by
    constructor
    · intro hs
      exact ⟨(subT_emb hN (emb_l N a) hk hi).1 (subT_trans hs b1), (subT_emb hN (emb_l N a) hk hj).1 (subT_trans hs b2)⟩
    · rintro ⟨s1, s2⟩
      have := (hR.least hN h0 hk).2 rfl s1 s2
      rw [Nat.add_zero] at this
      exact this
  refine ⟨b1, b2, hl, fun o ho hs => ?_⟩
  have hp := hok.pos
  have s1 := (hl i hi).2 ⟨subT_refl N i, hs⟩
  exact (can_two hN hok hi hp (by rw [Nat.add_zero]; exact eqT_of_sub s1 b1) ho hca).symm
/-- The join with a node below is the node. -/
theorem GoC.up_is (h : GoC N (0, i, j) a) (hN : OkN N) (hi : i < N.length) (hj : j < N.length) {o : List Nd} (ho : IsCan N i o) (hs : SubT N (j, i)) : a = o := by
  obtain ⟨R, hR, h0, hok, hca, _⟩ := h.rep hN ⟨Nat.zero_le _, hi, hj⟩
  obtain ⟨b1, _, hl, _⟩ := h.up hN hi hj
  exact (can_two hN hok hi hok.pos (by rw [Nat.add_zero]; exact eqT_of_sub b1 ((hl i hi).2 ⟨subT_refl N i, hs⟩)) ho hca).symm
/-- What absorbs. -/
theorem GoC.absorb_up {b o : List Nd} (h : GoC N (0, i, j) a) (hN : OkN N) (hi : i < N.length) (hj : j < N.length) (ho : IsCan N i o) (hb : GoC (joinN N a) (1, i, N.length) b) : b = o := by
  obtain ⟨R, hR, h0, hok, hca, _⟩ := h.rep hN ⟨Nat.zero_le _, hi, hj⟩
  have hJ := joinN_ok hN hok
  have hp := hok.pos
  have hi' : i < (joinN N a).length := by rw [joinN_len]; omega
  have hj' : N.length < (joinN N a).length := by rw [joinN_len]; omega
  exact (hb.down hJ hi' hj').2.2.2 o (can_emb hN hJ (emb_l N a) hi ho) (h.up hN hi hj).1
theorem GoC.absorb_down {b o : List Nd} (h : GoC N (1, i, j) a) (hN : OkN N) (hi : i < N.length) (hj : j < N.length) (ho : IsCan N i o) (hb : GoC (joinN N a) (0, i, N.length) b) : b = o := by
  obtain ⟨R, hR, h0, hok, hca, _⟩ := h.rep hN ⟨Nat.le_refl _, hi, hj⟩
  have hJ := joinN_ok hN hok
  have hp := hok.pos
  have hi' : i < (joinN N a).length := by rw [joinN_len]; omega
  have hj' : N.length < (joinN N a).length := by rw [joinN_len]; omega
  exact hb.up_is hJ hi' hj' (can_emb hN hJ (emb_l N a) hi ho) (h.down hN hi hj).1
end
end Go.Proofs.Ytmbdjjkgjnemiaa
