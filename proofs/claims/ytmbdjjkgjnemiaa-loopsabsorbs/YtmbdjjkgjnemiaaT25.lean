import Derived.Test.YtmbdjjkgjnemiaaT23
import Derived.Test.YtmbdjjkgjnemiaaT08
import Derived.Test.YtmbdjjkgjnemiaaT24
import Derived.Test.YtmbdjjkgjnemiaaT10
/- Layer 6: the reference's reach. -/
namespace Go.Proofs.Ytmbdjjkgjnemiaa
open Go.RowKit Go.Maps
set_option linter.unusedVariables false

theorem idxOf_at : ∀ {L : List Nat} {k y : Nat}, L[k]? = some y → (∀ j, j < k → L[j]? ≠ some y) → L.idxOf y = k
  | [], k, y, h, _ => by simp at h
  | z :: L, 0, y, h, _ => by
    simp at h
    subst h
    simp
  | z :: L, k + 1, y, h, hn => by
    have hz : z ≠ y := fun e => hn 0 (by omega) (by simp [e])
    have := idxOf_at (L := L) (k := k) (y := y) (by simpa using h) (fun j hj => by
      have := hn (j + 1) (by omega)
      simpa using this)
    rw [List.idxOf_cons, show (z == y) = false from by simpa using hz, this]; rfl
theorem map_at {ls : List Nat} (cl : Nat → Nat) {j : Nat} (h : j < ls.length) : (ls.map cl)[j]? = some (cl (ls[j]?.getD 0)) := by
  rw [List.getElem?_map, List.getElem?_eq_getElem h]; rfl
theorem natI_snoc (L : List Nat) (x : Nat) : natI L ++ [(x : Int)] = natI (L ++ [x]) := by simp [natI]
/-- The table says which nodes are of one class. -/
structure TbC (n : Nat) (cl : Nat → Nat) (vs : List Bool) : Prop where
  len : vs.length = n * n
  iff : ∀ p, inP n p → (tb n vs p = true ↔ cl p.1 = cl p.2)
/-- What reach gives. -/
def RcQ (n : Nat) (cl : Nat → Nat) (ls : List Nat) (x B : Nat) (lv : Value) (w : World) (e : Ending) (w' : World) : Prop :=
  ∃ v' ls', e = .returned (.tuple #[v', .int .i64 (((addK (ls.map cl) (cl x)).idxOf (cl x) : Nat) : Int)]) ∧ Ow w' B 3 v' (natI ls') ∧ ls'.map cl = addK (ls.map cl) (cl x) ∧ (∀ y ∈ ls', y < n) ∧ (∃ X, ls' = ls ++ X) ∧ w.grownBy w' lv.ownBlock ∧ (v'.ownBlock = lv.ownBlock ∨ ∃ g, v'.ownBlock = some g ∧ w.heap.size ≤ g)
set_option maxRecDepth 100000 in
set_option maxHeartbeats 6400000 in
theorem reach_any (n q : Nat) (cl : Nat → Nat) (vs : List Bool) (ls : List Nat) (B sB g x : Nat) (lv : Value) (w : World) (hC : TbC n cl vs) (hO : Owl w sB (.slice (some ⟨g, 0, none⟩) q q) vs) (hq : q = n * n) (hL : Ow w B 3 lv (natI ls)) (h1 : 1 ≤ ls.length) (h2 : ls.length ≤ 1300) (hlt : ∀ y ∈ ls, y < n) (hx : x < n) (hn : n ≤ 1200) (hB : B ≤ w.heap.size) :
    Calls Try.prog 48 #[lv, .slice (some ⟨g, 0, none⟩) q q, .int .i64 (n : Int), .int .i64 (x : Int)] w fun e w' => RcQ n cl ls x B lv w e w' := by
  have hqb : q ≤ 2000000 := by rw [hq]; have := Nat.mul_le_mul hn hn; omega
  obtain ⟨g2, cap, rfl, hcap, hBg, hg2, hcell⟩ := hL.form (by rw [natI_len]; omega)
  rw [natI_len] at hcap hcell
  obtain ⟨ll, hll⟩ : ∃ ll, ll = ls.length := ⟨_, rfl⟩
  rw [natI_len, ← hll] at hL ⊢
  rw [← hll] at hcap hcell h1 h2
  have HLL := Lib.hid hll
  have HLT : Hid (∀ j, j < ll → ls[j]?.getD 0 < n) := fun j hj => hlt _ (by rw [List.getElem?_eq_getElem (by omega)]; exact List.getElem_mem _)
  have HTW : Hid (∀ i j m, i < n → j < n → m = n * i → w.cell? ⟨g, m + j, none⟩ = some (.bool (tb n vs (i, j))) ∧ m + j < q) := fun i j m hi hj hm => hO.tb_at (hC.len.trans hq.symm) hq hi hj hm
  have HMI : Hid (∀ i, ∃ m, m = n * i ∧ (n : Int) * (i : Int) = (m : Int)) := fun i => ⟨n * i, rfl, by simp⟩
  have HFD : Hid (∀ k, k < ll → (∀ j, j < k → cl (ls[j]?.getD 0) ≠ cl x) → cl (ls[k]?.getD 0) = cl x → RcQ n cl ls x B (.slice (some ⟨g2, 0, none⟩) ll cap) w (.returned (.tuple #[.slice (some ⟨g2, 0, none⟩) ll cap, .int .i64 (k : Int)])) w) := fun k hk hj e => by
    have hm : cl x ∈ ls.map cl := List.mem_map.2 ⟨ls[k]'(by omega), List.getElem_mem _, by rw [← e, List.getElem?_eq_getElem (by omega : k < ls.length)]; rfl⟩
    have hi : (ls.map cl).idxOf (cl x) = k := idxOf_at (by rw [map_at cl (by omega), e]) (fun j hjk => by
      rw [map_at cl (by omega)]
      intro e'
      exact hj j hjk (Option.some.inj e'))
    refine ⟨_, ls, by rw [addK_in hm, hi], hL, (addK_in hm).symm, hlt, ⟨[], by simp⟩, World.grownBy.refl _ _, .inl rfl⟩
  have HNW : Hid ((∀ j, j < ll → cl (ls[j]?.getD 0) ≠ cl x) → cl x ∉ ls.map cl ∧ (addK (ls.map cl) (cl x)).idxOf (cl x) = ll) := fun h => by
    have hm : cl x ∉ ls.map cl := fun hm => by
      obtain ⟨y, hy, e⟩ := List.mem_map.1 hm
      obtain ⟨j, hj, e2⟩ := List.mem_iff_getElem.1 hy
      refine h j (by omega) ?_
      rw [List.getElem?_eq_getElem hj, Option.getD_some, e2, e]
    exact ⟨hm, by rw [addK_new hm, idx_new hm, List.length_map, ← hll]⟩
  obtain ⟨i0, hi, hz0, hz1, hz2⟩ := info_parts Try.infoInt
  have HI : Hid (Try.prog.info? 3 = some i0 ∧ i0.zero = some (.int .i64 0) ∧ i0.size = 1 ∧ i0.bytes = 8) := ⟨hi, hz0, hz1, hz2⟩
  have HOW := Lib.hid hL
  have HC := Lib.hid hC
  have HALL := Lib.hid hlt
  have HCELL : Hid (∀ k, k < ll → w.cell? ⟨g2, k, none⟩ = some (.int .i64 ((ls[k]?.getD 0 : Nat) : Int))) := fun k hk => by
    rw [hcell k hk, natI_at (by omega)]
  clear hll hlt hL hO hC hq hcell hi hz0 hz1 hz2
  go_enter Try.func48, Try.ntmps48
  go_wp2
  go_loopw [10] (fun i w' => ∃ k : Nat, k ≤ ll ∧ i = .int .i64 (k : Int) ∧ Hid (∀ j, j < k → cl (ls[j]?.getD 0) ≠ cl x) ∧ w = w') (fun i _ => ll - (intOf i).toNat)
  case atStart => exact ⟨0, by omega, by go_num, fun j hj => absurd hj (Nat.not_lt_zero _), rfl⟩
  case round =>
    obtain ⟨k, hk, rfl, HK, rfl⟩ := hrel
    by_cases hkl : k < ll
    · have i2 : (k : Int) < (ll : Int) := by omega
      have c0 := HCELL.out k hkl
      have hyn := HLT.out k hkl
      have HFK := Lib.hid (HFD.out k hkl HK.out)
      have HKS : Hid (cl (ls[k]?.getD 0) ≠ cl x → ∀ j, j < k + 1 → cl (ls[j]?.getD 0) ≠ cl x) := fun h j hj => by
        by_cases e : j = k
        · rw [e]; exact h
        · exact HK.out j (by omega)
      generalize ls[k]?.getD 0 = y at *
      obtain ⟨m, hm, hmi⟩ := HMI.out y
      obtain ⟨d0, hd0⟩ := HTW.out y x m hyn hx hm
      have hif := HC.out.iff (y, x) ⟨hyn, hx⟩
      dsimp only at hif
      clear hm
      rcases ht : tb n vs (y, x) with _ | _
      · have HX := Lib.hid (HKS.out (fun e => by rw [hif.2 e] at ht; cases ht))
        rw [ht] at d0
        clear ht hif HFK HKS
        go_wp2
        exact ⟨⟨k + 1, by omega, by go_num, HX.out, trivial⟩, by simp [intOf]; omega⟩
      · have HX := Lib.hid (HFK.out (hif.1 ht))
        rw [ht] at d0
        clear ht hif HFK HKS
        go_wp2
        go_ret2
        exact HX.out
    · have hkn : k = ll := by omega
      subst hkn
      have i2 : ¬ (k : Int) < (k : Int) := by omega
      have HN2 := Lib.hid (HNW.out HK.out)
      have HLN : Hid ((natI ls).length ≤ 1099511627776) := by rw [Hid, natI_len, ← HLL.out]; omega
      clear HK HNW HFD hkl hk
      go_wp2_with (at_builtin; go_must (refine push_law _ rfl (.tmp 30) (.tmp 32) 69 rfl B 3 i0 Try.underlying69 HI.out _ (natI ls) (x : Int) rfl rfl HOW.out HLN.out hB ?_); intro v2 w2 hv2 hgr2 hat2; have HV2 := Lib.hid hv2; have HG2 := Lib.hid hgr2; have HA2 := Lib.hid hat2; clear hv2 hgr2 hat2)
      go_ret2
      refine ⟨v2, ls ++ [x], by rw [HN2.out.2]; rfl, by rw [← natI_snoc]; exact HV2.out, by rw [addK_new HN2.out.1]; simp, fun y hy => ?_, ⟨[x], rfl⟩, HG2.out, HA2.out⟩
      rcases List.mem_append.1 hy with hy | hy
      · exact HALL.out y hy
      · rw [List.mem_singleton.1 hy]; exact hx
end Go.Proofs.Ytmbdjjkgjnemiaa
/- Layer 6: the reference's Canonical. -/
namespace Go.Proofs.Ytmbdjjkgjnemiaa
open Go.RowKit Go.Maps
set_option linter.unusedVariables false

theorem least_of {P : Nat → Prop} : ∀ n, P n → ∃ m, P m ∧ ∀ k, k < m → ¬ P k := fun n => by
  induction n using Nat.strongRecOn with
  | _ n ih =>
    intro h
    rcases Classical.em (∃ m, m < n ∧ P m) with ⟨m, hm, hp⟩ | hno
    · exact ih m hm hp
    · exact ⟨n, h, fun k hk hp => hno ⟨k, hk, hp⟩⟩
theorem cls_exists (N : List Nd) : ∃ cl, IsCls N cl := by
  have h : ∀ j, ∃ m, EqT N (m, j) ∧ ∀ k, k < m → ¬ EqT N (k, j) := fun j => least_of (P := fun i => EqT N (i, j)) j (eqT_refl N j)
  have hiff : ∀ i j, EqT N (i, j) → Classical.choose (h i) = Classical.choose (h j) := fun i j e => by
    have h1 := Classical.choose_spec (h i)
    have h2 := Classical.choose_spec (h j)
    rcases Nat.lt_trichotomy (Classical.choose (h i)) (Classical.choose (h j)) with hl | hl | hl
    · exact absurd (eqT_trans h1.1 e) (h2.2 _ hl)
    · exact hl
    · exact absurd (eqT_trans h2.1 (eqT_symm e)) (h1.2 _ hl)
  refine ⟨fun j => Classical.choose (h j), fun i _ => ?_, fun i j _ _ => ⟨fun e => ?_, hiff i j⟩, fun i _ => hiff _ _ (Classical.choose_spec (h i)).1⟩
  · rcases Nat.lt_or_ge i (Classical.choose (h i)) with hl | hl
    · exact absurd (eqT_refl N i) ((Classical.choose_spec (h i)).2 i hl)
    · exact hl
  · have e : Classical.choose (h i) = Classical.choose (h j) := e
    have h1 := (Classical.choose_spec (h i)).1
    have h2 := (Classical.choose_spec (h j)).1
    rw [e] at h1
    exact eqT_trans (eqT_symm h1) h2
theorem cls_node {N : List Nd} {cl : Nat → Nat} (h : IsCls N cl) (hok : OkN N) {q : Nat} (hq : q < N.length) : (nd N (cl q)).k = (nd N q).k ∧ (4 ≤ (nd N q).k → cl (nd N (cl q)).a = cl (nd N q).a ∧ cl (nd N (cl q)).b = cl (nd N q).b) ∧ (¬ 4 ≤ (nd N q).k → nd N (cl q) = nd N q) := by
  have hc : cl q < N.length := by have := h.le q hq; omega
  have e : EqT N (cl q, q) := (h.iff _ _ hc hq).1 (h.idem q hq)
  have hs := eqT_clo N _ e
  have hk : (nd N (cl q)).k = (nd N q).k := hs.1
  refine ⟨hk, fun h4 => ?_, fun h4 => ?_⟩
  · rcases hs.2 with h' | h'
    · have h' : (nd N (cl q)).k < 4 := h'
      omega
    · exact ⟨(h.iff _ _ (hok.a _ hc) (hok.a _ hq)).2 h'.1, (h.iff _ _ (hok.b _ hc) (hok.b _ hq)).2 h'.2⟩
  · have h1 := hok.leaf _ hc (by omega)
    have h2 := hok.leaf _ hq (by omega)
    cases hx : nd N (cl q) with
    | mk a b c =>
      cases hy : nd N q with
      | mk a' b' c' =>
        rw [hx, hy] at hk
        rw [hx] at h1
        rw [hy] at h2
        dsimp only at hk h1 h2
        rw [hk, h1.1, h1.2, h2.1, h2.2]
/-- Between two rounds of the reference's Canonical. -/
structure CnS (N : List Nd) (n : Nat) (cl : Nat → Nat) (k0 B g q : Nat) (vs : List Bool) (w : World) (m : Nat) (ls : List Nat) (lv ov : Value) (W : World) : Prop where
  hl : ls.map cl = rch (scC N cl) k0 m
  le : m ≤ ls.length
  lt : ∀ y ∈ ls, y < n
  ol : Ow W B 3 lv (natI ls)
  oo : Ow3 W B ov (outL (scC N cl) (mkC N) (ls.map cl) m)
  ap : ∀ k, ov.ownBlock = some k → lv.ownBlock ≠ some k
  ot : Owl W B (.slice (some ⟨g, 0, none⟩) q q) vs
  ag : ∀ k, lv.ownBlock = some k ∨ ov.ownBlock = some k → k ≠ g
  bl : Below B w W
theorem Owl.same {w w' : World} {B : Nat} {v : Value} {zs : List Bool} (h : Owl w B v zs) (hk : ∀ k, v.ownBlock = some k → w'.heap[k]? = w.heap[k]?) : Owl w' B v zs := by
  refine ⟨h.1, ?_⟩
  rcases h.2 with h1 | ⟨g, cap, cur, h1, h2, h3, h4⟩
  · exact .inl h1
  · exact .inr ⟨g, cap, cur, h1, h2, (hk g (by rw [h1]; rfl)).trans h3, h4⟩
theorem Owl.base {w : World} {B B' : Nat} {v : Value} {zs : List Bool} (h : Owl w B v zs) (hB : B' ≤ B) : Owl w B' v zs := by
  refine ⟨h.1, ?_⟩
  rcases h.2 with h1 | ⟨g, cap, cur, h1, h2, h3⟩
  · exact .inl h1
  · exact .inr ⟨g, cap, cur, h1, by omega, h3⟩
theorem CnS.step {N : List Nd} {n : Nat} {cl : Nat → Nat} {k0 B g q : Nat} {vs : List Bool} {w : World} {m : Nat} {ls : List Nat} {lv ov : Value} {W : World} (h : CnS N n cl k0 B g q vs w m ls lv ov W) {x : Nat} (hx : ls[m]? = some x)
    {ls2 : List Nat} {lv2 ov2 : Value} {W3 W6 : World} {nd' : Nd} (e1 : ls2.map cl = addAll (ls.map cl) (scC N cl (cl x))) (e2 : nd' = mkC N (cl x) ((scC N cl (cl x)).map (ls2.map cl).idxOf)) (lt2 : ∀ y ∈ ls2, y < n)
    (hT3 : ∀ k, k < W.heap.size → lv.ownBlock ≠ some k → W3.heap[k]? = W.heap[k]?) (hz3 : W.heap.size ≤ W3.heap.size) (ol2 : Ow W3 B 3 lv2 (natI ls2)) (hl2 : lv2.ownBlock = lv.ownBlock ∨ ∃ g, lv2.ownBlock = some g ∧ W.heap.size < g)
    (hT6 : ∀ k, k < W3.heap.size → k ≠ W.heap.size → ov.ownBlock ≠ some k → W6.heap[k]? = W3.heap[k]?) (hb : Below B w W6) (oo2 : Ow3 W6 B ov2 (outL (scC N cl) (mkC N) (ls.map cl) m ++ [nd'])) (ho2 : ov2.ownBlock = ov.ownBlock ∨ ∃ g, ov2.ownBlock = some g ∧ W3.heap.size ≤ g) :
    CnS N n cl k0 B g q vs w (m + 1) ls2 lv2 ov2 W6 := by
  have hm : m < ls.length := (List.getElem?_eq_some_iff.1 hx).1
  have hxm : (ls.map cl)[m]? = some (cl x) := by rw [List.getElem?_map, hx]; rfl
  obtain ⟨X, hX⟩ := addAll_pre (scC N cl (cl x)) (ls.map cl)
  have hlen : ls.length ≤ ls2.length := by
    have := congrArg List.length (e1.trans hX)
    simp at this
    omega
  have hlb : ∀ k, lv.ownBlock = some k → k < W.heap.size := fun k e => (h.ol.lt e).2
  have hob : ∀ k, ov.ownBlock = some k → k < W.heap.size := fun k e => (h.oo.lt e).2
  have hgb : g < W.heap.size := (h.ot.lt (k := g) rfl).2
  have hl2b : ∀ k, lv2.ownBlock = some k → k < W3.heap.size := fun k e => (ol2.lt e).2
  have hl2o : ∀ k, lv2.ownBlock = some k → ov.ownBlock ≠ some k ∧ k ≠ W.heap.size := fun k e => by
    rcases hl2 with e' | ⟨g', e', hg'⟩
    · rw [e'] at e
      have := hlb k e
      exact ⟨fun e2 => h.ap k e2 e, by omega⟩
    · rw [e'] at e
      have e := Option.some.inj e
      refine ⟨fun e2 => ?_, by omega⟩
      have := hob k e2
      omega
  refine ⟨by rw [e1, h.hl, rch_at (scC N cl) k0 (q := cl x) (by rw [← h.hl]; exact hxm)], by omega, lt2, ol2.same fun k e => hT6 k (hl2b k e) (hl2o k e).2 (hl2o k e).1, ?_, fun k e e' => ?_, h.ot.same fun k e => ?_, fun k e => ?_, hb⟩
  · have hx' : (ls2.map cl)[m]? = some (cl x) := by rw [e1, hX, List.getElem?_append_left (by rw [List.length_map]; exact hm)]; exact hxm
    rw [outL_succ (scC N cl) (mkC N) hx', ← e2]
    have : outL (scC N cl) (mkC N) (ls2.map cl) m = outL (scC N cl) (mkC N) (ls.map cl) m := by
      rw [e1, hX]
      exact outL_append (scC N cl) (mkC N) (by rw [List.length_map]; omega) fun i q hi hq => by rw [h.hl] at hq ⊢; exact rch_parts (scC N cl) k0 hi hq
    rw [this]
    exact oo2
  · rcases ho2 with e2 | ⟨g', e2, hg'⟩
    · rw [e2] at e
      exact (hl2o k e').1 e
    · rw [e2] at e
      have e := Option.some.inj e
      have := hl2b k e'
      omega
  · have e := Option.some.inj e
    subst e
    have a1 : lv.ownBlock ≠ some g := fun e => h.ag g (.inl e) rfl
    have a2 : ov.ownBlock ≠ some g := fun e => h.ag g (.inr e) rfl
    exact (hT6 g (by omega) (by omega) a2).trans (hT3 g hgb a1)
  · rcases e with e | e
    · rcases hl2 with e' | ⟨g', e', hg'⟩
      · rw [e'] at e; exact h.ag k (.inl e)
      · rw [e'] at e
        have e := Option.some.inj e
        omega
    · rcases ho2 with e' | ⟨g', e', hg'⟩
      · rw [e'] at e; exact h.ag k (.inr e)
      · rw [e'] at e
        have e := Option.some.inj e
        omega
theorem CnS.done {N : List Nd} {n : Nat} {cl : Nat → Nat} {i B g q : Nat} {vs : List Bool} {w : World} {ls : List Nat} {lv ov : Value} {W : World} (h : CnS N n cl (cl i) B g q vs w ls.length ls lv ov W) (hc : IsCls N cl) : IsCan N i (outL (scC N cl) (mkC N) (ls.map cl) ls.length) :=
  ⟨cl, hc, ls.length, by rw [← h.hl, List.length_map], by rw [h.hl]⟩
end Go.Proofs.Ytmbdjjkgjnemiaa
/- Layer 6: the reference's Canonical, walked. -/
namespace Go.Proofs.Ytmbdjjkgjnemiaa
open Go.RowKit Go.Maps
set_option linter.unusedVariables false

set_option maxRecDepth 100000 in
set_option maxHeartbeats 12800000 in
theorem canonR_any (N : List Nd) (A : Option Addr) (n c i : Nat) (w : World) (hN : Nl w A n c N) (hok : OkN N) (hi : i < n) (hn : n ≤ 1200) :
    Calls Try.prog 26 #[.slice A n c, .int .i64 (i : Int)] w fun e w' => (∃ u out, e = .returned u ∧ IsCan N i out ∧ Ow3 w' w.heap.size u out) ∧ Below w.heap.size w w' := by
  have HLN : Hid (N.length = n) := hN.len
  obtain ⟨cl, hcls⟩ := cls_exists N
  obtain ⟨q, hq⟩ : ∃ q, q = n * n := ⟨_, rfl⟩
  have HQ := Lib.hid hq
  have HEQ : Hid (Calls Try.prog 27 #[.slice A n c] w fun e w' => (∃ g vs, e = .returned (.slice (some ⟨g, 0, none⟩) q q) ∧ TbC n cl vs ∧ Owl w' w.heap.size (.slice (some ⟨g, 0, none⟩) q q) vs) ∧ Below w.heap.size w w') := by
    refine (equalsR_any N A n c w hN hok hn).mono ?_
    rintro e w' ⟨⟨g, vs, rfl, hl, ho, hif⟩, hb⟩
    rw [hq]
    refine ⟨⟨g, vs, rfl, ⟨hl, fun p hp => ?_⟩, ho⟩, hb⟩
    rw [hif p hp]
    exact (hcls.iff p.1 p.2 (by rw [HLN.out]; exact hp.1) (by rw [HLN.out]; exact hp.2)).symm
  have HCLT : Hid (∀ j, j < n → cl j < n) := hcls.lt hN.len
  have HLEN : Hid (∀ m, (rch (scC N cl) (cl i) m).length ≤ n) := fun m => rchC_len hN.len hok HCLT.out (HCLT.out i hi) m
  have HN := Lib.hid hN
  have HOK := Lib.hid hok
  have HCLS := Lib.hid hcls
  obtain ⟨i0, hi0, hz0, hz1, hz2⟩ := info_parts Try.infoTy
  have HI : Hid (Try.prog.info? 59 = some i0 ∧ i0.zero = some (.agg #[.int .i64 0, .int .i64 0, .int .i64 0]) ∧ i0.size = 3 ∧ i0.bytes = 24) := ⟨hi0, hz0, hz1, hz2⟩
  have hbig := hN.big
  clear hN hok hcls hq hi0 hz0 hz1 hz2
  go_enter Try.func26, Try.ntmps26
  go_wp2_with (go_at_call 27; refine HEQ.out.mono ?_; rintro e w1 ⟨⟨g, vs, rfl, hC, hO⟩, hb1⟩; have HC := Lib.hid hC; have HO := Lib.hid hO; have HB1 := Lib.hid hb1; clear hC hO hb1)
  have HS0 : Hid (CnS N n cl (cl i) w.heap.size g q vs w 0 [i] (.slice (some ⟨w1.heap.size, 0, none⟩) 1 1) (.slice none 0 0) (w1.alloc (.cells #[.int .i64 (i : Int)] 3))) := by
    have hg := (HO.out.lt (k := g) rfl).2
    refine ⟨rfl, Nat.zero_le _, fun y hy => by rw [List.mem_singleton.1 hy]; exact hi, ?_, Ow3.nil _ _, fun k e => (by cases e), HO.out.below ((Below.refl _ w1).alloc (Nat.le_refl _) _) (Nat.le_refl _), fun k e => ?_, HB1.out.alloc HB1.out.size _⟩
    · have h := World.ownsRow_lit (base := w.heap.size) (e := 3) (size := 1) w1 #[.int .i64 (i : Int)] 1 HB1.out.size (by unfold maxLen; omega) rfl
      simpa [Ow, natI] using h
    · rcases e with e | e
      · have e : w1.heap.size = k := Option.some.inj e
        omega
      · cases e
  have HNB := Lib.hid (Nat.le_refl (w.heap.size))
  generalize w1.alloc (.cells #[.int .i64 (i : Int)] 3) = W0 at *
  generalize Value.slice (some ⟨w1.heap.size, 0, none⟩) 1 1 = lv0 at *
  clear HB1 HO
  go_loopw [7, 8, 9] (fun lv ov kv w' => ∃ (m : Nat) (ls : List Nat), kv = .int .i64 (m : Int) ∧ Hid (CnS N n cl (cl i) w.heap.size g q vs w m ls lv ov w')) (fun _ _ kv _ => n + 1 - (intOf kv).toNat)
  case atStart => exact ⟨0, [i], by go_num, HS0.out⟩
  case round =>
    obtain ⟨m, ls, rfl, HS⟩ := hrel
    obtain ⟨wo, rfl⟩ : ∃ wo : World, wo = wr := ⟨_, rfl⟩
    clear HS0
    have hll : ls.length ≤ n := by have := HLEN.out m; rw [← HS.out.hl, List.length_map] at this; exact this
    have h1l : 1 ≤ ls.length := by
      have := List.length_pos_of_mem (rch_start (scC N cl) (cl i) m)
      rw [← HS.out.hl, List.length_map] at this
      exact this
    have hml := HS.out.le
    obtain ⟨g2, cap, hlv, hcap, hBg, hg2, hcell⟩ := HS.out.ol.form (by rw [natI_len]; omega)
    rw [natI_len] at hlv hcap hcell
    subst hlv
    by_cases hlt : m < ls.length
    · obtain ⟨x, hx⟩ : ∃ x, ls[m]? = some x := ⟨_, List.getElem?_eq_getElem hlt⟩
      have hxn : x < n := HS.out.lt x (List.mem_of_getElem? hx)
      have c0 := hcell m hlt
      rw [natI_at hlt, hx] at c0
      change wo.cell? _ = some (.int .i64 (x : Int)) at c0
      obtain ⟨ck, ca, cb⟩ := cls_node HCLS.out HOK.out (q := x) (by rw [HLN.out]; exact hxn)
      obtain ⟨b, off, rfl, hbl, p0, p1, p2⟩ := (HN.out.below HS.out.bl (Nat.le_refl _)).rows x hxn
      have hax := HOK.out.a x (by rw [HLN.out]; exact hxn)
      have hbx := HOK.out.b x (by rw [HLN.out]; exact hxn)
      rw [HLN.out] at hax hbx
      have HE2 : Hid (∀ ls2 : List Nat, ls2.map cl = addK (addK (ls.map cl) (cl (nd N x).a)) (cl (nd N x).b) → 4 ≤ (nd N x).k → ls2.map cl = addAll (ls.map cl) (scC N cl (cl x)) ∧ (⟨(nd N x).k, (addK (ls.map cl) (cl (nd N x).a)).idxOf (cl (nd N x).a), (ls2.map cl).idxOf (cl (nd N x).b)⟩ : Nd) = mkC N (cl x) ((scC N cl (cl x)).map (ls2.map cl).idxOf)) := fun ls2 e h4 => by
        obtain ⟨e1, e2⟩ := ca h4
        have hsc : scC N cl (cl x) = [cl (nd N x).a, cl (nd N x).b] := by unfold scC; rw [if_pos (by rw [ck]; exact h4), e1, e2]
        rw [hsc]
        refine ⟨e, ?_⟩
        unfold mkC
        rw [if_pos (by rw [ck]; exact h4), ck]
        obtain ⟨X, hX⟩ := addK_pre (addK (ls.map cl) (cl (nd N x).a)) (cl (nd N x).b)
        have : (ls2.map cl).idxOf (cl (nd N x).a) = (addK (ls.map cl) (cl (nd N x).a)).idxOf (cl (nd N x).a) := by rw [e, hX]; exact idx_append (addK_mem _ _)
        simp [this]
      have HE0 : Hid (¬ 4 ≤ (nd N x).k → ls.map cl = addAll (ls.map cl) (scC N cl (cl x)) ∧ nd N x = mkC N (cl x) ((scC N cl (cl x)).map (ls.map cl).idxOf)) := fun h4 => by
        have hsc : scC N cl (cl x) = [] := by unfold scC; rw [if_neg (by rw [ck]; exact h4)]
        rw [hsc]
        refine ⟨rfl, ?_⟩
        unfold mkC
        rw [if_neg (by rw [ck]; exact h4), cb h4]
      clear ck ca cb hcell
      generalize nd N x = nx at *
      obtain ⟨kx, ax, bx⟩ := nx
      dsimp only at p0 p1 p2 HE2 HE0 hax hbx
      have i2 : (m : Int) < (ls.length : Int) := by omega
      have i3 : (x : Int) < (n : Int) := by omega
      have HX := Lib.hid hx
      have hsz := HS.out.bl.size
      have HOL : Hid ((outL (scC N cl) (mkC N) (ls.map cl) m).length ≤ 1099511627776) := by
        rw [Hid]; unfold outL; rw [List.length_map, List.length_take]; omega
      obtain ⟨W1, hW1⟩ : ∃ W1, W1 = wo.alloc (.cells #[.int .i64 (kx : Int), .int .i64 (ax : Int), .int .i64 (bx : Int)] 59) := ⟨_, rfl⟩
      have hbl1 : Below wo.heap.size wo W1 := by rw [hW1]; exact (Below.refl _ wo).alloc (Nat.le_refl _) _
      have hz1 : W1.heap.size = wo.heap.size + 1 := by rw [hW1]; simp
      have hrow1 : W1.heap[wo.heap.size]? = some (.cells #[.int .i64 (kx : Int), .int .i64 (ax : Int), .int .i64 (bx : Int)] 59 (0, 0)) := by rw [hW1]; exact heap_alloc_new _ _
      have HW1 := Lib.hid hW1
      clear hW1
      by_cases h4 : 4 ≤ kx
      · have i9 : (kx : Int) ≥ 4 := by omega
        have HE := Lib.hid (fun ls2 e => HE2.out ls2 e h4)
        have HR1 := Lib.hid (reach_any n q cl vs ls w.heap.size w.heap.size g ax _ W1 HC.out (HS.out.ot.below hbl1 (Nat.le_refl _)) HQ.out (HS.out.ol.same fun k hk => hbl1.block k (by have e : g2 = k := Option.some.inj hk; omega)) h1l (by omega) HS.out.lt hax hn (by omega))
        have hg2g : g2 ≠ g := HS.out.ag g2 (.inl rfl)
        have hgw : g < wo.heap.size := (HS.out.ot.lt (k := g) rfl).2
        have HBL1 := Lib.hid hbl1
        have HZ1 := Lib.hid hz1
        have HROW1 := Lib.hid hrow1
        have f0 := cell_in hrow1 (i := 0) rfl
        have f1 := cell_in hrow1 (i := 1) rfl
        have f2 := cell_in hrow1 (i := 2) rfl
        have HBX : Hid (bx < n) := hbx
        have HNB2 : Hid (w.heap.size ≤ wo.heap.size) := hsz
        clear hbl1 hz1 hrow1 HE2 HE0 h4 hax hbx
        -- what stands behind the first call
        have HR2 : Hid (∀ v1 ls1 w2, Ow w2 w.heap.size 3 v1 (natI ls1) → ls1.map cl = addK (ls.map cl) (cl ax) → (∀ y ∈ ls1, y < n) → (∃ X, ls1 = ls ++ X) → W1.grownBy w2 (some g2) → (v1.ownBlock = some g2 ∨ ∃ g, v1.ownBlock = some g ∧ W1.heap.size ≤ g) →
            w2.heap[wo.heap.size]? = some (.cells #[.int .i64 (kx : Int), .int .i64 (ax : Int), .int .i64 (bx : Int)] 59 (0, 0)) ∧ Calls Try.prog 48 #[v1, .slice (some ⟨g, 0, none⟩) q q, .int .i64 (n : Int), .int .i64 (bx : Int)] w2 (fun e w' => RcQ n cl ls1 bx w.heap.size v1 w2 e w') ∧ ∀ w3, w2.grownBy w3 v1.ownBlock → w3.heap[wo.heap.size]? = some (.cells #[.int .i64 (kx : Int), .int .i64 (ax : Int), .int .i64 (bx : Int)] 59 (0, 0))) := fun v1 ls1 w2 ho1 hm1 hlt1 hX1 hg1 ha1 => by
          have hz := HZ1.out
          have hzg := hg1.size
          have hl1 : ls1.length ≤ 1300 := by
            have := congrArg List.length hm1
            obtain ⟨X, hX⟩ := addK_pre (ls.map cl) (cl ax)
            rw [List.length_map] at this
            have h3 : (addK (ls.map cl) (cl ax)).length ≤ ls.length + 1 := by
              unfold addK
              split
              · rw [List.length_map]; omega
              · rw [List.length_append, List.length_map]; exact Nat.le_refl _
            omega
          have h11 : 1 ≤ ls1.length := by obtain ⟨X, hX⟩ := hX1; rw [hX, List.length_append]; omega
          have hrow2 := (hg1.block wo.heap.size (by omega) (by intro e; have e := Option.some.inj e; omega)).trans HROW1.out
          refine ⟨hrow2, ?_, fun w3 hg => (hg.block wo.heap.size (by omega) (fun e => by
            rcases ha1 with e' | ⟨g', e', hg'⟩
            · have := Option.some.inj (e.trans e'); omega
            · have := Option.some.inj (e.trans e'); omega)).trans hrow2⟩
          exact reach_any n q cl vs ls1 w.heap.size w.heap.size g bx v1 w2 HC.out ((HS.out.ot.below HBL1.out (Nat.le_refl _)).same fun k hk => hg1.block k (by have e : g = k := Option.some.inj hk; omega) (by intro e2; have e : g = k := Option.some.inj hk; have e2 := Option.some.inj e2; omega)) HQ.out ho1 h11 hl1 hlt1 HBX.out hn (by omega)
        have HFIN : Hid (∀ v1 ls1 w2 v2 ls2 w3 W6, Ow w2 w.heap.size 3 v1 (natI ls1) → ls1.map cl = addK (ls.map cl) (cl ax) → W1.grownBy w2 (some g2) → (v1.ownBlock = some g2 ∨ ∃ g, v1.ownBlock = some g ∧ W1.heap.size ≤ g) →
            Ow w3 w.heap.size 3 v2 (natI ls2) → ls2.map cl = addK (ls1.map cl) (cl bx) → (∀ y ∈ ls2, y < n) → w2.grownBy w3 v1.ownBlock → (v2.ownBlock = v1.ownBlock ∨ ∃ g, v2.ownBlock = some g ∧ w2.heap.size ≤ g) →
            (∀ k, k ≠ wo.heap.size → W6.heap[k]? = w3.heap[k]?) → Below wo.heap.size w3 W6 →
            Ow3 W6 w.heap.size u8 (outL (scC N cl) (mkC N) (ls.map cl) m) ∧ ∀ ov2 w9, Ow3 w9 w.heap.size ov2 (outL (scC N cl) (mkC N) (ls.map cl) m ++ [⟨kx, (addK (ls.map cl) (cl ax)).idxOf (cl ax), (addK (ls1.map cl) (cl bx)).idxOf (cl bx)⟩]) → W6.grownBy w9 u8.ownBlock → (ov2.ownBlock = u8.ownBlock ∨ ∃ g, ov2.ownBlock = some g ∧ W6.heap.size ≤ g) → CnS N n cl (cl i) w.heap.size g q vs w (m + 1) ls2 v2 ov2 w9) := fun v1 ls1 w2 v2 ls2 w3 W6 ho1 hm1 hg1 ha1 ho2 hm2 hlt2 hg2' ha2 h6 hb6 => by
          have hz := HZ1.out
          have hzg := hg1.size
          have hzg2 := hg2'.size
          have hz6 := hb6.size
          have hob : ∀ k, u8.ownBlock = some k → k < wo.heap.size ∧ k ≠ g2 := fun k e => ⟨(HS.out.oo.lt e).2, fun e2 => HS.out.ap k e (by rw [e2]; rfl)⟩
          have hv1 : ∀ k, k < W1.heap.size → k ≠ g2 → some k ≠ v1.ownBlock := fun k hk hne e => by
            rcases ha1 with e' | ⟨g', e', hg'⟩
            · rw [e'] at e; exact hne (Option.some.inj e)
            · rw [e'] at e; have e := Option.some.inj e; omega
          have h3o : ∀ k, k < wo.heap.size → k ≠ g2 → w3.heap[k]? = wo.heap[k]? := fun k hk hne => (hg2'.block k (by omega) (hv1 k (by omega) hne)).trans ((hg1.block k (by omega) (fun e => hne (Option.some.inj e))).trans (HBL1.out.block k hk))
          have hO6 : Ow3 W6 w.heap.size u8 (outL (scC N cl) (mkC N) (ls.map cl) m) := HS.out.oo.same fun k e => (h6 k (by have := (hob k e).1; omega)).trans (h3o k (hob k e).1 (hob k e).2)
          refine ⟨hO6, fun ov2 w9 ho9 hg9 ha9 => ?_⟩
          obtain ⟨e1, e2⟩ := HE.out ls2 (by rw [hm2, hm1])
          have hb03 : Below w.heap.size w w3 := by
            have b1 : Below w.heap.size w W1 := HS.out.bl.trans (HBL1.out.mono HS.out.bl.size)
            have b2 : Below w.heap.size w w2 := b1.grown hg1 b1.size (fun k e => by have e := Option.some.inj e; omega)
            exact b2.grown hg2' b2.size (fun k e => (ho1.lt e).1)
          refine HS.out.step HX.out e1 (by rw [← e2, hm2, hm1]) hlt2 (fun k hk hne => h3o k hk (fun e => hne (by rw [e]; rfl))) (by omega) ho2 ?_ (fun k hk hne hno => (hg9.block k (by omega) (fun e => hno e.symm)).trans (h6 k hne)) ?_ (by rw [hm1] at *; exact ho9) ?_
          · rcases ha2 with e | ⟨g', e, hg'⟩
            · rcases ha1 with e' | ⟨g'', e', hg''⟩
              · exact .inl (by rw [e, e']; rfl)
              · exact .inr ⟨g'', by rw [e, e'], by omega⟩
            · exact .inr ⟨g', e, by omega⟩
          · exact (hb03.trans (hb6.mono (by have := HS.out.bl.size; omega))).grown hg9 (by have := hb03.size; omega) (fun k e => (hO6.lt e).1)
          · rcases ha9 with e | ⟨g', e, hg'⟩
            · exact .inl e
            · exact .inr ⟨g', e, by omega⟩
        have HSZT : Hid (∀ a b c : Int, (Try.prog.info? 59).map (·.size) = some (#[Value.int .i64 a, Value.int .i64 b, Value.int .i64 c] : Array Value).size) := fun _ _ _ => Try.sizeTy
        clear HE HC HS h1l hml hcap hBg hg2 hsz
        go_wp2_with (first
          | (go_at_call 48; rw [← HW1.out]; (with_reducible refine HR1.out.mono ?_); rintro e w2 ⟨v1, ls1, rfl, ho1, hm1, hlt1, hX1, hg1, ha1⟩; obtain ⟨hrow2, hr2, hr3⟩ := HR2.out v1 ls1 w2 ho1 hm1 hlt1 hX1 hg1 ha1; have HR3 := Lib.hid hr3; have HC2 := Lib.hid hr2; have HROW2 := Lib.hid hrow2; have HO1 := Lib.hid ho1; have HM1 := Lib.hid hm1; have HG1 := Lib.hid hg1; have HA1 := Lib.hid ha1; have f0' := cell_in hrow2 (i := 0) rfl; have f2' := cell_in hrow2 (i := 2) rfl; clear hr2 hr3 hrow2 ho1 hm1 hlt1 hX1 hg1 ha1 f0 f1 f2)
          | (go_at_call 48; (with_reducible refine HC2.out.mono ?_); rintro e w3 ⟨v2, ls2, rfl, ho2, hm2, hlt2, hX2, hg2', ha2⟩; have hrow3 := HR3.out w3 hg2'; have HROW3 := Lib.hid hrow3; have f0'' := cell_in hrow3 (i := 0) rfl; have HO2 := Lib.hid ho2; have HM2 := Lib.hid hm2; have HL2 := Lib.hid hlt2; have HG2 := Lib.hid hg2'; have HA2 := Lib.hid ha2; clear hrow3 ho2 hm2 hlt2 hX2 hg2' ha2 f0' f2')
          | (refine wpList_store_row (by rfl) 59 (.tmp 10) (.tmp 57) (by rfl) wo.heap.size _ (by rfl) (by rfl) 59 _ HROW3.out (HSZT.out _ _ _) (by rfl) (by simp [Value.oneCell']) ?_; obtain ⟨W6, hW6, r1, r2, r3⟩ := row_set #[.int .i64 (kx : Int), .int .i64 (((addK (ls.map cl) (cl ax)).idxOf (cl ax) : Nat) : Int), .int .i64 (((addK (ls1.map cl) (cl bx)).idxOf (cl bx) : Nat) : Int)] HROW3.out; rw [← hW6]; have q0 := cell_in r1 (i := 0) rfl; have q1 := cell_in r1 (i := 1) rfl; have q2 := cell_in r1 (i := 2) rfl; obtain ⟨hO6, hF⟩ := HFIN.out v1 ls1 w2 v2 ls2 w3 W6 HO1.out HM1.out HG1.out HA1.out HO2.out HM2.out HL2.out HG2.out HA2.out r2 (r3 _ (Nat.le_refl _)); have HO6 := Lib.hid hO6; have HF := Lib.hid hF; have HB6 : Hid (w.heap.size ≤ W6.heap.size) := (by have a1 := HNB2.out; have a2 := HG1.out.size; have a3 := HG2.out.size; have a4 := (r3 _ (Nat.le_refl _)).size; have a5 := HZ1.out; rw [Hid]; omega); clear hO6 hF hW6 r1 r2 r3 f0'')
          | (at_builtin; go_must (refine push3_at _ rfl (.tmp 58) (.tmp 60) 22 rfl w.heap.size i0 Try.underlying22 HI.out _ (outL (scC N cl) (mkC N) (ls.map cl) m) kx ((addK (ls.map cl) (cl ax)).idxOf (cl ax)) ((addK (ls1.map cl) (cl bx)).idxOf (cl bx)) _ rfl rfl (by simp) HO6.out HOL.out HB6.out ?_); intro u9 w9 hu9 hg9 ha9; have HFF := Lib.hid (HF.out u9 w9 hu9 hg9 ha9); clear hu9 hg9 ha9))
        exact ⟨⟨m + 1, ls2, by go_num, HFF.out⟩, by simp [intOf]; omega⟩
      · have i9 : ¬ (kx : Int) ≥ 4 := by omega
        obtain ⟨e1, e2⟩ := HE0.out h4
        have HFIN : Hid (Ow3 W1 w.heap.size u8 (outL (scC N cl) (mkC N) (ls.map cl) m) ∧ ∀ ov2 w9, Ow3 w9 w.heap.size ov2 (outL (scC N cl) (mkC N) (ls.map cl) m ++ [⟨kx, ax, bx⟩]) → W1.grownBy w9 u8.ownBlock → (ov2.ownBlock = u8.ownBlock ∨ ∃ g, ov2.ownBlock = some g ∧ W1.heap.size ≤ g) → CnS N n cl (cl i) w.heap.size g q vs w (m + 1) ls (.slice (some ⟨g2, 0, none⟩) ls.length cap) ov2 w9) := by
          have hO1 : Ow3 W1 w.heap.size u8 (outL (scC N cl) (mkC N) (ls.map cl) m) := HS.out.oo.below hbl1 (Nat.le_refl _)
          refine ⟨hO1, fun ov2 w9 ho9 hg9 ha9 => ?_⟩
          refine HS.out.step HX.out e1 e2 HS.out.lt (fun k hk _ => hbl1.block k hk) hbl1.size (HS.out.ol.same fun k hk => hbl1.block k (by have e : g2 = k := Option.some.inj hk; omega)) (.inl rfl) (fun k hk _ hno => hg9.block k hk (fun e => hno e.symm)) ?_ ho9 ha9
          exact (HS.out.bl.trans (hbl1.mono hsz)).grown hg9 (by have := hbl1.size; omega) (fun k e => (hO1.lt e).1)
        have HB6 : Hid (w.heap.size ≤ W1.heap.size) := by rw [Hid]; omega
        have f0 := cell_in hrow1 (i := 0) rfl
        have f1 := cell_in hrow1 (i := 1) rfl
        have f2 := cell_in hrow1 (i := 2) rfl
        clear HE2 HE0 e1 e2 h4 hrow1 HS h1l hcap hBg hbl1
        go_wp2_with (at_builtin; rw [← HW1.out]; go_must (refine push3_at _ rfl (.tmp 58) (.tmp 60) 22 rfl w.heap.size i0 Try.underlying22 HI.out _ (outL (scC N cl) (mkC N) (ls.map cl) m) kx ax bx _ rfl rfl (by rw [hz1]) HFIN.out.1 HOL.out HB6.out ?_); intro u9 w9 hu9 hg9 ha9; have HFF := Lib.hid (HFIN.out.2 u9 w9 hu9 hg9 ha9); clear hu9 hg9 ha9)
        exact ⟨⟨m + 1, ls, by go_num, HFF.out⟩, by simp [intOf]; omega⟩
    · have hml2 : m = ls.length := by omega
      subst hml2
      have i2 : ¬ (ls.length : Int) < (ls.length : Int) := by omega
      have HD := Lib.hid (HS.out.done HCLS.out)
      have HOO := Lib.hid HS.out.oo
      have HBL := Lib.hid HS.out.bl
      clear hcell HS hll h1l hcap
      generalize ls.length = ll at *
      go_wp2
      go_ret
      exact ⟨⟨u8, rfl, _, HD.out, HOO.out⟩, HBL.out⟩
end Go.Proofs.Ytmbdjjkgjnemiaa
/- Layer 6, mathematics: canonical types. -/
namespace Go.Proofs.Ytmbdjjkgjnemiaa
open Go.RowKit
set_option linter.unusedVariables false

theorem outL_len {sc : Nat → List Nat} {mk : Nat → List Nat → Nd} {L : List Nat} {m : Nat} (h : m ≤ L.length) : (outL sc mk L m).length = m := by
  unfold outL
  rw [List.length_map, List.length_take]; omega
theorem can_pos {N : List Nd} {i : Nat} {out : List Nd} (h : IsCan N i out) : 0 < out.length := by
  obtain ⟨cl, _, m, hm, rfl⟩ := h
  rw [outL_len (Nat.le_of_eq hm.symm), ← hm]
  exact List.length_pos_of_mem (rch_start (scC N cl) (cl i) m)
theorem can_len {N : List Nd} {i : Nat} {out : List Nd} (h : IsCan N i out) (hok : OkN N) (hi : i < N.length) : out.length ≤ N.length := by
  obtain ⟨cl, hc, m, hm, rfl⟩ := h
  rw [outL_len (Nat.le_of_eq hm.symm), ← hm]
  exact rchC_len rfl hok (hc.lt rfl) (hc.lt rfl i hi) m
end Go.Proofs.Ytmbdjjkgjnemiaa
