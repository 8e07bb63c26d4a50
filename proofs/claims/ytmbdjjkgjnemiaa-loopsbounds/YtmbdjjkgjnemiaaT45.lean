import Derived.Test.YtmbdjjkgjnemiaaT38
import Derived.Test.YtmbdjjkgjnemiaaT10
/- Layer 6: the reference's asked. -/
namespace Go.Proofs.Ytmbdjjkgjnemiaa
open Go.RowKit Go.Maps
set_option linter.unusedVariables false

def akC (N : List Tri) : List Value := N.flatMap fun x => [.int .i64 (x.2.1 : Int), .int .i64 (x.2.2 : Int), .bool (decide (x.1 = 0))]
theorem akC_len (N : List Tri) : (akC N).length = N.length * 3 := by
  induction N with
  | nil => rfl
  | cons p ps ih => simp [akC] at *; omega
theorem akC_at (N : List Tri) : ∀ (j : Nat) (h : j < N.length), (akC N)[j * 3]? = some (.int .i64 (N[j].2.1 : Int)) ∧ (akC N)[j * 3 + 1]? = some (.int .i64 (N[j].2.2 : Int)) ∧ (akC N)[j * 3 + 2]? = some (.bool (decide (N[j].1 = 0))) := by
  induction N with
  | nil => intro j h; simp at h
  | cons p ps ih =>
    intro j h
    have e : akC (p :: ps) = .int .i64 (p.2.1 : Int) :: .int .i64 (p.2.2 : Int) :: .bool (decide (p.1 = 0)) :: akC ps := by simp [akC]
    cases j with
    | zero => rw [e]; exact ⟨rfl, rfl, rfl⟩
    | succ j =>
      rw [e, show (j + 1) * 3 = j * 3 + 1 + 1 + 1 from by omega]
      simp only [List.getElem?_cons_succ, List.getElem_cons_succ]
      exact ih j (by simpa using h)
/-- The call owns the slice v of nodes. -/
def Owk (w : World) (B : Nat) (v : Value) (N : List Tri) : Prop := w.ownsRow B 78 3 v N.length (akC N)
theorem Owk.nil (w : World) (B : Nat) : Owk w B (.slice none 0 0) [] := World.ownsRow_nil _ _ _ _
theorem Owk.lt {w : World} {B : Nat} {v : Value} {N : List Tri} (h : Owk w B v N) {k : Nat} (hk : v.ownBlock = some k) : B ≤ k ∧ k < w.heap.size := World.ownsRow.lt h k hk
theorem Owk.same {w w' : World} {B : Nat} {v : Value} {N : List Tri} (h : Owk w B v N) (hk : ∀ k, v.ownBlock = some k → w'.heap[k]? = w.heap[k]?) : Owk w' B v N := by
  refine ⟨h.1, ?_⟩
  rcases h.2 with h1 | ⟨g, cap, cur, h1, h2, h3, h4⟩
  · exact .inl h1
  · exact .inr ⟨g, cap, cur, h1, h2, (hk g (by rw [h1]; rfl)).trans h3, h4⟩
theorem Owk.below {w w' : World} {B b : Nat} {v : Value} {N : List Tri} (h : Owk w B v N) (hb : Below b w w') (hB : w.heap.size ≤ b) : Owk w' B v N := h.same fun k hk => hb.block k (by have := (h.lt hk).2; omega)
theorem Owk.alloc {w : World} {B : Nat} {v : Value} {N : List Tri} (h : Owk w B v N) (o : Obj) : Owk (w.alloc o) B v N := World.ownsRow.alloc h o
theorem Owk.base {w : World} {B B' : Nat} {v : Value} {N : List Tri} (h : Owk w B v N) (hB : B' ≤ B) : Owk w B' v N := by
  refine ⟨h.1, ?_⟩
  rcases h.2 with h | ⟨g, cap, cur, h1, h2, h3⟩
  · exact .inl h
  · exact .inr ⟨g, cap, cur, h1, by omega, h3⟩
theorem Owk.form {w : World} {B n : Nat} {v : Value} {N : List Tri} (h : Owk w B v N) (hn : N.length = n) (h0 : 0 < n) : ∃ g cap, v = .slice (some ⟨g, 0, none⟩) n cap ∧ n ≤ cap ∧ B ≤ g ∧ g < w.heap.size ∧
    ∀ j, j < n → w.cell? ⟨g, j * 3, none⟩ = some (.int .i64 ((tg N j).2.1 : Int)) ∧ w.cell? ⟨g, j * 3 + 1, none⟩ = some (.int .i64 ((tg N j).2.2 : Int)) ∧ w.cell? ⟨g, j * 3 + 2, none⟩ = some (.bool (decide ((tg N j).1 = 0))) := by
  subst hn
  rcases h.2 with ⟨_, h1⟩ | ⟨g, cap, cur, h1, h2, h3, h4, h5, h6, h7⟩
  · omega
  · refine ⟨g, cap, h1, h4, h2, (Array.getElem?_eq_some_iff.1 h3).1, fun j hj => ?_⟩
    have h8 := akC_at N j hj
    have hc : ∀ i u, (akC N)[i]? = some u → w.cell? ⟨g, i, none⟩ = some u := fun i u hu => by
      rw [cell_of_row w g _ _ _ _ h3]
      rw [← h7, List.getElem?_take] at hu
      split at hu
      · rw [← Array.getElem?_toList]; exact hu
      · cases hu
    unfold tg
    rw [List.getElem?_eq_getElem hj]
    exact ⟨hc _ _ h8.1, hc _ _ h8.2.1, hc _ _ h8.2.2⟩
theorem pushk_law {P : Program} (w : World) {ops : Array Oper} {rest : List Oper} {o : Oper} {a : Act} {Q : Exit → Act → World → Prop} (hgd : o.guard = none) (s x : Operand) (t : TypeId)
    (ho : o.op = .call { callee := .builtin .append, args := #[s, x], argTypes := #[t, t] })
    (B : Nat) (i : TypeInfo) (ht : P.underlying t = some (.slice 78)) (hI : P.info? 78 = some i ∧ i.zero = some (.agg #[.int .i64 0, .int .i64 0, .bool false]) ∧ i.size = 3 ∧ i.bytes = 24)
    (v : Value) (N : List Tri) (p q r : Nat) (hs : a.eval s = v) (hx : a.eval x = .slice (some ⟨w.heap.size, 0, none⟩) 1 1) (hown : Owk w B v N) (hn : N.length ≤ 1099511627776) (hB : B ≤ w.heap.size)
    (h : ∀ v' w', Owk w' B v' (N ++ [⟨p, q, r⟩]) → w.grownBy w' v.ownBlock → (v'.ownBlock = v.ownBlock ∨ ∃ g, v'.ownBlock = some g ∧ w.heap.size ≤ g) → wpList P ops Q rest (a.put o.dst v') w') :
    wpList P ops Q (o :: rest) a (w.alloc (.cells #[.int .i64 (q : Int), .int .i64 (r : Int), .bool (decide (p = 0))] 78)) := by
  obtain ⟨h1, h2, h3, h4⟩ := hI
  refine wpList_append_own_at _ hgd s x t ho B 78 i _ 3 24 ht h1 h2 h3 h4 rfl (by decide) v N.length (akC N) hs (hown.alloc _) ⟨w.heap.size, 0, none⟩ 1 1 [.int .i64 (q : Int), .int .i64 (r : Int), .bool (decide (p = 0))] hx rfl ?_ ?_ (by unfold maxLen; omega) (by omega) (by simp; omega) ?_
  · intro j u hu
    match j, hu with
    | 0, hu =>
      simp at hu; subst hu
      simp [Addr.add]
    | 1, hu =>
      simp at hu; subst hu
      simp [Addr.add]
    | 2, hu =>
      simp at hu; subst hu
      simp [Addr.add]
  · intro u hu
    simp at hu
    rcases hu with rfl | rfl | rfl <;> rfl
  · intro v' w' ho' hg' _ hat
    refine h v' w' ?_ (grown_alloc hg') ?_
    · unfold Owk
      rw [List.length_append, show akC (N ++ [⟨p, q, r⟩]) = akC N ++ [.int .i64 (q : Int), .int .i64 (r : Int), .bool (decide (p = 0))] from by simp [akC]]
      exact ho'
    · rcases hat with e1 | e1
      · exact .inl e1
      · exact .inr ⟨_, e1, by simp⟩
theorem pushk_at {P : Program} (w : World) {ops : Array Oper} {rest : List Oper} {o : Oper} {a : Act} {Q : Exit → Act → World → Prop} (hgd : o.guard = none) (s x : Operand) (t : TypeId)
    (ho : o.op = .call { callee := .builtin .append, args := #[s, x], argTypes := #[t, t] })
    (B : Nat) (i : TypeInfo) (ht : P.underlying t = some (.slice 78)) (hI : P.info? 78 = some i ∧ i.zero = some (.agg #[.int .i64 0, .int .i64 0, .bool false]) ∧ i.size = 3 ∧ i.bytes = 24)
    (v : Value) (N : List Tri) (p q r gb : Nat) (hs : a.eval s = v) (hx : a.eval x = .slice (some ⟨gb, 0, none⟩) 1 1) (hgb : w.heap.size = gb) (hown : Owk w B v N) (hn : N.length ≤ 1099511627776) (hB : B ≤ w.heap.size)
    (h : ∀ v' w', Owk w' B v' (N ++ [⟨p, q, r⟩]) → w.grownBy w' v.ownBlock → (v'.ownBlock = v.ownBlock ∨ ∃ g, v'.ownBlock = some g ∧ w.heap.size ≤ g) → wpList P ops Q rest (a.put o.dst v') w') :
    wpList P ops Q (o :: rest) a (w.alloc (.cells #[.int .i64 (q : Int), .int .i64 (r : Int), .bool (decide (p = 0))] 78)) := by
  subst hgb
  exact pushk_law w hgd s x t ho B i ht hI v N p q r hs hx hown hn hB h
theorem Owk.sln {w : World} {B n : Nat} {v : Value} {L : List Tri} (h : Owk w B v L) (hn : L.length = n) : ∃ A c, v = .slice A n c := by
  subst hn
  rcases h.2 with ⟨h1, h2⟩ | ⟨g, cap, cur, h1, _⟩
  · exact ⟨none, 0, by rw [h2]; exact h1⟩
  · exact ⟨_, _, h1⟩
theorem Owk.sl {w : World} {B : Nat} {v : Value} {L : List Tri} (h : Owk w B v L) : ∃ A c, v = .slice A L.length c := by
  rcases h.2 with ⟨h1, h2⟩ | ⟨g, cap, cur, h1, _⟩
  · exact ⟨none, 0, by rw [h2]; exact h1⟩
  · exact ⟨_, _, h1⟩
theorem Try.infoAk : (Try.prog.info? 78).map (fun i => (i.zero, i.size, i.bytes)) = some (some (.agg #[.int .i64 0, .int .i64 0, .bool false]), 3, 24) := by kernel_rfl
theorem Owk.one (w : World) (B : Nat) (x : Tri) (hB : B ≤ w.heap.size) : Owk (w.alloc (.cells #[.int .i64 (x.2.1 : Int), .int .i64 (x.2.2 : Int), .bool (decide (x.1 = 0))] 78)) B (.slice (some ⟨w.heap.size, 0, none⟩) 1 1) [x] := by
  have h := World.ownsRow_lit (base := B) (e := 78) (size := 3) w #[.int .i64 (x.2.1 : Int), .int .i64 (x.2.2 : Int), .bool (decide (x.1 = 0))] 1 hB (by unfold maxLen; omega) rfl
  simpa [Owk, akC] using h
set_option maxRecDepth 100000 in
theorem run_equalIn_ak (W : World) (p q s t : Int) (b c : Bool) : (Op.equalIn 10000 78 (.agg #[.int .i64 p, .int .i64 q, .bool b]) (.agg #[.int .i64 s, .int .i64 t, .bool c])).run Try.prog W = .ok (p == s && (q == t && b == c)) W := by
  by_cases h : p = s
  · subst h
    by_cases h2 : q = t
    · subst h2
      cases b <;> cases c <;> simp [go_sem]
    · have h3 : (q == t) = false := by simpa using h2
      simp [go_sem, h3]
  · have h3 : (p == s) = false := by simpa using h
    simp [go_sem, h3]
theorem idx_atK {K : Type} [DecidableEq K] : ∀ {L : List K} {k : Nat} {y : K}, L[k]? = some y → (∀ j, j < k → L[j]? ≠ some y) → ixK L y = k
  | [], k, y, h, _ => by simp at h
  | z :: L, 0, y, h, _ => by
    simp at h
    subst h
    simp [ixK]
  | z :: L, k + 1, y, h, hn => by
    have hz : z ≠ y := fun e => hn 0 (by omega) (by simp [e])
    have := idx_atK (L := L) (k := k) (y := y) (by simpa using h) (fun j hj => by
      have := hn (j + 1) (by omega)
      simpa using this)
    unfold ixK at this ⊢
    rw [List.idxOf_cons, show (z == y) = false from by simpa using hz, this]; rfl
/-- What asked leaves behind. -/
structure AkQ (B : Nat) (L : List Tri) (lv : Value) (w : World) (L' : List Tri) (v' : Value) (w' : World) : Prop where
  ow : Owk w' B v' L'
  ks : ∀ k, k < w.heap.size → lv.ownBlock ≠ some k → w'.heap[k]? = w.heap[k]?
  bl : Below B w w'
  gr : Grw lv v' w.heap.size
theorem tri_eq {x y : Tri} (hx : x.1 ≤ 1) (hy : y.1 ≤ 1) : ((y.2.1 : Int) == (x.2.1 : Int) && ((y.2.2 : Int) == (x.2.2 : Int) && decide (y.1 = 0) == decide (x.1 = 0))) = decide (y = x) := by
  obtain ⟨a, b, c⟩ := x
  obtain ⟨a', b', c'⟩ := y
  dsimp only at hx hy ⊢
  rw [Bool.eq_iff_iff]
  simp only [Bool.and_eq_true, beq_iff_eq, decide_eq_true_iff, decide_eq_decide, Prod.mk.injEq]
  omega
theorem decide_eq_decide' {p q : Prop} [Decidable p] [Decidable q] : (decide p = decide q) ↔ (p ↔ q) := decide_eq_decide
set_option maxRecDepth 100000 in
set_option maxHeartbeats 6400000 in
theorem asked_any (B : Nat) (L : List Tri) (lv : Value) (x : Tri) (w : World) (hL : Owk w B lv L) (h1 : 1 ≤ L.length) (hl : L.length ≤ 1000000) (hok : ∀ y ∈ L, y.1 ≤ 1) (hx : x.1 ≤ 1) (hB : B ≤ w.heap.size) :
    Calls Try.prog 50 #[lv, .agg #[.int .i64 (x.2.1 : Int), .int .i64 (x.2.2 : Int), .bool (decide (x.1 = 0))]] w fun e w' => ∃ v', e = .returned (.tuple #[v', .int .i64 ((ixK (addK L x) x : Nat) : Int)]) ∧ AkQ B L lv w (addK L x) v' w' := by
  obtain ⟨g, cap, rfl, hcap, hBg, hg, hcell⟩ := hL.form rfl h1
  obtain ⟨W, hW⟩ : ∃ W, W = w.alloc (.cells #[.int .i64 (x.2.1 : Int), .int .i64 (x.2.2 : Int), .bool (decide (x.1 = 0))] 78) := ⟨_, rfl⟩
  have hb : Below w.heap.size w W := by rw [hW]; exact (Below.refl _ w).alloc (Nat.le_refl _) _
  have hbx : W.heap[w.heap.size]? = some (.cells #[.int .i64 (x.2.1 : Int), .int .i64 (x.2.2 : Int), .bool (decide (x.1 = 0))] 78 (0, 0)) := by rw [hW]; exact heap_alloc_new _ _
  have hzW : W.heap.size = w.heap.size + 1 := by rw [hW]; simp
  obtain ⟨ll, hll⟩ : ∃ ll, ll = L.length := ⟨_, rfl⟩
  rw [← hll] at hcap hcell h1 hl
  have HLL := Lib.hid hll
  have HOW := Lib.hid (hL.below hb (Nat.le_refl _))
  rw [← hll] at HOW
  have HCL : Hid (∀ V, Below W.heap.size W V → ∀ j, j < ll → V.cell? ⟨g, j * 3, none⟩ = some (.int .i64 ((tg L j).2.1 : Int)) ∧ V.cell? ⟨g, j * 3 + 1, none⟩ = some (.int .i64 ((tg L j).2.2 : Int)) ∧ V.cell? ⟨g, j * 3 + 2, none⟩ = some (.bool (decide ((tg L j).1 = 0)))) := fun V hV j hj => by
    obtain ⟨a0, a1, a2⟩ := hcell j hj
    have hbl := hb.trans (hV.mono hb.size)
    exact ⟨(hbl.cell (p := ⟨g, j * 3, none⟩) hg).trans a0, (hbl.cell (p := ⟨g, j * 3 + 1, none⟩) hg).trans a1, (hbl.cell (p := ⟨g, j * 3 + 2, none⟩) hg).trans a2⟩
  have HBX : Hid (∀ V, Below W.heap.size W V → V.cell? ⟨w.heap.size, 0, none⟩ = some (.int .i64 (x.2.1 : Int)) ∧ V.cell? ⟨w.heap.size, 1, none⟩ = some (.int .i64 (x.2.2 : Int)) ∧ V.cell? ⟨w.heap.size, 2, none⟩ = some (.bool (decide (x.1 = 0)))) := fun V hV => by
    have := (hV.block _ (by omega)).trans hbx
    exact ⟨cell_in this (i := 0) rfl, cell_in this (i := 1) rfl, cell_in this (i := 2) rfl⟩
  have HOK : Hid (∀ j, j < ll → (tg L j).1 ≤ 1) := fun j hj => by
    unfold tg
    rw [List.getElem?_eq_getElem (by omega), Option.getD_some]
    exact hok _ (List.getElem_mem _)
  have HAT : Hid (∀ j, j < ll → L[j]? = some (tg L j)) := fun j hj => by
    unfold tg
    rw [List.getElem?_eq_getElem (by omega)]; rfl
  have HFD : Hid (∀ k, k < ll → (∀ j, j < k → tg L j ≠ x) → tg L k = x → x ∈ L ∧ ixK (addK L x) x = k) := fun k hk hj e => by
    have hm : x ∈ L := by rw [← e]; exact List.mem_of_getElem? (HAT.out k hk)
    refine ⟨hm, ?_⟩
    rw [addK_in hm]
    exact idx_atK (by rw [HAT.out k hk, e]) fun j hjk e' => by
      rw [HAT.out j (by omega)] at e'
      exact hj j hjk (Option.some.inj e')
  have HNW : Hid ((∀ j, j < ll → tg L j ≠ x) → x ∉ L) := fun h hm => by
    obtain ⟨j, hj, e⟩ := List.mem_iff_getElem.1 hm
    refine h j (by omega) ?_
    unfold tg
    rw [List.getElem?_eq_getElem hj]
    exact e
  have HB := Lib.hid hb
  have HW := Lib.hid hW
  have HZ := Lib.hid hzW
  have HBG := Lib.hid hBg
  have HX1 : Hid (x.1 ≤ 1) := hx
  obtain ⟨i0, hi, hz0, hz1, hz2⟩ := info_parts Try.infoAk
  have HI : Hid (Try.prog.info? 78 = some i0 ∧ i0.zero = some (.agg #[.int .i64 0, .int .i64 0, .bool false]) ∧ i0.size = 3 ∧ i0.bytes = 24) := ⟨hi, hz0, hz1, hz2⟩
  have HGW : Hid (∀ V, Below W.heap.size W V → Below w.heap.size w V) := fun V hV => hb.trans (hV.mono hb.size)
  rw [← hll]
  clear hL hb hbx hzW hW hi hz0 hz1 hz2 hok hcell hll
  have hgW : g < W.heap.size := by have := HZ.out; omega
  go_enter Try.func50, Try.ntmps50
  go_wp2
  rw [← HW.out]
  go_loopw [6] (fun i w' => ∃ k : Nat, k ≤ ll ∧ i = .int .i64 (k : Int) ∧ Hid (∀ j, j < k → tg L j ≠ x) ∧ Hid (Dr W w')) (fun i _ => ll - (intOf i).toNat)
  case atStart => exact ⟨0, by omega, by go_num, fun j hj => absurd hj (Nat.not_lt_zero _), Dr.refl _⟩
  case round =>
    obtain ⟨k, hk, rfl, HK, HD⟩ := hrel
    obtain ⟨wo, rfl⟩ : ∃ wo : World, wo = wr := ⟨_, rfl⟩
    have hbo : Below W.heap.size W wo := HD.out.below _
    have HBO := Lib.hid hbo
    by_cases hkl : k < ll
    · have i2 : (k : Int) < (ll : Int) := by omega
      obtain ⟨c0, c1, c2⟩ := HCL.out wo hbo k hkl
      obtain ⟨d0, d1, d2⟩ := HBX.out wo hbo
      have he := tri_eq HX1.out (HOK.out k hkl)
      have heq := fun V => run_equalIn_ak V ((tg L k).2.1 : Int) ((tg L k).2.2 : Int) (x.2.1 : Int) (x.2.2 : Int) (decide ((tg L k).1 = 0)) (decide (x.1 = 0))
      rw [he] at heq
      by_cases hxe : tg L k = x
      · rw [decide_eq_true hxe] at heq
        obtain ⟨hm, hix⟩ := HFD.out k hkl HK.out hxe
        have HMX := Lib.hid hm
        have HIX := Lib.hid hix
        clear he hxe hm hix hbo
        go_wp2
        go_quiet (fail)
        go_wp2
        go_ret2
        have HBQ : Hid (Below W.heap.size W (wo.drewN nq)) := below_dn HBO.out nq
        refine ⟨.slice (some ⟨g, 0, none⟩) ll cap, by rw [HIX.out]; rfl, ?_⟩
        rw [addK_in HMX.out]
        exact ⟨HOW.out.below HBQ.out (Nat.le_refl _), fun j hj _ => (HGW.out _ HBQ.out).block j hj, (HGW.out _ HBQ.out).mono hB, .inl rfl⟩
      · rw [decide_eq_false hxe] at heq
        have HKS : Hid (∀ j, j < k + 1 → tg L j ≠ x) := fun j hj => by
          by_cases e : j = k
          · rw [e]; exact hxe
          · exact HK.out j (by omega)
        clear he hxe hbo
        go_wp2
        go_quiet (fail)
        go_wp2
        exact ⟨⟨k + 1, by omega, by go_num, HKS.out, HD.out.more _⟩, by simp [intOf]; omega⟩
    · have hkn : k = ll := by omega
      subst hkn
      have i2 : ¬ (k : Int) < (k : Int) := by omega
      have hnm := HNW.out HK.out
      have HNM := Lib.hid hnm
      have HIX : Hid (ixK (addK L x) x = k) := (ixK_end hnm).trans HLL.out.symm
      have HO2 : Hid (Owk wo B (.slice (some ⟨g, 0, none⟩) k cap) L) := HOW.out.below hbo (Nat.le_refl _)
      obtain ⟨d0, d1, d2⟩ := HBX.out wo hbo
      have HLN : Hid (L.length ≤ 1099511627776) := by rw [Hid, ← HLL.out]; omega
      have HZB : Hid (B ≤ wo.heap.size) := by have := hbo.size; have := HZ.out; rw [Hid]; omega
      clear HK HNW HFD hkl hk hnm hbo
      go_wp2_with (at_builtin; go_must (refine pushk_at wo rfl (.tmp 21) (.tmp 23) 79 rfl B i0 Try.underlying79 HI.out _ L x.1 x.2.1 x.2.2 _ rfl rfl rfl HO2.out HLN.out HZB.out ?_); intro v2 w2 hv2 hgr2 hat2; obtain ⟨A2, c2, rfl⟩ := Owk.sln (n := k + 1) hv2 (by rw [List.length_append, ← HLL.out]; rfl); have HV2 := Lib.hid hv2; have HG2 := Lib.hid hgr2; have HA2 := Lib.hid hat2; clear hv2 hgr2 hat2)
      go_ret2
      refine ⟨.slice A2 (k + 1) c2, by rw [HIX.out]; rfl, ?_⟩
      rw [addK_new HNM.out]
      have hz := HBO.out.size
      have hzz := HZ.out
      refine ⟨HV2.out, fun j hj hne => (HG2.out.block j (by omega) (fun e => hne e.symm)).trans ((HGW.out _ HBO.out).block j hj), ((HGW.out _ HBO.out).mono hB).trans ⟨HG2.out.os, HG2.out.tape, HG2.out.output, HG2.out.size, fun j hj => HG2.out.block j (by omega) (fun e => by have e : j = g := Option.some.inj e; have := HBG.out; omega)⟩, ?_⟩
      rcases HA2.out with e | ⟨g2, e, hg2⟩
      · exact .inl e
      · exact .inr ⟨g2, e, by omega⟩
end Go.Proofs.Ytmbdjjkgjnemiaa
