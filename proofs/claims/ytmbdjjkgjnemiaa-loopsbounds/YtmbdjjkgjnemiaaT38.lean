import Derived.Test.YtmbdjjkgjnemiaaT02
import Derived.Deep.RegionHeldLaw
import Derived.Deep.DrawnRows
import Derived.Test.YtmbdjjkgjnemiaaT08
/- Layer 6: regions that draw, by hand; a struct of three is stored. -/
namespace Go.Proofs.Ytmbdjjkgjnemiaa
open Go.RowKit
set_option linter.unusedVariables false
theorem set_threeO {w v : World} {r t : Nat} {a0 a1 a2 u0 u1 u2 : Value} (h : w.heap[r]? = some (.cells #[a0, a1, a2] t (0, 0))) (hv : v = ((w.setCell ⟨r, 0, none⟩ u0).setCell ⟨r, 1, none⟩ u1).setCell ⟨r, 2, none⟩ u2) :
    v.heap[r]? = some (.cells #[u0, u1, u2] t (0, 0)) ∧ (∀ k, k ≠ r → v.heap[k]? = w.heap[k]?) ∧ ∀ B, B ≤ r → Below B w v := by
  subst hv
  refine ⟨?_, fun k hk => ?_, fun B hB => (((Below.refl B w).setCell (p := ⟨r, 0, none⟩) hB u0).setCell (p := ⟨r, 1, none⟩) hB u1).setCell (p := ⟨r, 2, none⟩) hB u2⟩
  · simp [World.setCell, Array.getElem?_modify, h]
  · have hne : ¬ r = k := fun e => hk e.symm
    simp [World.setCell, Array.getElem?_modify, hne]
theorem wpAnyH_takeO {P : Program} {md : Region.Mode} {ops : Array Oper} {Q : Exit → Act → World → Prop} {S : World → Prop} {i : Nat} {oi : Oper} {v : Value} {fuel : Nat} {listed : Array Bool} {a : Act} {w : World} (hi : ops[i]? = some oi)
    (hs : Region.noSelect ops = true) (hf : Region.free md ops listed i = true) (hr : (Region.ready md ops listed).contains i = true) (hS : S w)
    (hQ : ∀ c a w, Q (.panic c) (a.put oi.dst v) w → Q (.panic c) a w) (hy : YieldsIf P ops S oi v a)
    (h : wpAnyH P md ops Q S fuel (listed.setIfInBounds i true) (a.put oi.dst v) w) : wpAnyH P md ops Q S (fuel + 1) listed a w :=
  wpAnyH_take hi hs hf hr hQ hy hS h
theorem wp_then_monoO {P : Program} {c : Code} {K K' : Act → World → Prop} {Q : Exit → Act → World → Prop} {a : Act} {w : World} (h : ∀ a w, K a w → K' a w) (hc : c.wp P (Exit.then K Q) a w) : c.wp P (Exit.then K' Q) a w :=
  Code.wp_mono (fun e a w hq => by
    cases e
    case normal => exact h a w hq
    all_goals exact hq) hc
end Go.Proofs.Ytmbdjjkgjnemiaa
/- Layer 6: goals (the join or the meet of two nodes): mathematics; farthest, other. -/
namespace Go.Proofs.Ytmbdjjkgjnemiaa
open Go.RowKit
set_option linter.unusedVariables false

/-- The kind that decides alone, the other way. -/
def farN (u : Nat) : Nat := if u = 0 then 1 else 0
def othN (u : Nat) : Nat := if u = 0 then 1 else 0
theorem farN_le (u : Nat) : farN u ≤ 1 := by unfold farN; split <;> omega
theorem othN_le (u : Nat) : othN u ≤ 1 := by unfold othN; split <;> omega
/-- A goal in its simpler form. -/
def simG (N : List Nd) (x : Tri) : Tri := if (nd N x.2.1).k = farN (othN x.1) then (x.1, x.2.2, x.2.2) else if (nd N x.2.2).k = farN (othN x.1) then (x.1, x.2.1, x.2.1) else x
/-- What a goal asks for. -/
def scG (N : List Nd) (x : Tri) : List Tri :=
  if (nd N (simG N x).2.1).k = (nd N (simG N x).2.2).k ∧ 4 ≤ (nd N (simG N x).2.1).k then
    [(if (nd N (simG N x).2.1).k = 5 then othN x.1 else x.1, (nd N (simG N x).2.1).a, (nd N (simG N x).2.2).a), (x.1, (nd N (simG N x).2.1).b, (nd N (simG N x).2.2).b)]
  else []
/-- The node of a goal. -/
def mkG (N : List Nd) (x : Tri) (ps : List Nat) : Nd :=
  if (nd N (simG N x).2.1).k = (nd N (simG N x).2.2).k then (if 4 ≤ (nd N (simG N x).2.1).k then ⟨(nd N (simG N x).2.1).k, ps[0]?.getD 0, ps[1]?.getD 0⟩ else nd N (simG N x).2.1) else ⟨farN x.1, 0, 0⟩
def OkG (n : Nat) (x : Tri) : Prop := x.1 ≤ 1 ∧ x.2.1 < n ∧ x.2.2 < n
theorem simG_way (N : List Nd) (x : Tri) : (simG N x).1 = x.1 := by
  unfold simG
  split
  · rfl
  · split <;> rfl
theorem simG_ok {N : List Nd} {n : Nat} {x : Tri} (h : OkG n x) : OkG n (simG N x) := by
  unfold simG
  split
  · exact ⟨h.1, h.2.2, h.2.2⟩
  · split
    · exact ⟨h.1, h.2.1, h.2.1⟩
    · exact h
theorem scG_ok {N : List Nd} {n : Nat} (hn : N.length = n) (hok : OkN N) {x : Tri} (h : OkG n x) : ∀ y ∈ scG N x, OkG n y := by
  have hs := simG_ok (N := N) h
  unfold scG
  split
  · rename_i hc
    intro y hy
    have h4 : 4 ≤ (nd N (simG N x).2.2).k := by rw [← hc.1]; exact hc.2
    have a1 := hok.a _ (by rw [hn]; exact hs.2.1)
    have b1 := hok.b _ (by rw [hn]; exact hs.2.1)
    have a2 := hok.a _ (by rw [hn]; exact hs.2.2)
    have b2 := hok.b _ (by rw [hn]; exact hs.2.2)
    rw [hn] at a1 b1 a2 b2
    rcases List.mem_cons.1 hy with rfl | hy
    · refine ⟨?_, a1, a2⟩
      show (if _ then _ else _) ≤ 1
      split
      · exact othN_le _
      · exact h.1
    · rw [List.mem_singleton] at hy
      subst hy
      exact ⟨h.1, b1, b2⟩
  · intro y hy
    cases hy
theorem rchG_ok {N : List Nd} {n : Nat} (hn : N.length = n) (hok : OkN N) {x : Tri} (h : OkG n x) (m : Nat) : ∀ y ∈ rch (scG N) x m, OkG n y := rch_all (scG N) x h (fun q hq y hy => scG_ok hn hok hq y hy) m
def allG (n : Nat) : List Tri := (List.range 2).flatMap fun u => (List.range n).flatMap fun i => (List.range n).map fun j => (u, (i, j))
theorem allG_len (n : Nat) : (allG n).length = 2 * (n * n) := by
  have h1 : ∀ (u : Nat) (L : List Nat), (L.flatMap fun i => (List.range n).map fun j => (u, (i, j))).length = L.length * n := fun u L => by
    induction L with
    | nil => simp
    | cons a L ih => rw [List.flatMap_cons, List.length_append, ih, List.length_map, List.length_range, List.length_cons, Nat.succ_mul]; omega
  unfold allG
  show ([0, 1].flatMap fun u => (List.range n).flatMap fun i => (List.range n).map fun j => (u, (i, j))).length = _
  rw [List.flatMap_cons, List.flatMap_cons, List.flatMap_nil, List.length_append, List.length_append, h1, h1, List.length_range]
  simp only [List.length_nil]
  omega
theorem mem_allG {n : Nat} {x : Tri} (h : OkG n x) : x ∈ allG n := by
  obtain ⟨u, i, j⟩ := x
  obtain ⟨h1, h2, h3⟩ := h
  dsimp only at h1 h2 h3
  exact List.mem_flatMap.2 ⟨u, List.mem_range.2 (by omega), List.mem_flatMap.2 ⟨i, List.mem_range.2 h2, List.mem_map.2 ⟨j, List.mem_range.2 h3, rfl⟩⟩⟩
theorem rchG_len {N : List Nd} {n : Nat} (hn : N.length = n) (hok : OkN N) {x : Tri} (h : OkG n x) (m : Nat) : (rch (scG N) x m).length ≤ 2 * (n * n) := by
  rw [← allG_len n]
  exact nodup_into' (rch_nodup (scG N) x m) fun y hy => mem_allG (rchG_ok hn hok h m y hy)
set_option maxRecDepth 100000 in
theorem far_any (u : Nat) (hu : u ≤ 1) (w : World) : Calls Try.prog 70 #[.int .i64 (u : Int)] w fun e w' => e = .returned (.int .i64 (farN u : Int)) ∧ Below w.heap.size w w' := by
  rcases (show u = 0 ∨ u = 1 by omega) with rfl | rfl
  all_goals
    go_enter Try.func70, Try.ntmps70
    go_wp2
    go_ret
    exact ⟨rfl, Below.refl _ _⟩
set_option maxRecDepth 100000 in
theorem oth_any (u : Nat) (hu : u ≤ 1) (w : World) : Calls Try.prog 71 #[.int .i64 (u : Int)] w fun e w' => e = .returned (.int .i64 (othN u : Int)) ∧ Below w.heap.size w w' := by
  rcases (show u = 0 ∨ u = 1 by omega) with rfl | rfl
  all_goals
    go_enter Try.func71, Try.ntmps71
    go_wp2
    go_ret
    exact ⟨rfl, Below.refl _ _⟩
end Go.Proofs.Ytmbdjjkgjnemiaa
/- Layer 6: slices of goals; the closure place of goals. -/
namespace Go.Proofs.Ytmbdjjkgjnemiaa
open Go.RowKit Go.Maps
set_option linter.unusedVariables false

def tg (N : List Tri) (j : Nat) : Tri := N[j]?.getD (0, (0, 0))
def glC (N : List Tri) : List Value := N.flatMap fun x => [.int .i64 (x.1 : Int), .int .i64 (x.2.1 : Int), .int .i64 (x.2.2 : Int)]
theorem glC_len (N : List Tri) : (glC N).length = N.length * 3 := by
  induction N with
  | nil => rfl
  | cons p ps ih => simp [glC] at *; omega
theorem glC_at (N : List Tri) : ∀ (j : Nat) (h : j < N.length), (glC N)[j * 3]? = some (.int .i64 (N[j].1 : Int)) ∧ (glC N)[j * 3 + 1]? = some (.int .i64 (N[j].2.1 : Int)) ∧ (glC N)[j * 3 + 2]? = some (.int .i64 (N[j].2.2 : Int)) := by
  induction N with
  | nil => intro j h; simp at h
  | cons p ps ih =>
    intro j h
    have e : glC (p :: ps) = .int .i64 (p.1 : Int) :: .int .i64 (p.2.1 : Int) :: .int .i64 (p.2.2 : Int) :: glC ps := by simp [glC]
    cases j with
    | zero => rw [e]; exact ⟨rfl, rfl, rfl⟩
    | succ j =>
      rw [e, show (j + 1) * 3 = j * 3 + 1 + 1 + 1 from by omega]
      simp only [List.getElem?_cons_succ, List.getElem_cons_succ]
      exact ih j (by simpa using h)
/-- The call owns the slice v of nodes. -/
def Owg (w : World) (B : Nat) (v : Value) (N : List Tri) : Prop := w.ownsRow B 76 3 v N.length (glC N)
theorem Owg.nil (w : World) (B : Nat) : Owg w B (.slice none 0 0) [] := World.ownsRow_nil _ _ _ _
theorem Owg.lt {w : World} {B : Nat} {v : Value} {N : List Tri} (h : Owg w B v N) {k : Nat} (hk : v.ownBlock = some k) : B ≤ k ∧ k < w.heap.size := World.ownsRow.lt h k hk
theorem Owg.same {w w' : World} {B : Nat} {v : Value} {N : List Tri} (h : Owg w B v N) (hk : ∀ k, v.ownBlock = some k → w'.heap[k]? = w.heap[k]?) : Owg w' B v N := by
  refine ⟨h.1, ?_⟩
  rcases h.2 with h1 | ⟨g, cap, cur, h1, h2, h3, h4⟩
  · exact .inl h1
  · exact .inr ⟨g, cap, cur, h1, h2, (hk g (by rw [h1]; rfl)).trans h3, h4⟩
theorem Owg.below {w w' : World} {B b : Nat} {v : Value} {N : List Tri} (h : Owg w B v N) (hb : Below b w w') (hB : w.heap.size ≤ b) : Owg w' B v N := h.same fun k hk => hb.block k (by have := (h.lt hk).2; omega)
theorem Owg.alloc {w : World} {B : Nat} {v : Value} {N : List Tri} (h : Owg w B v N) (o : Obj) : Owg (w.alloc o) B v N := World.ownsRow.alloc h o
theorem Owg.base {w : World} {B B' : Nat} {v : Value} {N : List Tri} (h : Owg w B v N) (hB : B' ≤ B) : Owg w B' v N := by
  refine ⟨h.1, ?_⟩
  rcases h.2 with h | ⟨g, cap, cur, h1, h2, h3⟩
  · exact .inl h
  · exact .inr ⟨g, cap, cur, h1, by omega, h3⟩
theorem Owg.form {w : World} {B n : Nat} {v : Value} {N : List Tri} (h : Owg w B v N) (hn : N.length = n) (h0 : 0 < n) : ∃ g cap, v = .slice (some ⟨g, 0, none⟩) n cap ∧ n ≤ cap ∧ B ≤ g ∧ g < w.heap.size ∧
    ∀ j, j < n → w.cell? ⟨g, j * 3, none⟩ = some (.int .i64 ((tg N j).1 : Int)) ∧ w.cell? ⟨g, j * 3 + 1, none⟩ = some (.int .i64 ((tg N j).2.1 : Int)) ∧ w.cell? ⟨g, j * 3 + 2, none⟩ = some (.int .i64 ((tg N j).2.2 : Int)) := by
  subst hn
  rcases h.2 with ⟨_, h1⟩ | ⟨g, cap, cur, h1, h2, h3, h4, h5, h6, h7⟩
  · omega
  · refine ⟨g, cap, h1, h4, h2, (Array.getElem?_eq_some_iff.1 h3).1, fun j hj => ?_⟩
    have h8 := glC_at N j hj
    have hc : ∀ i u, (glC N)[i]? = some u → w.cell? ⟨g, i, none⟩ = some u := fun i u hu => by
      rw [cell_of_row w g _ _ _ _ h3]
      rw [← h7, List.getElem?_take] at hu
      split at hu
      · rw [← Array.getElem?_toList]; exact hu
      · cases hu
    unfold tg
    rw [List.getElem?_eq_getElem hj]
    exact ⟨hc _ _ h8.1, hc _ _ h8.2.1, hc _ _ h8.2.2⟩
theorem pushg_law {P : Program} (w : World) {ops : Array Oper} {rest : List Oper} {o : Oper} {a : Act} {Q : Exit → Act → World → Prop} (hgd : o.guard = none) (s x : Operand) (t : TypeId)
    (ho : o.op = .call { callee := .builtin .append, args := #[s, x], argTypes := #[t, t] })
    (B : Nat) (i : TypeInfo) (ht : P.underlying t = some (.slice 76)) (hI : P.info? 76 = some i ∧ i.zero = some (.agg #[.int .i64 0, .int .i64 0, .int .i64 0]) ∧ i.size = 3 ∧ i.bytes = 24)
    (v : Value) (N : List Tri) (p q r : Nat) (hs : a.eval s = v) (hx : a.eval x = .slice (some ⟨w.heap.size, 0, none⟩) 1 1) (hown : Owg w B v N) (hn : N.length ≤ 1099511627776) (hB : B ≤ w.heap.size)
    (h : ∀ v' w', Owg w' B v' (N ++ [⟨p, q, r⟩]) → w.grownBy w' v.ownBlock → (v'.ownBlock = v.ownBlock ∨ ∃ g, v'.ownBlock = some g ∧ w.heap.size ≤ g) → wpList P ops Q rest (a.put o.dst v') w') :
    wpList P ops Q (o :: rest) a (w.alloc (.cells #[.int .i64 (p : Int), .int .i64 (q : Int), .int .i64 (r : Int)] 76)) := by
  obtain ⟨h1, h2, h3, h4⟩ := hI
  refine wpList_append_own_at _ hgd s x t ho B 76 i _ 3 24 ht h1 h2 h3 h4 rfl (by decide) v N.length (glC N) hs (hown.alloc _) ⟨w.heap.size, 0, none⟩ 1 1 [.int .i64 (p : Int), .int .i64 (q : Int), .int .i64 (r : Int)] hx rfl ?_ ?_ (by unfold maxLen; omega) (by omega) (by simp; omega) ?_
  · intro j u hu
    match j, hu with
    | 0, hu =>
      simp at hu; subst hu
      simp [Addr.add]
    | 1, hu =>
      simp at hu; subst hu
      simp [Addr.add]
    | 2, hu =>
      simp at hu; subst hu
      simp [Addr.add]
  · intro u hu
    simp at hu
    rcases hu with rfl | rfl | rfl <;> rfl
  · intro v' w' ho' hg' _ hat
    refine h v' w' ?_ (grown_alloc hg') ?_
    · unfold Owg
      rw [List.length_append, show glC (N ++ [⟨p, q, r⟩]) = glC N ++ [.int .i64 (p : Int), .int .i64 (q : Int), .int .i64 (r : Int)] from by simp [glC]]
      exact ho'
    · rcases hat with e1 | e1
      · exact .inl e1
      · exact .inr ⟨_, e1, by simp⟩
theorem pushg_at {P : Program} (w : World) {ops : Array Oper} {rest : List Oper} {o : Oper} {a : Act} {Q : Exit → Act → World → Prop} (hgd : o.guard = none) (s x : Operand) (t : TypeId)
    (ho : o.op = .call { callee := .builtin .append, args := #[s, x], argTypes := #[t, t] })
    (B : Nat) (i : TypeInfo) (ht : P.underlying t = some (.slice 76)) (hI : P.info? 76 = some i ∧ i.zero = some (.agg #[.int .i64 0, .int .i64 0, .int .i64 0]) ∧ i.size = 3 ∧ i.bytes = 24)
    (v : Value) (N : List Tri) (p q r gb : Nat) (hs : a.eval s = v) (hx : a.eval x = .slice (some ⟨gb, 0, none⟩) 1 1) (hgb : w.heap.size = gb) (hown : Owg w B v N) (hn : N.length ≤ 1099511627776) (hB : B ≤ w.heap.size)
    (h : ∀ v' w', Owg w' B v' (N ++ [⟨p, q, r⟩]) → w.grownBy w' v.ownBlock → (v'.ownBlock = v.ownBlock ∨ ∃ g, v'.ownBlock = some g ∧ w.heap.size ≤ g) → wpList P ops Q rest (a.put o.dst v') w') :
    wpList P ops Q (o :: rest) a (w.alloc (.cells #[.int .i64 (p : Int), .int .i64 (q : Int), .int .i64 (r : Int)] 76)) := by
  subst hgb
  exact pushg_law w hgd s x t ho B i ht hI v N p q r hs hx hown hn hB h
theorem Try.infoGl : (Try.prog.info? 76).map (fun i => (i.zero, i.size, i.bytes)) = some (some (.agg #[.int .i64 0, .int .i64 0, .int .i64 0]), 3, 24) := by kernel_rfl
def ownG : OwnKit Tri := ⟨fun w B v L => Owg w B v L, fun h hk => Owg.lt h hk, fun h hk => Owg.same h hk⟩
def ixK {S : Type} [DecidableEq S] (L : List S) (x : S) : Nat := L.idxOf x
theorem ixK_end {S : Type} [DecidableEq S] {L : List S} {x : S} (h : x ∉ L) : ixK (addK L x) x = L.length := plEnds h
theorem idxM_ix {S : Type} [DecidableEq S] {L : List S} {x : S} (h : x ∈ L) : idxM L x = some (.int .i64 ((ixK L x : Nat) : Int)) := if_pos h
theorem Owg.sln {w : World} {B n : Nat} {v : Value} {L : List Tri} (h : Owg w B v L) (hn : L.length = n) : ∃ A c, v = .slice A n c := by
  subst hn
  rcases h.2 with ⟨h1, h2⟩ | ⟨g, cap, cur, h1, _⟩
  · exact ⟨none, 0, by rw [h2]; exact h1⟩
  · exact ⟨_, _, h1⟩
theorem Owg.sl {w : World} {B : Nat} {v : Value} {L : List Tri} (h : Owg w B v L) : ∃ A c, v = .slice A L.length c := by
  rcases h.2 with ⟨h1, h2⟩ | ⟨g, cap, cur, h1, _⟩
  · exact ⟨none, 0, by rw [h2]; exact h1⟩
  · exact ⟨_, _, h1⟩
set_option maxRecDepth 100000 in
set_option maxHeartbeats 3200000 in
theorem placeG_any (B s5 s6 bm : Nat) (L : List Tri) (v : Value) (x : Tri) (w : World) (h : PlS encGl ownG 107 108 B s5 s6 bm L v w) (hx : triOk x) (hl : L.length ≤ 1000000) (hB : B ≤ w.heap.size) :
    Calls Try.prog 68 #[triV x, .pointer (some ⟨s5, 0, none⟩), .pointer (some ⟨s6, 0, none⟩)] w fun e w' => ∃ v', e = .returned (.int .i64 ((ixK (addK L x) x : Nat) : Int)) ∧ PlQ encGl ownG 107 108 B s5 s6 bm L v w (addK L x) v' w' := by
  obtain ⟨W, hW⟩ : ∃ W, W = w.alloc (.cells #[.int .i64 (x.1 : Int), .int .i64 (x.2.1 : Int), .int .i64 (x.2.2 : Int)] 76) := ⟨_, rfl⟩
  have hb : Below w.heap.size w W := by rw [hW]; exact (Below.refl _ w).alloc (Nat.le_refl _) _
  have hbx : W.heap[w.heap.size]? = some (.cells #[.int .i64 (x.1 : Int), .int .i64 (x.2.1 : Int), .int .i64 (x.2.2 : Int)] 76 (0, 0)) := by rw [hW]; exact heap_alloc_new _ _
  have hzW : W.heap.size = w.heap.size + 1 := by rw [hW]; simp
  have HLO := Lib.hid h.lt
  have hS := h.below hb
  have HS := Lib.hid hS
  have HB := Lib.hid hb
  have HBX := Lib.hid hbx
  have HW := Lib.hid hW
  have c5 := cell_in hS.c5 (i := 0) rfl
  have c6 := cell_in hS.c6 (i := 0) rfl
  have k0 : W.cell? ⟨w.heap.size, 0, none⟩ = some (.int .i64 (x.1 : Int)) := cell_in hbx (i := 0) rfl
  have k1 : W.cell? ⟨w.heap.size, 1, none⟩ = some (.int .i64 (x.2.1 : Int)) := cell_in hbx (i := 1) rfl
  have k2 : W.cell? ⟨w.heap.size, 2, none⟩ = some (.int .i64 (x.2.2 : Int)) := cell_in hbx (i := 2) rfl
  show Calls _ _ #[.agg #[.int .i64 (x.1 : Int), .int .i64 (x.2.1 : Int), .int .i64 (x.2.2 : Int)], _, _] w _
  by_cases hm : x ∈ L
  · have lk := run_lookIk W 107 Try.underlying107 _ _ _ hS.km (x := x) hx ((ixK L x : Nat) : Int) (by rw [idxM_ix hm]; rfl) true (by rw [idxM_ix hm]; rfl)
    have lk : (Instr.lookup 107 (.map (some bm)) (.agg #[.int .i64 (x.1 : Int), .int .i64 (x.2.1 : Int), .int .i64 (x.2.2 : Int)]) true).run Try.prog W = .ok (.tuple #[.int .i64 ((ixK L x : Nat) : Int), .bool true]) W := lk
    have HE : Hid (addK L x = L) := addK_in hm
    generalize hi : ixK L x = i at lk
    have HIX : Hid (ixK L x = i) := hi
    clear hm h hi hS
    rw [hW] at lk c5 c6 k0 k1 k2
    clear hbx hb hW
    go_enter Try.func68, Try.ntmps68
    go_wp2
    go_ret
    rw [← HW.out]
    refine ⟨v, ?_, ?_⟩
    · rw [HE.out, HIX.out]; rfl
    · rw [HE.out]; exact PlQ.after HB.out (PlQ.refl HS.out)
  · have ho : Owg W B v L := hS.ow
    obtain ⟨A, c, rfl⟩ := ho.sl
    obtain ⟨i0, hi, hz0, hz1, hz2⟩ := info_parts Try.infoGl
    have HI : Hid (Try.prog.info? 76 = some i0 ∧ i0.zero = some (.agg #[.int .i64 0, .int .i64 0, .int .i64 0]) ∧ i0.size = 3 ∧ i0.bytes = 24) := ⟨hi, hz0, hz1, hz2⟩
    have lk := run_lookIk W 107 Try.underlying107 _ _ _ hS.km (x := x) hx 0 (by rw [idxM_out hm]; rfl) false (by rw [idxM_out hm]; rfl)
    have lk : (Instr.lookup 107 (.map (some bm)) (.agg #[.int .i64 (x.1 : Int), .int .i64 (x.2.1 : Int), .int .i64 (x.2.2 : Int)]) true).run Try.prog W = .ok (.tuple #[.int .i64 0, .bool false]) W := lk
    obtain ⟨w1, hup, hk1, hg1⟩ := run_storeK W hS.km 107 Try.underlying107 (by omega) (k := x) hx (.int .i64 (L.length : Int)) (.int .i64 (L.length : Int)) (plainElem_int Try.underlying3 (wfN (by omega)))
    have hup : (Instr.mapUpdate 107 (.map (some bm)) (.agg #[.int .i64 (x.1 : Int), .int .i64 (x.2.1 : Int), .int .i64 (x.2.2 : Int)]) (.int .i64 (L.length : Int))).run Try.prog W = .ok () w1 := hup
    have HK1 := Lib.hid hk1
    have HG1 := Lib.hid hg1
    have HM := Lib.hid hm
    obtain ⟨l5, l6, lb⟩ := hS.lt
    have d6 : w1.cell? ⟨s6, 0, none⟩ = some (.slice A L.length c) := by
      have := (hg1.block s6 l6 (by intro e; exact hS.ne.2.2 (Option.some.inj e))).trans hS.c6
      exact cell_in this (i := 0) rfl
    have d5 : w1.cell? ⟨s5, 0, none⟩ = some (.map (some bm)) := by
      have := (hg1.block s5 l5 (by intro e; exact hS.ne.2.1 (Option.some.inj e))).trans hS.c5
      exact cell_in this (i := 0) rfl
    have hbx1 := (hg1.block w.heap.size (by omega) (by intro e; have e1 : w.heap.size = bm := Option.some.inj e; have := HLO.out.2.2; omega)).trans hbx
    have e0 : w1.cell? ⟨w.heap.size, 0, none⟩ = some (.int .i64 (x.1 : Int)) := cell_in hbx1 (i := 0) rfl
    have e1 : w1.cell? ⟨w.heap.size, 1, none⟩ = some (.int .i64 (x.2.1 : Int)) := cell_in hbx1 (i := 1) rfl
    have e2 : w1.cell? ⟨w.heap.size, 2, none⟩ = some (.int .i64 (x.2.2 : Int)) := cell_in hbx1 (i := 2) rfl
    have HO1 : Hid (Owg w1 B (.slice A L.length c) L) := Owg.same ho fun k hk => hg1.block k (Owg.lt ho hk).2 (by intro e; exact (hS.ap k hk).2.2 (Option.some.inj e))
    have HZ : Hid (B ≤ w1.heap.size) := Nat.le_trans (Nat.le_trans hB hb.size) hg1.size
    have HLN : Hid (L.length ≤ 1099511627776) := by rw [Hid]; omega
    have HPE : Hid (ixK (addK L x) x = L.length) := ixK_end hm
    have hl6 := l6
    rw [hW] at lk c5 c6 k0 k1 k2 hup
    have HL6 := Lib.hid l6
    generalize hn : L.length = n at *
    have HN := Lib.hid hn
    clear h hm hk1 hg1 hi hz0 hz1 hz2 hn hbx hb hW hbx1 ho hS l5 l6 lb hl6
    go_enter Try.func68, Try.ntmps68
    go_wp2_with (at_builtin; go_must (refine pushg_law w1 rfl (.tmp 20) (.tmp 22) 108 rfl B i0 Try.underlying108 HI.out _ L x.1 x.2.1 x.2.2 rfl rfl HO1.out (by rw [HN.out]; exact HLN.out) HZ.out ?_); intro v2 w2 hv2 hgr2 hat2; obtain ⟨A2, c2, rfl⟩ := Owg.sln (n := n + 1) hv2 (by rw [List.length_append, HN.out]; rfl); have HV2 := Lib.hid hv2; have HG2 := Lib.hid hgr2; have HA2 := Lib.hid hat2; have h6 := (HG2.out.block s6 (by have := HG1.out.size; have := HL6.out; omega) (by intro e; exact (HS.out.ap s6 e.symm).2.1 rfl)).trans ((HG1.out.block s6 HL6.out (by intro e; exact HS.out.ne.2.2 (Option.some.inj e))).trans HS.out.c6); have e6 := cell_in h6 (i := 0) rfl; have f6 : w2.frozen? ⟨s6, 0, none⟩ = false := (by simp [World.frozen?, h6]); clear hv2 hgr2 hat2 h6)
    go_ret
    refine ⟨_, ?_, PlQ.after HB.out (HS.out.push HM.out HG1.out (by rw [HN.out]; exact HK1.out) HG2.out ?_ HA2.out)⟩
    · rw [HPE.out]; rfl
    · exact HV2.out
end Go.Proofs.Ytmbdjjkgjnemiaa
