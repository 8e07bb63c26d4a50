import Derived.Test.YtmnnehpoaedifaaJ29
import Derived.Test.YtmnnehpoaedifaaJ04
import Derived.Deep.RegionHeldLaw
import Derived.Deep.AppendLies
import Derived.Laws.EntriesVeiled
/- Contract of package shunt: colour. -/
namespace Go.Proofs.Ytmnnehpoaedifaa
open Go.RowKit Go.Maps Go.ChangeShapes Go.MapKept
open Go.WideElems (Fit rd rg pl rd_val elemAt)
set_option linter.unusedVariables false

theorem inside {w w' : World} {B e : Nat} {v : Value} {zs : List Int} (h : w.ownsInts B e .i64 v zs) (hb : Below w.heap.size w w') : w'.ownsInts B e .i64 v zs := ⟨Ow.below (zs := zs) h.1 hb (Nat.le_refl _), h.2⟩
theorem GM.below {w w' : World} {base b n : Nat} {R : Nat → List Nat} (h : GM w base b n R) (hb : Below w.heap.size w w') : GM w' base b n R := by
  obtain ⟨D, ⟨es, clock, h1, F, h3, rfl, h5, h6, h7⟩, hR⟩ := h
  obtain ⟨F1, hmap, _⟩ := F.stay (R' := rowElem (H := Unit) w' base 3 .i64) (fun x _ z hz => by
    obtain ⟨zs, ho, rfl⟩ := rowElem_inv hz
    exact rowElem_mk (inside ho hb))
  refine ⟨_, ⟨es, clock, (hb.block b (Array.getElem?_eq_some_iff.1 h1).1).trans h1, F1, h3, rfl, h5, fun x hx zs hz => ?_, h7⟩, by rw [hmap]; exact hR⟩
  obtain ⟨y, hy⟩ := F.reads x hx
  obtain ⟨z, hz0, _⟩ := rd_val hy
  obtain ⟨zs0, ho, _⟩ := rowElem_inv hz0
  rw [hz.unique (inside ho hb)]
  exact h6 x hx zs0 ho
theorem GM.made' (w : World) (base : Nat) (h : w.heap.size < base) : GM (w.alloc (.map #[] 0)) base w.heap.size 0 (fun _ => []) :=
  ⟨_, ⟨#[], 0, (MapKept.heap_alloc w _).1, ⟨by simp, stamped_empty 0, by simp⟩, Nat.le_refl _, rfl, h, by simp, by simp⟩, Rdg.empty⟩
theorem key_one {l : List MapEntry} (h : l.Pairwise (fun x y => x.key ≠ y.key)) {a b : MapEntry} (ha : a ∈ l) (hb : b ∈ l) (e : a.key = b.key) : a = b := by
  induction l with
  | nil => cases ha
  | cons c l ih =>
    obtain ⟨h1, h2⟩ := List.pairwise_cons.1 h
    rcases List.mem_cons.1 ha with rfl | ha'
    · rcases List.mem_cons.1 hb with rfl | hb
      · rfl
      · exact absurd e (h1 b hb)
    · rcases List.mem_cons.1 hb with rfl | hb
      · exact absurd e.symm (h1 a ha')
      · exact ih h2 ha' hb
/-- What a look-up gives, and the way back. -/
theorem GM.look {w : World} {base b n : Nat} {R : Nat → List Nat} (h : GM w base b n R) (hn : n ≤ 1099511627776) (k : Nat) (hk : k ≤ 1099511627776) :
    ∃ v, Ow w base 3 v (nats (R k)) ∧ (R k).length ≤ n ∧ b < base ∧ (∀ W, w.grownBy W v.ownBlock → (Instr.lookup 86 (.map (some b)) (.int .i64 k) false).run Try.prog W = .ok v W) ∧
      (∀ (w1 : World) (v' : Value) (l : List Nat), w.grownBy w1 v.ownBlock → Ow w1 base 3 v' (nats l) → (∀ z ∈ l, z ≤ 1099511627776) → l.length ≤ n + 1 → (v'.ownBlock = v.ownBlock ∨ ∃ g, v'.ownBlock = some g ∧ w.heap.size ≤ g) →
        ∃ w2, (Instr.mapUpdate 86 (.map (some b)) (.int .i64 k) v').run Try.prog w1 = .ok () w2 ∧ GM w2 base b (n + 1) (putR R k l) ∧ w1.grownBy w2 (some b)) := by
  obtain ⟨D, hD, hR⟩ := h
  obtain ⟨v, zs, hrun, hat, ho, hl, hback⟩ := hD.at keyI Try.underlying86 (zeroS w) (by unfold maxLen; omega) (keyN hk)
  have hz := hR.read ho hat
  subst hz
  obtain ⟨es, clock, h1, F, h3, rfl, h5, h6, h7⟩ := hD
  refine ⟨v, Ow.ofInts ho, by simpa using hl, h5, fun W hg => ?_, fun w1 v' l h1 h2 h3 h4 h5 => ?_⟩
  · have hbW : W.heap[b]? = some (.map es clock) := (hg.block b (Array.getElem?_eq_some_iff.1 h1).1 (fun e => by have := (ho.1.lt b e.symm).1; omega)).trans h1
    rcases Maps.fit_look false keyI Try.underlying86 (zeroS w) h1 F (keyN hk) with ⟨r1, n1, _⟩ | ⟨e0, y, m1, k1, r1, _⟩
    · rw [hrun] at r1
      rcases Maps.fit_look false keyI Try.underlying86 (zeroS W) hbW F (keyN hk) with ⟨r2, _, _⟩ | ⟨e1, y1, m2, k2, r2, _⟩
      · rw [r2]; congr 1; injection r1 with r1 _; exact r1.symm
      · exact absurd k2 (n1 e1 m2)
    · rw [hrun] at r1
      rcases Maps.fit_look false keyI Try.underlying86 (zeroS W) hbW F (keyN hk) with ⟨r2, n2, _⟩ | ⟨e1, y1, m2, k2, r2, _⟩
      · exact absurd k1 (n2 e0 m1)
      · have he : e1 = e0 := key_one ((stamped_iff es clock).1 F.stamped).2.2 m2 m1 (k2.trans k1.symm)
        rw [r2, he]; congr 1; injection r1 with r1 _; exact r1.symm
  · obtain ⟨w2, r1, r2, r3⟩ := hback w1 v' (nats l) h1 (h2.toInts (nats_wf h3)) (by simpa using h4) h5
    exact ⟨w2, r1, ⟨_, r2, hR.put k l ((h2.toInts (nats_wf h3)).datum.imp (fun ⟨a, b⟩ => ⟨by simpa using b, a⟩) id)⟩, r3⟩
theorem pairCells_at (ps : List (Nat × Nat)) (k : Nat) (hk : k < ps.length) : (pairCells ps)[k * 2]? = some (.int .i64 ((ps[k]?.getD (0, 0)).1 : Nat)) ∧ (pairCells ps)[k * 2 + 1]? = some (.int .i64 ((ps[k]?.getD (0, 0)).2 : Nat)) := by
  induction ps generalizing k with
  | nil => simp at hk
  | cons p ps ih =>
    cases k with
    | zero => exact ⟨rfl, rfl⟩
    | succ k =>
      have h := ih k (by simpa using hk)
      rw [show (k + 1) * 2 = k * 2 + 2 from by omega]
      simpa [pairCells] using h
theorem Ow2.form {w : World} {B e : Nat} {v : Value} {ps : List (Nat × Nat)} {L : Nat} (h : Ow2 w B e v ps) (hL : ps.length = L) (h0 : 0 < L) : ∃ g cap, v = .slice (some ⟨g, 0, none⟩) L cap ∧ g < w.heap.size ∧
    ∀ k, k < L → w.cell? ⟨g, k * 2, none⟩ = some (.int .i64 ((ps[k]?.getD (0, 0)).1 : Nat)) ∧ w.cell? ⟨g, k * 2 + 1, none⟩ = some (.int .i64 ((ps[k]?.getD (0, 0)).2 : Nat)) := by
  subst hL
  have hlt := @Ow2.lt w B e v ps h
  rcases h.2 with ⟨_, e0⟩ | ⟨g, cap, cur, rfl, hb, hh, hc, _⟩
  · have : ps.length = 0 := e0
    omega
  · refine ⟨g, cap, rfl, (hlt rfl).2, fun k hk => ?_⟩
    have h' : w.ownsRow B e 2 (.slice (some ⟨g, 0, none⟩) ps.length cap) ps.length (pairCells ps) := h
    have hl := pairCells_len ps
    rw [h'.cellAt (k * 2) (by omega), h'.cellAt (k * 2 + 1) (by omega)]
    exact pairCells_at ps k hk

theorem grown_trans {a b c : World} {r : Option Nat} (h : a.grownBy b r) (k : b.grownBy c r) : a.grownBy c r :=
  ⟨k.os.trans h.os, k.tape.trans h.tape, k.output.trans h.output, Nat.le_trans h.size k.size, fun i hi hr => (k.block i (Nat.lt_of_lt_of_le hi h.size) hr).trans (h.block i hi hr)⟩
theorem grown_drew (w : World) (r : Option Nat) : w.grownBy w.drew r := ⟨rfl, rfl, rfl, Nat.le_refl _, fun _ _ _ => rfl⟩
theorem own_ne {W : World} {B g : Nat} {v : Value} {zs : List Int} {cs : Array Value} {t : TypeId} {fr : Nat × Nat} (hv : Ow W B 3 v zs) (hg : W.heap[g]? = some (.cells cs t fr)) (ht : t ≠ 3) : v.ownBlock ≠ some g := fun e => by
  rcases hv.2 with ⟨h, _⟩ | ⟨g', cap, cur, h, _, hh, _⟩
  · rw [h] at e; cases e
  · rw [h] at e
    have : g' = g := by simpa [Value.ownBlock] using e
    subst this
    rw [hg] at hh
    injection hh with hh
    injection hh with _ hh _
    exact ht hh
/-- What a look-up's run gives. -/
def okVal {α : Type} (d : α) : Result α → α
  | .ok v _ => v
  | _ => d
def lvP (P : Program) (b k : Nat) (W : World) : Value := okVal undef ((Instr.lookup 86 (.map (some b)) (.int .i64 k) false).run P W)
theorem lvG_of {b k : Nat} {W : World} {v : Value} (h : (Instr.lookup 86 (.map (some b)) (.int .i64 k) false).run Try.prog W = .ok v W) : lvP Try.prog b k W = v := by unfold lvP; rw [h]; rfl
/-- What the region's loads read: the pair, the map's variable, the look-up. -/
def RS (s gr g k x0 x1 : Nat) (W : World) : Prop := W.cell? ⟨g, 0, none⟩ = some (.int .i64 x0) ∧ W.cell? ⟨g, 1, none⟩ = some (.int .i64 x1) ∧ W.cell? ⟨gr, 0, none⟩ = some (.map (some s)) ∧
  (Instr.lookup 86 (.map (some s)) (.int .i64 k) false).run Try.prog W = .ok (lvP Try.prog s k W) W
structure RW (s gr g x0 x1 : Nat) (W : World) : Prop where
  pg : W.heap[g]? = some (.cells #[.int .i64 x0, .int .i64 x1] 50 (0, 0))
  cr : ∃ cs, W.heap[gr]? = some (.cells cs 86 (0, 0)) ∧ cs[0]? = some (.map (some s))
theorem RW.to {s gr g x0 x1 : Nat} {W W' : World} {r : Option Nat} (h : RW s gr g x0 x1 W) (hg : W.grownBy W' r) (h1 : r ≠ some g) (h2 : r ≠ some gr) : RW s gr g x0 x1 W' := by
  obtain ⟨p, cs, c, d⟩ := h
  exact ⟨(hg.block g (Array.getElem?_eq_some_iff.1 p).1 (fun e => h1 e.symm)).trans p, cs, (hg.block gr (Array.getElem?_eq_some_iff.1 c).1 (fun e => h2 e.symm)).trans c, d⟩
theorem RW.rs {s gr g k x0 x1 : Nat} {W : World} {v : Value} (h : RW s gr g x0 x1 W) (hl : (Instr.lookup 86 (.map (some s)) (.int .i64 k) false).run Try.prog W = .ok v W) : RS s gr g k x0 x1 W := by
  obtain ⟨p, cs, c, d⟩ := h
  refine ⟨?_, ?_, ?_, by rw [lvG_of hl]; exact hl⟩
  · rw [cell_of_row W g 0 _ _ _ p]; rfl
  · rw [cell_of_row W g 1 _ _ _ p]; rfl
  · rw [cell_of_row W gr 0 _ _ _ c]; exact d
theorem reg_pre {base s gr g x0 x1 k n : Nat} {R : Nat → List Nat} {W : World} (hG : GM W base s n R) (hr : RW s gr g x0 x1 W) (hn : n ≤ 1000000) (hk : k ≤ 1099511627776) (h1 : s ≠ g) (h2 : s ≠ gr) (hR : ∀ i, ∀ z ∈ R i, z ≤ 1099511627776) :
    ∃ v, Ow W base 3 v (nats (R k)) ∧ (R k).length ≤ n ∧ (∀ W', W.grownBy W' v.ownBlock → RS s gr g k x0 x1 W' ∧ lvP Try.prog s k W' = v) ∧
      (∀ (w1 : World) (v' : Value) (x : Nat), x ≤ 1099511627776 → W.grownBy w1 v.ownBlock → Ow w1 base 3 v' (nats (R k ++ [x])) → (v.ownBlock = v'.ownBlock ∨ ∃ j, v'.ownBlock = some j ∧ W.heap.size ≤ j) →
        ∃ w2, (Instr.mapUpdate 86 (.map (some s)) (.int .i64 k) v').run Try.prog w1 = .ok () w2 ∧ GM w2 base s (n + 1) (putR R k (R k ++ [x])) ∧ RS s gr g k x0 x1 w2 ∧ RW s gr g x0 x1 w2 ∧ ∀ B, B ≤ s → B ≤ W.heap.size → Below B W w2) := by
  obtain ⟨v, ho, hl, hb, hlk, hbk⟩ := hG.look (by omega) k hk
  have n1 : v.ownBlock ≠ some g := own_ne ho hr.pg (by decide)
  have n2 : v.ownBlock ≠ some gr := by
    obtain ⟨_, cs, c, _⟩ := hr
    exact own_ne ho c (by decide)
  refine ⟨v, ho, hl, fun W' hg => ⟨(hr.to hg n1 n2).rs (hlk W' hg), lvG_of (hlk W' hg)⟩, fun w1 v' x hx hg hv hloc => ?_⟩
  obtain ⟨w2, r1, r2, r3⟩ := hbk w1 v' (R k ++ [x]) hg hv (fun z hz => by
    rcases List.mem_append.1 hz with hz | hz
    · exact hR k z hz
    · rw [List.mem_singleton.1 hz]; exact hx) (by rw [List.length_append, List.length_singleton]; omega) (hloc.imp Eq.symm id)
  have hr2 := (hr.to hg n1 n2).to r3 (fun e => h1 (by injection e)) (fun e => h2 (by injection e))
  obtain ⟨v2, _, _, _, hlk2, _⟩ := r2.look (by omega) k hk
  refine ⟨w2, r1, r2, hr2.rs (hlk2 w2 (World.grownBy.refl _ _)), hr2, fun B hB hB2 => ?_⟩
  exact ((Below.refl B W).grown hg hB2 (fun j e => by have := (ho.lt e).1; omega)).grown r3 (Nat.le_trans hB2 hg.size) (fun j e => by injection e with e; omega)
theorem rivTo_lt {o : List Int} {m k x z : Nat} (hz : z ∈ rivTo (confAll o m) k x) (hk : k ≤ (confAll o m).length) (hm : m ≤ o.length) : z < o.length := by
  obtain ⟨i, hi, h⟩ := (rivTo_mem _ k x z hk).1 hz
  have hmem : (confAll o m)[i]?.getD (0, 0) ∈ confAll o m := by
    rw [List.getElem?_eq_getElem (by omega)]; exact List.getElem_mem _
  rcases h with h | h
  · rw [h] at hmem; exact ((confAll_mem _ _ _ _).1 hmem).2.1
  · rw [h] at hmem; have := ((confAll_mem _ _ _ _).1 hmem).1; omega
theorem rivTo_step (ps : List (Nat × Nat)) (k p q : Nat) (h : ps[k]?.getD (0, 0) = (p, q)) : putR (putR (rivTo ps k) p (rivTo ps k p ++ [q])) q (putR (rivTo ps k) p (rivTo ps k p ++ [q]) q ++ [p]) = rivTo ps (k + 1) := by
  funext x
  simp only [rivTo, h]
  unfold putR
  by_cases e2 : x = q
  · subst e2
    by_cases e1 : x = p
    · subst e1; simp
    · simp [e1]
  · by_cases e1 : x = p
    · subst e1; simp [e2]
    · simp [e1, e2]
end Go.Proofs.Ytmnnehpoaedifaa
/- Contract of package shunt: colour. -/
namespace Go.Proofs.Ytmnnehpoaedifaa
open Go.RowKit Go.Maps Go.ChangeShapes Go.MapKept
set_option linter.unusedVariables false

theorem GM.empty_at {W : World} {s base : Nat} (h : W.heap[s]? = some (.map #[] 0)) (hb : s < base) : GM W base s 0 (fun _ => []) :=
  ⟨_, ⟨#[], 0, h, ⟨by simp, stamped_empty 0, by simp⟩, Nat.le_refl _, rfl, hb, by simp, by simp⟩, Rdg.empty⟩
theorem IM.empty_at {W : World} {s : Nat} {e : TypeId} (h : W.heap[s]? = some (.map #[] 0)) : IM W e s 0 (fun _ => none) :=
  ⟨_, ⟨#[], 0, h, ⟨by simp, stamped_empty 0, by simp⟩, Nat.le_refl _, rfl⟩, Rds.empty⟩
theorem five_blocks (w : World) (o0 o1 o2 o3 o4 : Obj) : (((((w.alloc o0).alloc o1).alloc o2).alloc o3).alloc o4).heap[w.heap.size]? = some o0 ∧ (((((w.alloc o0).alloc o1).alloc o2).alloc o3).alloc o4).heap[w.heap.size + 1]? = some o1 ∧
    (((((w.alloc o0).alloc o1).alloc o2).alloc o3).alloc o4).heap[w.heap.size + 2]? = some o2 ∧ (((((w.alloc o0).alloc o1).alloc o2).alloc o3).alloc o4).heap[w.heap.size + 3]? = some o3 ∧ (((((w.alloc o0).alloc o1).alloc o2).alloc o3).alloc o4).heap[w.heap.size + 4]? = some o4 ∧
    (((((w.alloc o0).alloc o1).alloc o2).alloc o3).alloc o4).heap.size = w.heap.size + 5 := by
  have n : ∀ (w : World) (o : Obj) (k : Nat), k = w.heap.size → (w.alloc o).heap[k]? = some o := fun w o k h => by rw [h]; exact heap_alloc_new w o
  have z : ∀ (w : World) (o : Obj), (w.alloc o).heap.size = w.heap.size + 1 := fun w o => by simp
  have z1 := z w o0
  have z2 := z (w.alloc o0) o1
  have z3 := z ((w.alloc o0).alloc o1) o2
  have z4 := z (((w.alloc o0).alloc o1).alloc o2) o3
  have z5 := z ((((w.alloc o0).alloc o1).alloc o2).alloc o3) o4
  refine ⟨?_, ?_, ?_, ?_, ?_, by omega⟩
  · rw [heap_alloc_old _ _ (by omega), heap_alloc_old _ _ (by omega), heap_alloc_old _ _ (by omega), heap_alloc_old _ _ (by omega)]
    exact n _ _ _ rfl
  · rw [heap_alloc_old _ _ (by omega), heap_alloc_old _ _ (by omega), heap_alloc_old _ _ (by omega)]
    exact n _ _ _ (by omega)
  · rw [heap_alloc_old _ _ (by omega), heap_alloc_old _ _ (by omega)]
    exact n _ _ _ (by omega)
  · rw [heap_alloc_old _ _ (by omega)]
    exact n _ _ _ (by omega)
  · exact n _ _ _ (by omega)
theorem Dfs.start {w0 W : World} {n gr : Nat} {t1 t2 t3 t4 : TypeId} (h0 : W.heap[w0.heap.size]? = some (.map #[] 0)) (h1 : W.heap[w0.heap.size + 1]? = some (.cells #[.map (some w0.heap.size)] t1 (0, 0))) (h2 : W.heap[w0.heap.size + 2]? = some (.cells #[.slice none 0 0] t2 (0, 0)))
    (h3 : W.heap[w0.heap.size + 3]? = some (.cells #[.slice none 0 0] t3 (0, 0))) (h4 : W.heap[w0.heap.size + 4]? = some (.cells #[.func (.func 79) #[] #[.pointer (some ⟨w0.heap.size + 1, 0, none⟩), .pointer (some ⟨w0.heap.size + 2, 0, none⟩), .pointer (some ⟨w0.heap.size + 3, 0, none⟩), .pointer (some ⟨gr, 0, none⟩), .pointer (some ⟨w0.heap.size + 4, 0, none⟩)]] t4 (0, 0)))
    (hz : W.heap.size = w0.heap.size + 5) (hb : Below w0.heap.size w0 W) : Dfs w0 W n gr (.slice none 0 0) (fun _ => none) [] := by
  have fz : ∀ (b : Nat) (cs : Array Value) (t : TypeId), W.heap[b]? = some (.cells cs t (0, 0)) → W.frozen? ⟨b, 0, none⟩ = false := fun b cs t h => by simp [World.frozen?, h]
  exact ⟨by rw [cell_of_row W _ 0 _ _ _ h1]; rfl, (IM.empty_at h0).mono (Nat.zero_le _), ⟨by rw [cell_of_row W _ 0 _ _ _ h2]; rfl, fz _ _ _ h2, Ow.nil _ _ _, by omega, by omega⟩, by rw [cell_of_row W _ 0 _ _ _ h3]; rfl, fz _ _ _ h3, by rw [cell_of_row W _ 0 _ _ _ h4]; rfl, hb⟩
def ColPost (o : List Int) (n : Nat) (w : World) (e : Ending) (w' : World) : Prop :=
  ((∃ b m C, e = .returned (.tuple #[.map (some b), .slice none 0 0]) ∧ IM w' 3 b m (colF C) ∧ DInv (cfB o) n C [] ∧ (∀ k, k < n → C k ≠ none) ∧ w.heap.size ≤ b) ∨
    (∃ l vi, e = .returned (.tuple #[.map none, vi]) ∧ Ring (cfB o) n l ∧ Ow w' w.heap.size 3 vi (nats l))) ∧ Below w.heap.size w w'

set_option maxHeartbeats 3200000 in
theorem colour_any (o : List Int) (n : Nat) (hlen : o.length = n) (hn : n ≤ 60) (A : Option Addr) (L c B e : Nat) (w : World) (hs : Ow2 w B e (.slice A L c) (confAll o n)) (hL : (confAll o n).length = L) :
    Calls Try.prog 65 #[.int .i64 n, .slice A L c] w (ColPost o n w) := by
  have hLb : L ≤ 3600 := by
    rw [← hL]
    have h2 := confAll_len o n
    have h3 : n * o.length ≤ 60 * 60 := Nat.mul_le_mul hn (by omega)
    omega
  have HL := Lib.hid hL; clear hL
  have HS := Lib.hid hs; clear hs
  have HLEN := Lib.hid hlen; clear hlen
  obtain ⟨i0, hi, hz0, hz1, hz2⟩ := info_parts Try.infoInt
  have HI : Hid (Try.prog.info? 3 = some i0 ∧ i0.zero = some (.int .i64 0) ∧ i0.size = 1 ∧ i0.bytes = 8) := ⟨hi, hz0, hz1, hz2⟩
  clear hi hz0 hz1 hz2
  have hmm := @run_makeMap Try.prog
  go_enter Try.func65, Try.ntmps65
  go_wp2
  clear hmm
  go_loopw [8, 19] (fun _ i w' => ∃ k : Nat, k ≤ L ∧ i = .int .i64 (k : Int) ∧ Hid (GM w' (w.heap.size + 2) w.heap.size (2 * k) (rivTo (confAll o n) k)) ∧ Hid (∃ cs, w'.heap[w.heap.size + 1]? = some (.cells cs 86 (0, 0)) ∧ cs[0]? = some (.map (some w.heap.size))) ∧ w.heap.size + 2 ≤ w'.heap.size ∧ Below w.heap.size w w') (fun _ i _ => L - (intOf i).toNat)
  case atStart =>
    refine ⟨0, by omega, by go_num, ?_, ?_, by simp, ?_⟩
    · exact GM.empty_at ((heap_alloc_old _ _ (by simp)).trans (heap_alloc_new w _)) (by omega)
    · exact ⟨#[.map (some w.heap.size)], by have h := heap_alloc_new (w.alloc (.map #[] 0)) (.cells #[.map (some w.heap.size)] 86); simpa using h, rfl⟩
    · exact ((Below.refl _ _).alloc (Nat.le_refl _) _).alloc (by simp) _
  case round =>
    obtain ⟨k, hk, rfl, HG, HGR, hsz, hW⟩ := hrel
    by_cases hlt : k < L
    · obtain ⟨g, cap, hv, hgl, hcx⟩ := HS.out.form HL.out (by omega)
      injection hv with hv1 hv2 hv3
      subst hv1 hv3
      clear hv2
      obtain ⟨x1, x2⟩ := hcx k hlt
      have hx1 := (hW.cell (p := ⟨g, k * 2, none⟩) hgl).trans x1
      have hx2 := (hW.cell (p := ⟨g, k * 2 + 1, none⟩) hgl).trans x2
      clear hcx x1 x2
      obtain ⟨⟨p, q⟩, hpq⟩ : ∃ pq, pq = (confAll o n)[k]?.getD (0, 0) := ⟨_, rfl⟩
      rw [← hpq] at hx1 hx2
      dsimp only at hx1 hx2
      have hmem : (p, q) ∈ confAll o n := by rw [hpq, List.getElem?_eq_getElem (by rw [HL.out]; exact hlt)]; exact List.getElem_mem _
      obtain ⟨hp, hq, _, _⟩ := (confAll_mem _ _ _ _).1 hmem
      rw [HLEN.out] at hq
      obtain ⟨R2, hR2⟩ : ∃ R2, R2 = putR (rivTo (confAll o n) k) p (rivTo (confAll o n) k p ++ [q]) := ⟨_, rfl⟩
      have HST : Hid (putR R2 q (R2 q ++ [p]) = rivTo (confAll o n) (k + 1)) := by rw [Hid, hR2]; exact rivTo_step _ k p q hpq.symm
      have HRB : Hid (∀ i, ∀ z ∈ rivTo (confAll o n) k i, z ≤ 1099511627776) := fun i z hz => by
        have := rivTo_lt hz (by rw [HL.out]; exact hk) (by rw [HLEN.out]; exact Nat.le_refl _)
        have := HLEN.out
        omega
      have HRB2 : Hid (∀ i, ∀ z ∈ R2 i, z ≤ 1099511627776) := fun i z hz => by
        rw [hR2] at hz
        unfold putR at hz
        by_cases e : i = p
        · rw [if_pos e] at hz
          rcases List.mem_append.1 hz with hz | hz
          · exact HRB.out p z hz
          · rw [List.mem_singleton.1 hz]; have := HLEN.out; omega
        · rw [if_neg e] at hz; exact HRB.out i z hz
      have HR2 := Lib.hid hR2; clear hR2
      clear hmem
      have HPQ := Lib.hid hpq; clear hpq
      go_wp2
      obtain ⟨W0, hW0⟩ : ∃ W0, W0 = wr.alloc (.cells #[.int .i64 p, .int .i64 q] 50) := ⟨_, rfl⟩
      have HRW : Hid (RW w.heap.size (w.heap.size + 1) wr.heap.size p q W0) := by
        obtain ⟨cs, h1, h2⟩ := HGR.out
        rw [hW0]
        exact ⟨heap_alloc_new wr _, cs, (heap_alloc_old wr _ (by omega)).trans h1, h2⟩
      have HG0 : Hid (GM W0 (w.heap.size + 2) w.heap.size (2 * k) (rivTo (confAll o n) k)) := by rw [hW0]; exact HG.out.below ((Below.refl _ _).alloc (Nat.le_refl _) _)
      have hB0 : Below w.heap.size w W0 := by rw [hW0]; exact hW.alloc (by omega) _
      have hsz0 : w.heap.size + 2 < W0.heap.size := by rw [hW0]; simp; omega
      rw [← hW0]
      have HW0 := Lib.hid hW0; clear hW0
      obtain ⟨g1, hg1⟩ : ∃ g1, g1 = wr.heap.size := ⟨_, rfl⟩
      rw [← hg1] at HRW
      rw [← hg1]
      have hg1l : w.heap.size + 2 ≤ g1 := by omega
      clear hx1 hx2 HG hg1
      obtain ⟨v, hvo, hvl, hvs, hvb⟩ := reg_pre (k := p) HG0.out HRW.out (by omega) (by omega) (by omega) (by omega) HRB.out
      have HO := Lib.hid hvo; clear hvo
      have HSS := Lib.hid hvs; clear hvs
      have HBK := Lib.hid hvb; clear hvb
      have HD0 : Hid (W0.grownBy W0.drew v.ownBlock) := grown_drew _ _
      have HD1 : Hid (W0.grownBy (W0.alloc (.cells #[.int .i64 q] 3)).drew v.ownBlock) := grown_trans (World.grownBy_alloc _ _ _) (grown_drew _ _)
      have hl0 := (HSS.out _ HD0.out).2
      have hl1 := (HSS.out _ HD1.out).2
      obtain ⟨m, hm⟩ : ∃ m, (nats (rivTo (confAll o n) k p)).length = m := ⟨_, rfl⟩
      have hmb : m ≤ 2 * k := by rw [← hm, List.length_map]; exact hvl
      have HO2 : Hid (W0.ownsRow (w.heap.size + 2) 3 1 v m (ints (nats (rivTo (confAll o n) k p)))) := by rw [← hm]; exact HO.out
      have HM := Lib.hid hm; clear hm
      have HB1 : Hid (m + 1 ≤ maxLen) := by unfold maxLen; rw [Hid]; omega
      have HB2 : Hid ((m + 1) * 8 ≤ 140737488355328) := by rw [Hid]; omega
      have HOW : Hid (∀ w1 u, w1.ownsRow (w.heap.size + 2) 3 1 u (m + 1) (ints (nats (rivTo (confAll o n) k p)) ++ [.int .i64 q]) → Ow w1 (w.heap.size + 2) 3 u (nats (rivTo (confAll o n) k p ++ [q]))) := fun w1 u h => by
        unfold Ow
        rw [show (nats (rivTo (confAll o n) k p ++ [q])).length = m + 1 from by rw [← HM.out]; simp]
        rw [show ints (nats (rivTo (confAll o n) k p ++ [q])) = ints (nats (rivTo (confAll o n) k p)) ++ [.int .i64 q] from by simp]
        exact h
      go_region_held_law (fun w' => w'.cell? ⟨g1, 0, none⟩ = some (.int .i64 p) ∧ w'.cell? ⟨g1, 1, none⟩ = some (.int .i64 q) ∧ w'.cell? ⟨w.heap.size + 1, 0, none⟩ = some (.map (some w.heap.size)) ∧ (Instr.lookup 86 (.map (some w.heap.size)) (.int .i64 p) false).run Try.prog w' = .ok (lvP Try.prog w.heap.size p w') w')
        (first | assumption | exact (HSS.out _ HD0.out).1 | exact (HSS.out _ HD1.out).1 | exact HS2.out | exact HS3.out)
        ((refine step_append_lies _ (by rfl) _ _ _ (by rfl) (w.heap.size + 2) 3 i0 _ 1 8 Try.underlying22 HI.out.1 HI.out.2.1 HI.out.2.2.1 HI.out.2.2.2 rfl (by omega) v m (ints (nats (rivTo (confAll o n) k p))) (by rfl) ((HO2.out.alloc _).drew)
            ⟨W0.heap.size, 0, none⟩ 1 1 [.int .i64 q] (by rfl) (by rfl) (World.news_of_block (cs := #[.int .i64 q]) (t := 3) (fr := (0, 0)) (heap_alloc_new W0 _)) (by simp [Value.oneCell'])
            (by omega) HB1.out HB2.out (by simp; omega) (W0.heap.size + 1) (by simp) ?_; intro gg cap1 w1 hown1 hgrow1 hat1 hlt1; obtain ⟨w2, hru, hgm2, hrs2, hrw2, hbl2⟩ := HBK.out w1 (.slice (some ⟨gg, 0, none⟩) (m + 1) cap1) q (by omega) (grown_trans HD1.out hgrow1) (HOW.out _ _ hown1) (hat1.imp (fun e => e.trans rfl) (fun e => ⟨gg, rfl, by omega⟩)); have HS2 : Hid (RS w.heap.size (w.heap.size + 1) g1 p p q w1) := (HSS.out _ (grown_trans HD1.out hgrow1)).1; have HS3 := Lib.hid hrs2; clear hrs2; have HG2 := Lib.hid hgm2; clear hgm2; have HRW2 := Lib.hid hrw2; clear hrw2; have HBL2 := Lib.hid hbl2; clear hbl2; clear hown1 hgrow1 hat1 hlt1))
      all_goals
        clear hl0 hl1 hru HSS HBK HD0 HD1 HO HO2 HM HB1 HB2 HOW HS2 HS3
        have hB2 : Below w.heap.size w w2 := hB0.trans (HBL2.out _ (Nat.le_refl _) (by omega))
        have hz2 : W0.heap.size ≤ w2.heap.size := (HBL2.out _ (Nat.le_refl _) (by omega)).size
        rw [← HR2.out] at HG2
        obtain ⟨v', hvo, hvl, hvs, hvb⟩ := reg_pre (k := q) HG2.out HRW2.out (by omega) (by omega) (by omega) (by omega) HRB2.out
        have HO := Lib.hid hvo; clear hvo
        have HSS := Lib.hid hvs; clear hvs
        have HBK := Lib.hid hvb; clear hvb
        have HD0 : Hid (w2.grownBy w2.drew v'.ownBlock) := grown_drew _ _
        have HD1 : Hid (w2.grownBy (w2.alloc (.cells #[.int .i64 p] 3)).drew v'.ownBlock) := grown_trans (World.grownBy_alloc _ _ _) (grown_drew _ _)
        have hl0 := (HSS.out _ HD0.out).2
        have hl1 := (HSS.out _ HD1.out).2
        obtain ⟨m', hm⟩ : ∃ m, (nats (R2 q)).length = m := ⟨_, rfl⟩
        have hmb' : m' ≤ 2 * k + 1 := by rw [← hm, List.length_map]; exact hvl
        have HO2 : Hid (w2.ownsRow (w.heap.size + 2) 3 1 v' m' (ints (nats (R2 q)))) := by rw [← hm]; exact HO.out
        have HM := Lib.hid hm; clear hm
        have HB1 : Hid (m' + 1 ≤ maxLen) := by unfold maxLen; rw [Hid]; omega
        have HB2 : Hid ((m' + 1) * 8 ≤ 140737488355328) := by rw [Hid]; omega
        have HOW : Hid (∀ w1 u, w1.ownsRow (w.heap.size + 2) 3 1 u (m' + 1) (ints (nats (R2 q)) ++ [.int .i64 p]) → Ow w1 (w.heap.size + 2) 3 u (nats (R2 q ++ [p]))) := fun w1 u h => by
          unfold Ow
          rw [show (nats (R2 q ++ [p])).length = m' + 1 from by rw [← HM.out]; simp]
          rw [show ints (nats (R2 q ++ [p])) = ints (nats (R2 q)) ++ [.int .i64 p] from by simp]
          exact h
        go_wp2_with fail
        go_region_held_law (fun w' => w'.cell? ⟨g1, 0, none⟩ = some (.int .i64 p) ∧ w'.cell? ⟨g1, 1, none⟩ = some (.int .i64 q) ∧ w'.cell? ⟨w.heap.size + 1, 0, none⟩ = some (.map (some w.heap.size)) ∧ (Instr.lookup 86 (.map (some w.heap.size)) (.int .i64 q) false).run Try.prog w' = .ok (lvP Try.prog w.heap.size q w') w')
          (first | assumption | exact (HSS.out _ HD0.out).1 | exact (HSS.out _ HD1.out).1 | exact HS2.out | exact HS3.out)
          ((refine step_append_lies _ (by rfl) _ _ _ (by rfl) (w.heap.size + 2) 3 i0 _ 1 8 Try.underlying22 HI.out.1 HI.out.2.1 HI.out.2.2.1 HI.out.2.2.2 rfl (by omega) v' m' (ints (nats (R2 q))) (by rfl) ((HO2.out.alloc _).drew)
              ⟨w2.heap.size, 0, none⟩ 1 1 [.int .i64 p] (by rfl) (by rfl) (World.news_of_block (cs := #[.int .i64 p]) (t := 3) (fr := (0, 0)) (heap_alloc_new w2 _)) (by simp [Value.oneCell'])
              (by omega) HB1.out HB2.out (by simp; omega) (w2.heap.size + 1) (by simp) ?_; intro gg' cap1' w3 hown1 hgrow1 hat1 hlt1; obtain ⟨w4, hru, hgm2, hrs2, hrw2, hbl2⟩ := HBK.out w3 (.slice (some ⟨gg', 0, none⟩) (m' + 1) cap1') p (by omega) (grown_trans HD1.out hgrow1) (HOW.out _ _ hown1) (hat1.imp (fun e => e.trans rfl) (fun e => ⟨gg', rfl, by omega⟩)); have HS2 : Hid (RS w.heap.size (w.heap.size + 1) g1 q p q w3) := (HSS.out _ (grown_trans HD1.out hgrow1)).1; have HS3 := Lib.hid hrs2; clear hrs2; have HG4 := Lib.hid hgm2; clear hgm2; have HRW4 := Lib.hid hrw2; clear hrw2; have HBL4 := Lib.hid hbl2; clear hbl2; clear hown1 hgrow1 hat1 hlt1))
        all_goals
          clear hl0 hl1 hru HSS HBK HD0 HD1 HO HO2 HM HB1 HB2 HOW HS2 HS3
          have hB4 : Below w.heap.size w w4 := hB2.trans (HBL4.out _ (Nat.le_refl _) (by omega))
          have hz4 : w2.heap.size ≤ w4.heap.size := (HBL4.out _ (Nat.le_refl _) (by omega)).size
          rw [HST.out] at HG4
          go_wp2_with fail
          go_roundw
          case rel => exact ⟨k + 1, by omega, by go_num, (by rw [show 2 * (k + 1) = 2 * k + 1 + 1 from by omega]; exact HG4), HRW4.out.cr, by omega, hB4⟩
          case measure => simp [intOf]; omega
    · obtain rfl : k = L := by omega
      have HRIV : Hid (Riv o wr (w.heap.size + 1) w.heap.size (w.heap.size + 2) (2 * k)) := by
        obtain ⟨cs, h1, h2⟩ := HGR.out
        refine ⟨by rw [cell_of_row wr _ 0 _ _ _ h1]; exact h2, ?_⟩
        have e : rivs o = rivTo (confAll o n) k := by
          funext x
          unfold rivs
          rw [HLEN.out, HL.out]
        rw [e]; exact HG.out
      clear HG HGR
      obtain ⟨w0, hw0⟩ : ∃ w0, w0 = wr := ⟨_, rfl⟩
      rw [← hw0] at HRIV hW hsz
      rw [← hw0]
      clear hw0
      have hmm := @run_makeMap Try.prog
      go_wp2
      clear hmm
      go_loopw [13, 14, 15, 49] (fun _ _ _ i w' => ∃ (j : Nat) (C : Nat → Option Nat) (v : Value), j ≤ n ∧ i = .int .i64 (j : Int) ∧ Hid (Dfs w0 w' n (w.heap.size + 1) v C []) ∧ Hid (DInv (cfB o) n C []) ∧ Hid (∀ t, t < j → C t ≠ none)) (fun _ _ _ i _ => n - (intOf i).toNat)
      case atStart =>
        refine ⟨0, fun _ => none, .slice none 0 0, by omega, by go_num, ?_, DInv.empty _ _, fun t ht => absurd ht (by omega)⟩
        obtain ⟨q0, q1, q2, q3, q4, q5⟩ := five_blocks w0 (.map #[] 0) (.cells #[.map (some w0.heap.size)] 70) (.cells #[.slice none 0 0] 80) (.cells #[.slice none 0 0] 22) (.cells #[.func (.func 79) #[] #[.pointer (some ⟨w0.heap.size + 1, 0, none⟩), .pointer (some ⟨w0.heap.size + 2, 0, none⟩), .pointer (some ⟨w0.heap.size + 3, 0, none⟩), .pointer (some ⟨w.heap.size + 1, 0, none⟩), .pointer (some ⟨w0.heap.size + 4, 0, none⟩)]] 57)
        exact Dfs.start q0 q1 q2 q3 q4 q5 ((((((Below.refl _ _).alloc (Nat.le_refl _) _).alloc (by simp) _).alloc (by simp; omega) _).alloc (by simp; omega) _).alloc (by simp; omega) _)
      case round =>
        obtain ⟨j, C, v, hj, rfl, HD, HDI, HC⟩ := hrel
        have hcc := HD.out.colc
        have hfn : wr.cell? ⟨w0.heap.size + 1 + 1 + 1 + 1, 0, none⟩ = some (.func (.func 79) #[] #[.pointer (some ⟨w0.heap.size + 1, 0, none⟩), .pointer (some ⟨w0.heap.size + 2, 0, none⟩), .pointer (some ⟨w0.heap.size + 3, 0, none⟩), .pointer (some ⟨w.heap.size + 1, 0, none⟩), .pointer (some ⟨w0.heap.size + 4, 0, none⟩)]) := HD.out.fn
        by_cases hlt2 : j < n
        · cases hcj : C j with
          | some cj =>
            have HG0 : Hid ((colF C j).getD (.int .i64 0) = .int .i64 cj) := by unfold colF; rw [Hid, hcj]; rfl
            have HG1 : Hid ((colF C j).isSome = true) := by unfold colF; rw [Hid, hcj]; rfl
            have HC2 : Hid (∀ t, t < j + 1 → C t ≠ none) := fun t ht e => by
              by_cases h : t = j
              · subst h; rw [hcj] at e; cases e
              · exact HC.out t (by omega) e
            clear hcj
            go_wp2_with (at_lookup; go_must (refine lookOk_law _ rfl _ _ 70 rfl Try.underlying70 _ _ _ rfl HD.out.cmap j (by omega) rfl cj HG0.out true HG1.out ?_))
            go_roundw
            case rel => exact ⟨j + 1, C, v, by omega, by go_num, HD, HDI, HC2⟩
            case measure => simp [intOf]; omega
          | none =>
            have HG0 : Hid ((colF C j).getD (.int .i64 0) = .int .i64 0) := by unfold colF; rw [Hid, hcj]; rfl
            have HG1 : Hid ((colF C j).isSome = false) := by unfold colF; rw [Hid, hcj]; rfl
            have HV : Hid (Calls Try.prog 79 #[.int .i64 j, .int .i64 0, .pointer (some ⟨w0.heap.size + 1, 0, none⟩), .pointer (some ⟨w0.heap.size + 2, 0, none⟩), .pointer (some ⟨w0.heap.size + 3, 0, none⟩), .pointer (some ⟨w.heap.size + 1, 0, none⟩), .pointer (some ⟨w0.heap.size + 4, 0, none⟩)] wr (VisPost o n w0 (w.heap.size + 1) C [] j 0)) :=
              visit_any o n HLEN.out hn w0 _ _ _ _ HRIV.out (n + 1) j 0 C [] v wr (by simp) hlt2 (by omega) HDI.out (.inl ⟨rfl, hcj⟩) HD.out
            clear hcj
            go_wp2_with (at_lookup; go_must (refine lookOk_law _ rfl _ _ 70 rfl Try.underlying70 _ _ _ rfl HD.out.cmap j (by omega) rfl 0 HG0.out false HG1.out ?_))
            refine HV.out.mono ?_
            rintro e w3 (⟨rfl, C3, v3, hD3, hI3, hE3, hc3⟩ | ⟨rfl, l, vi, hrg, hvi, hvo, hbw⟩)
            · have HD3 := Lib.hid hD3; clear hD3
              have HI3 := Lib.hid hI3; clear hI3
              have HC3 : Hid (∀ t, t < j + 1 → C3 t ≠ none) := fun t ht e => by
                by_cases h : t = j
                · subst h; rw [hc3] at e; cases e
                · cases hct : C t with
                  | none => exact HC.out t (by omega) hct
                  | some c => rw [hE3 t c hct] at e; cases e
              clear hE3 hc3 hfn hcc
              go_wp2
              go_roundw
              case rel => exact ⟨j + 1, C3, v3, by omega, by go_num, HD3, HI3, HC3⟩
              case measure => simp [intOf]; omega
            · have hvi2 : w3.cell? ⟨w0.heap.size + 1 + 1 + 1, 0, none⟩ = some vi := hvi
              have HP : Hid (∀ q, ColPost o n w (.returned (.tuple #[.map none, vi])) (w3.drewN q)) := fun q => ⟨.inr ⟨l, vi, rfl, hrg, (hvo.base (by omega)).drewN q⟩, below_dn (hW.trans (hbw.mono hW.size)) q⟩
              clear hrg hvi hvo hbw hfn hcc
              go_wp2
              go_quiet (fail)
              go_wp2
              go_ret2
              exact HP.out _
        · obtain rfl : j = n := by omega
          have HP : Hid (ColPost o j w (.returned (.tuple #[.map (some w0.heap.size), .slice none 0 0])) wr) :=
            ⟨.inl ⟨_, _, C, rfl, HD.out.cmap, HDI.out, HC.out, hW.size⟩, hW.trans (HD.out.below.mono hW.size)⟩
          clear hfn
          go_wp2
          go_ret2
          exact HP.out
end Go.Proofs.Ytmnnehpoaedifaa
