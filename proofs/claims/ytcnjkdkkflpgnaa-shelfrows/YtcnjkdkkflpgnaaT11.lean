import Derived.Test.YtcnjkdkkflpgnaaT10
import Derived.RangeFuncNested
import Derived.RangeFuncBound
import Derived.RangeFuncCalls
import Derived.Shelf.Abstract
import Derived.Shelf.RegionOpen
import Derived.OwnWalkIn
import Derived.TacticsInMore
import Derived.LoopNIn
import Derived.LoopIn
/- Layer 8: Recent, First. -/
namespace Go.Proofs.Ytcnjkdkkflpgnaa
open Go.RowKit Go.Maps
set_option linter.unusedVariables false

theorem rankLast (w : World) (f : Int → Option Stay) : RankFn w f (fun st => (st.2 : Int)) 46 #[] := by
  refine ⟨enters_of Try.func46 (by kernel_rfl) rfl, fun x st hx V hV => ?_⟩
  show Calls Try.prog 46 #[.agg #[.int .i64 (st.1 : Int), .int .i64 (st.2 : Int)]] V _
  have HB : Hid (Below V.heap.size V (V.alloc (.cells #[.int .i64 (st.1 : Int), .int .i64 (st.2 : Int)] 69))) := (Below.refl _ V).alloc (Nat.le_refl _) _
  go_enter Try.func46, Try.ntmps46
  go_wp2
  go_ret
  exact ⟨rfl, HB.out⟩
theorem rankSince (w : World) (f : Int → Option Stay) : RankFn w f (fun st => (st.1 : Int)) 47 #[] := by
  refine ⟨enters_of Try.func47 (by kernel_rfl) rfl, fun x st hx V hV => ?_⟩
  show Calls Try.prog 47 #[.agg #[.int .i64 (st.1 : Int), .int .i64 (st.2 : Int)]] V _
  have HB : Hid (Below V.heap.size V (V.alloc (.cells #[.int .i64 (st.1 : Int), .int .i64 (st.2 : Int)] 69))) := (Below.refl _ V).alloc (Nat.le_refl _) _
  go_enter Try.func47, Try.ntmps47
  go_wp2
  go_ret
  exact ⟨rfl, HB.out⟩
def placesB (k : Int) : Bool := decide (1 ≤ k) && decide (k ≤ 8)
theorem reqB_parts {zs : List Int} (h : reqB zs 200 15 = true) : zs.length ≤ 200 ∧ ∀ i, i < zs.length → 0 ≤ atI zs i ∧ atI zs i < 16 := by
  unfold reqB at h
  rw [Bool.and_eq_true, decide_eq_true_iff, allB_iff] at h
  refine ⟨by omega, fun i hi => ?_⟩
  have := h.1 i hi
  rw [Bool.and_eq_true, decide_eq_true_iff, decide_eq_true_iff] at this
  show 0 ≤ zs[i]?.getD 0 ∧ zs[i]?.getD 0 < 16
  omega
abbrev rkLast : Stay → Int := fun st => (st.2 : Int)
abbrev rkSince : Stay → Int := fun st => (st.1 : Int)
set_option maxRecDepth 100000 in
set_option maxHeartbeats 6400000 in
theorem recent_any (k : Int) (zs : List Int) (A : Option Addr) (n c : Nat) (w : World) (h : Sl w A n c zs) :
    Calls Try.prog 17 #[.slice A n c, .int .i64 k] w fun e w' => ((reqB zs 200 15 = true ∧ placesB k = true ∧ ∃ v, e = .returned (.tuple #[.int .i64 (rC rkLast k zs n), v, .int .i64 0]) ∧ Ow w' w.heap.size 3 v (rP rkLast k zs n)) ∨ ((reqB zs 200 15 = false ∨ placesB k = false) ∧ e = .returned (.tuple #[.int .i64 0, .slice none 0 0, .int .i64 2]))) ∧ Below w.heap.size w w' := by
  have HA := Lib.hid (areRequests_any zs A n c w h)
  have HP := Lib.hid (fun V => isPlaces_any k V)
  have HSL := Lib.hid (fun V (hV : Below w.heap.size w V) => h.below hV (Nat.le_refl _))
  have HL : Hid (zs.length = n) := h.len
  have hbig := h.big
  clear h
  rw [show (decide (1 ≤ k) && decide (k ≤ 8)) = placesB k from rfl] at HP
  cases h1 : reqB zs 200 15
  · rw [h1] at HA
    go_enter Try.func17, Try.ntmps17
    go_wp2_with (go_at_call 43; refine HA.out.mono ?_; rintro e w1 ⟨rfl, hb1⟩; have HB1 := Lib.hid hb1; clear hb1)
    go_ret3
    exact ⟨.inr ⟨.inl (by simp), rfl⟩, HB1.out⟩
  · rw [h1] at HA
    obtain ⟨hn, hz⟩ := reqB_parts h1
    rw [HL.out] at hn hz
    cases h2 : placesB k
    · rw [h2] at HP
      go_enter Try.func17, Try.ntmps17
      go_wp2_with (first
        | (go_at_call 43; refine HA.out.mono ?_; rintro e w1 ⟨rfl, hb1⟩; have HB1 := Lib.hid hb1; clear hb1)
        | (go_at_call 44; refine (HP.out _).mono ?_; rintro e w2 ⟨rfl, rfl⟩))
      go_ret3
      exact ⟨.inr ⟨.inr (by simp), rfl⟩, HB1.out⟩
    · rw [h2] at HP
      have hk : 1 ≤ k ∧ k ≤ 8 := by unfold placesB at h2; rw [Bool.and_eq_true, decide_eq_true_iff, decide_eq_true_iff] at h2; exact h2
      have HRU := Lib.hid (fun V (hV : Below w.heap.size w V) => run_any rkLast k zs A n c 46 #[] V (HSL.out V hV) hn hk hz (fun i _ => rankLast V _))
      clear hz hk
      go_enter Try.func17, Try.ntmps17
      go_wp2_with (first
        | (go_at_call 43; refine HA.out.mono ?_; rintro e w1 ⟨rfl, hb1⟩; have HB1 := Lib.hid hb1; clear hb1)
        | (go_at_call 44; refine (HP.out _).mono ?_; rintro e w2 ⟨rfl, rfl⟩)
        | (go_at_call 45; refine (HRU.out _ HB1.out).mono ?_; rintro e w3 ⟨⟨v, rfl, hv⟩, hb⟩; have HV := Lib.hid (hv.base HB1.out.size); have HB3 := Lib.hid (HB1.out.trans (hb.mono HB1.out.size)); clear hv hb))
      go_ret3
      exact ⟨.inl ⟨by simp, by simp, v, rfl, HV.out⟩, HB3.out⟩
set_option maxRecDepth 100000 in
set_option maxHeartbeats 6400000 in
theorem first_any (k : Int) (zs : List Int) (A : Option Addr) (n c : Nat) (w : World) (h : Sl w A n c zs) :
    Calls Try.prog 18 #[.slice A n c, .int .i64 k] w fun e w' => ((reqB zs 200 15 = true ∧ placesB k = true ∧ ∃ v, e = .returned (.tuple #[.int .i64 (rC rkSince k zs n), v, .int .i64 0]) ∧ Ow w' w.heap.size 3 v (rP rkSince k zs n)) ∨ ((reqB zs 200 15 = false ∨ placesB k = false) ∧ e = .returned (.tuple #[.int .i64 0, .slice none 0 0, .int .i64 2]))) ∧ Below w.heap.size w w' := by
  have HA := Lib.hid (areRequests_any zs A n c w h)
  have HP := Lib.hid (fun V => isPlaces_any k V)
  have HSL := Lib.hid (fun V (hV : Below w.heap.size w V) => h.below hV (Nat.le_refl _))
  have HL : Hid (zs.length = n) := h.len
  have hbig := h.big
  clear h
  rw [show (decide (1 ≤ k) && decide (k ≤ 8)) = placesB k from rfl] at HP
  cases h1 : reqB zs 200 15
  · rw [h1] at HA
    go_enter Try.func18, Try.ntmps18
    go_wp2_with (go_at_call 43; refine HA.out.mono ?_; rintro e w1 ⟨rfl, hb1⟩; have HB1 := Lib.hid hb1; clear hb1)
    go_ret3
    exact ⟨.inr ⟨.inl (by simp), rfl⟩, HB1.out⟩
  · rw [h1] at HA
    obtain ⟨hn, hz⟩ := reqB_parts h1
    rw [HL.out] at hn hz
    cases h2 : placesB k
    · rw [h2] at HP
      go_enter Try.func18, Try.ntmps18
      go_wp2_with (first
        | (go_at_call 43; refine HA.out.mono ?_; rintro e w1 ⟨rfl, hb1⟩; have HB1 := Lib.hid hb1; clear hb1)
        | (go_at_call 44; refine (HP.out _).mono ?_; rintro e w2 ⟨rfl, rfl⟩))
      go_ret3
      exact ⟨.inr ⟨.inr (by simp), rfl⟩, HB1.out⟩
    · rw [h2] at HP
      have hk : 1 ≤ k ∧ k ≤ 8 := by unfold placesB at h2; rw [Bool.and_eq_true, decide_eq_true_iff, decide_eq_true_iff] at h2; exact h2
      have HRU := Lib.hid (fun V (hV : Below w.heap.size w V) => run_any rkSince k zs A n c 47 #[] V (HSL.out V hV) hn hk hz (fun i _ => rankSince V _))
      clear hz hk
      go_enter Try.func18, Try.ntmps18
      go_wp2_with (first
        | (go_at_call 43; refine HA.out.mono ?_; rintro e w1 ⟨rfl, hb1⟩; have HB1 := Lib.hid hb1; clear hb1)
        | (go_at_call 44; refine (HP.out _).mono ?_; rintro e w2 ⟨rfl, rfl⟩)
        | (go_at_call 45; refine (HRU.out _ HB1.out).mono ?_; rintro e w3 ⟨⟨v, rfl, hv⟩, hb⟩; have HV := Lib.hid (hv.base HB1.out.size); have HB3 := Lib.hid (HB1.out.trans (hb.mono HB1.out.size)); clear hv hb))
      go_ret3
      exact ⟨.inl ⟨by simp, by simp, v, rfl, HV.out⟩, HB3.out⟩
end Go.Proofs.Ytcnjkdkkflpgnaa
/- Layer 8: a range over a function whose body changes memory that the iterator doesn't read; slices.Backward. -/
namespace Go.Proofs.Ytcnjkdkkflpgnaa
open Go.RowKit Go.Shelf
set_option linter.unusedVariables false

/-- What a round leaves to the iterator: the blocks that it reads, and those from B on. -/
structure KeepUp (Rd : Nat → Prop) (B : Nat) (W W' : World) : Prop where
  os : W'.os = W.os
  tape : W'.tape = W.tape
  output : W'.output = W.output
  size : W.heap.size ≤ W'.heap.size
  same : ∀ k, k < W.heap.size → (Rd k ∨ B ≤ k) → W'.heap[k]? = W.heap[k]?
/-- What stays whatever happens to blocks from B on. -/
def Sure (B : Nat) (J : Nat → World → Prop) : Prop := ∀ s W W', J s W → Below B W W' → J s W'
theorem Sure.alloc {B : Nat} {J : Nat → World → Prop} (h : Sure B J) {s : Nat} {W : World} (hs : J s W) (hB : B ≤ W.heap.size) (o : Obj) : J s (W.alloc o) := h s W _ hs ((Below.refl B W).alloc hB o)
theorem below_put {B : Nat} (W : World) {l : Nat} (hl : B ≤ l) (o : Obj) : Below B W (W.putObj l o) := ⟨rfl, rfl, rfl, by simp, fun k hk => World.putObj_heap_other (by omega)⟩
theorem Sure.put {B : Nat} {J : Nat → World → Prop} (h : Sure B J) {s : Nat} {W : World} (hs : J s W) {l : Nat} (hl : B ≤ l) (o : Obj) : J s (W.putObj l o) := h s W _ hs (below_put W hl o)
/-- The iterator's side: it yields what L lists. -/
def IterB (n : Nat) (P : Program) (gf : Nat) (lb : Array Value) (L : List (Array Value)) (Rd : Nat → Prop) (w : World) : Prop :=
  ∀ (l : Nat) (J : Nat → World → Prop) (W : World), W.heap.size = w.heap.size + 2 → (∀ k, k < w.heap.size → W.heap[k]? = w.heap[k]?) → Sure W.heap.size J →
    (∀ j x W1, L[j]? = some x → J j W1 → YieldAt Fence.wide n P l x W1 fun e W' => e = .returned (.bool true) ∧ J (j + 1) W' ∧ KeepUp Rd W.heap.size W1 W') →
    J 0 W → Calls P gf (#[.func (.yield l) #[] #[]] ++ lb) W fun e W' => (∃ v, e = .returned v) ∧ J L.length W'
/-- How the caller's body is left. -/
def LeaveK (Rd : Nat → Prop) (B : Nat) (I : Nat → World → Prop) (j : Nat) (W : World) : Exit → Act → World → Prop
  | .normal, _, W' => KeepUp Rd B W W' ∧ I j W'
  | _, _, _ => False
/-- The caller's side. -/
theorem range_lawK {n : Nat} {P : Program} {g : Operand} {ps : Array Tmp} {assign body : Code} {Q : Exit → Act → World → Prop} {a : Act} {w : World} {gf : Nat} {lb : Array Value}
    (hg : a.eval g = .func (.func gf) #[] lb) (eg : ∀ args w, (callFunc gf args).run P w = .ok (.enter gf args) w) {L : List (Array Value)} {Rd : Nat → Prop}
    (hit : IterB n P gf lb L Rd w) (hps : ∀ x ∈ L, x.size = ps.size) (hRd : ∀ k, Rd k → k < w.heap.size) (I : Nat → World → Prop) (hI : Sure w.heap.size I) (h0 : I 0 w)
    (hround : ∀ (l : Nat) (j : Nat) (x : Array Value) (W : World), L[j]? = some x → w.heap.size ≤ l → l < W.heap.size → I j W →
      assign.wpIn (Fence.wide.inRound l) n P (Exit.then (fun a₁ W₁ => Below W.heap.size W W₁ ∧ ∀ o, body.wpIn (Fence.wide.inRound l) n P (LeaveK Rd w.heap.size I (j + 1) (W₁.putObj l o)) a₁ (W₁.putObj l o)) (fun _ _ _ => False))
        { tmps := (ps.zip x).foldl (fun t (p, v) => t.setIfInBounds p v) a.tmps, defers := [] } W)
    (hdone : ∀ (D : Nat) (W : World), w.heap.size ≤ D → I L.length W → W.heap[D]? = some (.deferred (some [])) → Q .normal { a with defers := { target := .collected D, args := #[] } :: a.defers } W) :
    (Code.rangeFunc g ps assign body).wpIn Fence.wide (n + 1) P Q a w := by
  refine wpIn_rangeFunc fun fn hfn => ?_
  have hm : w.heap.size < w.heap.size + 1 := by omega
  let R : LoopState → Option Code → Loop := fun st pe => { state := st, pending := pe, fn, tmps := a.tmps, params := ps, assign, body, defers := w.heap.size }
  let W1 : World := (w.alloc (.deferred (some []))).alloc (.loop (R .ready none))
  have hz1 : W1.heap.size = w.heap.size + 2 := by simp [W1]
  have hold : ∀ k, k < w.heap.size → W1.heap[k]? = w.heap[k]? := fun k hk => by
    show ((w.heap.push _).push _)[k]? = _
    rw [Array.getElem?_push, if_neg (by simp; omega), Array.getElem?_push, if_neg (by omega)]
  have hD1 : W1.heap[w.heap.size]? = some (.deferred (some [])) := by
    show ((w.heap.push _).push _)[w.heap.size]? = _
    rw [Array.getElem?_push, if_neg (by simp), Array.getElem?_push, if_pos rfl]
  have hL1 : W1.heap[w.heap.size + 1]? = some (.loop (R .ready none)) := by
    show ((w.heap.push _).push _)[w.heap.size + 1]? = _
    rw [Array.getElem?_push, if_pos (by simp)]
  refine ⟨w.heap.size + 1, [{ target := .collected w.heap.size, args := #[] }], W1, { target := .fn (.func gf) lb, args := #[.func (.yield (w.heap.size + 1)) #[] #[]] }, W1, gf, #[.func (.yield (w.heap.size + 1)) #[] #[]] ++ lb, W1, run_enterLoop_outer _ _ _ _ _, ?_, fun _ _ => trivial, ?_, (fun h => (by cases h)), ?_⟩
  · simp only [resolve, hg]
    simp [go_sem]
  · simp [invoke, go_sem, eg]
  refine callsIn_wide.2 ((hit (w.heap.size + 1)
    (fun j W => I j W ∧ W.heap[w.heap.size + 1]? = some (.loop (R .ready none)) ∧ W.heap[w.heap.size]? = some (.deferred (some [])))
    W1 hz1 hold ?_ ?_ ⟨hI.alloc (hI.alloc h0 (Nat.le_refl _) _) (by simp) _, hL1, hD1⟩).mono ?_)
  · rintro s A B ⟨h1, h2, h3⟩ hb
    exact ⟨hI s A B h1 (hb.mono (by omega)), (hb.block _ (by omega)).trans h2, (hb.block _ (by omega)).trans h3⟩
  · -- a round
    rintro j x W hx ⟨hi, hl, hk⟩
    have hy := run_yield (P := P) (args := x) hl (hps x (List.mem_of_getElem? hx))
    refine ⟨fn, _, assign, body, hy, roundIn_of_wpIn trivial (wpIn_mono (hround (w.heap.size + 1) j x W hx (Nat.le_succ _) (Array.getElem?_eq_some_iff.1 hl).1 hi) ?_)⟩
    intro e a₁ W₁ he
    cases e with
    | normal =>
      obtain ⟨hb, hbody⟩ := he
      have hlt : w.heap.size + 1 < W.heap.size := (Array.getElem?_eq_some_iff.1 hl).1
      have hl1 : W₁.heap[w.heap.size + 1]? = some (.loop (R .ready none)) := (hb.block _ hlt).trans hl
      have hk1 : W₁.heap[w.heap.size]? = some (.deferred (some [])) := (hb.block _ (by omega)).trans hk
      have hlt1 : w.heap.size + 1 < W₁.heap.size := Nat.lt_of_lt_of_le hlt hb.size
      refine ⟨_, run_beginRound hl1 rfl, wpIn_mono (hbody _) ?_⟩
      intro e2 a₂ W₂ he2
      have hl2 : (W₁.putObj (w.heap.size + 1) (.loop { R .ready none with state := .busy })).heap[w.heap.size + 1]? = some (.loop { R .ready none with state := .busy }) := World.putObj_heap_same hlt1
      have hk2 : (W₁.putObj (w.heap.size + 1) (.loop { R .ready none with state := .busy })).heap[w.heap.size]? = some (.deferred (some [])) := (World.putObj_heap_other (by omega)).trans hk1
      cases e2 with
      | normal =>
        obtain ⟨hku, hi2⟩ := he2
        have hl3 := (hku.same (w.heap.size + 1) (by simpa using hlt1) (.inr (Nat.le_succ _))).trans hl2
        have hk3 := (hku.same w.heap.size (by simp; omega) (.inr (Nat.le_refl _))).trans hk2
        have hlt3 : w.heap.size + 1 < W₂.heap.size := (Array.getElem?_eq_some_iff.1 hl3).1
        refine ⟨_, _, run_endRound none hl3, rfl, ⟨hI.put hi2 (Nat.le_succ _) _, World.putObj_heap_same hlt3, (World.putObj_heap_other (by omega)).trans hk3⟩, ?_⟩
        refine ⟨hku.os.trans hb.os, hku.tape.trans hb.tape, hku.output.trans hb.output, ?_, fun k hk hor => ?_⟩
        · have h1 := hb.size
          have h2 := hku.size
          simp at h2 ⊢
          omega
        · have hne : k ≠ w.heap.size + 1 := fun e => by
            subst e
            rcases hor with h | h
            · have := hRd _ h; omega
            · omega
          have h2 := hb.size
          exact ((World.putObj_heap_other hne).trans (hku.same k (by simp; omega) (hor.imp id (fun h => by omega)))).trans ((World.putObj_heap_other hne).trans (hb.block k hk))
      | ret => exact he2.elim
      | exit id => exact he2.elim
      | goto t => exact he2.elim
      | panic ch => exact he2.elim
      | outgrown => exact he2.elim
    | ret => exact he.elim
    | exit id => exact he.elim
    | goto t => exact he.elim
    | panic ch => exact he.elim
    | outgrown => exact he.elim
  · -- behind the iterator
    rintro e W2 ⟨⟨v, rfl⟩, hi, hl, hk⟩
    exact ⟨none, _, run_endLoop hl (by simp [R]), hdone _ _ (Nat.le_refl _) (hI.put hi (Nat.le_succ _) _) ((World.putObj_heap_other (by omega)).trans hk)⟩
end Go.Proofs.Ytcnjkdkkflpgnaa
/- Layer 8: slices.Backward. -/
namespace Go.Proofs.Ytcnjkdkkflpgnaa
open Go.RowKit Go.Shelf
set_option linter.unusedVariables false

theorem backward_any (A : Option Addr) (n c : Nat) (w : World) : Calls Try.prog 75 #[.slice A n c] w fun e w' =>
    e = .returned (.func (.func 91) #[] #[.pointer (some ⟨w.heap.size, 0, none⟩)]) ∧ w' = w.alloc (.cells #[.slice A n c] 22) := by
  go_enter Try.func75, Try.ntmps75
  go_wp2
  go_ret
  exact ⟨rfl, rfl⟩
/-- What it yields. -/
def backL (zs : List Int) : List (Array Value) := (List.range zs.length).map fun j => #[.int .i64 ((zs.length - 1 - j : Nat) : Int), .int .i64 (atI zs (zs.length - 1 - j))]
theorem backL_len (zs : List Int) : (backL zs).length = zs.length := by simp [backL]
theorem backL_at (zs : List Int) {j : Nat} (h : j < zs.length) : (backL zs)[j]? = some #[.int .i64 ((zs.length - 1 - j : Nat) : Int), .int .i64 (atI zs (zs.length - 1 - j))] := by simp [backL, h]
theorem backL_inv (zs : List Int) {j : Nat} {x : Array Value} (h : (backL zs)[j]? = some x) : j < zs.length ∧ x = #[.int .i64 ((zs.length - 1 - j : Nat) : Int), .int .i64 (atI zs (zs.length - 1 - j))] := by
  have h1 : j < (backL zs).length := (List.getElem?_eq_some_iff.1 h).1
  rw [backL_len] at h1
  rw [backL_at zs h1] at h
  exact ⟨h1, (Option.some.inj h).symm⟩
def backRd (A : Option Addr) (n bx : Nat) (k : Nat) : Prop := k = bx ∨ (0 < n ∧ ∃ off, A = some ⟨k, off, none⟩)
theorem cell_lt {w : World} {b o : Nat} {v : Value} (h : w.cell? ⟨b, o, none⟩ = some v) : b < w.heap.size := by
  rcases Nat.lt_or_ge b w.heap.size with h1 | h1
  · exact h1
  · exfalso
    unfold World.cell? at h
    rw [show w.heap[b]? = none from Array.getElem?_eq_none h1] at h
    cases h
theorem backRd_lt {w : World} {A : Option Addr} {n c bx : Nat} {zs : List Int} (h : Sl w A n c zs) (hb : bx < w.heap.size) (k : Nat) (hk : backRd A n bx k) : k < w.heap.size := by
  rcases hk with rfl | ⟨hn, off, hA⟩
  · exact hb
  · obtain ⟨b, off2, h1, h2⟩ := h.at_ hn
    rw [hA] at h1
    have h1 := Option.some.inj h1
    injection h1 with h1 _ _
    rw [h1]
    exact cell_lt h2
set_option maxRecDepth 100000 in
set_option maxHeartbeats 1600000 in
theorem back_ok (r : Nat) (zs : List Int) (A : Option Addr) (n c bx : Nat) (w : World) (h : Sl w A n c zs) (hbx : w.heap[bx]? = some (.cells #[.slice A n c] 22 (0, 0))) :
    IterB r Try.prog 91 #[.pointer (some ⟨bx, 0, none⟩)] (backL zs) (backRd A n bx) w := by
  intro l J W hsz hold hJ hY h0
  have hbig := h.big
  have HL : Hid (zs.length = n) := h.len
  have hbxl := (Array.getElem?_eq_some_iff.1 hbx).1
  obtain ⟨R, hR⟩ : ∃ R : Ending → World → Prop, R = fun e W' => (∃ v, e = .returned v) ∧ J (backL zs).length W' := ⟨_, rfl⟩
  rw [← hR]
  have HRR : Hid (∀ e W', (∃ v, e = .returned v) → J n W' → R e W') := fun e W' h1 h2 => by rw [hR]; refine ⟨h1, ?_⟩; rw [backL_len, HL.out]; exact h2
  clear hR
  have HBX : Hid (∀ V : World, V.heap[bx]? = W.heap[bx]? → V.cell? ⟨bx, 0, none⟩ = some (.slice A n c)) := fun V hV => cell_in ((hV.trans (hold bx hbxl)).trans hbx) rfl
  have HAT : Hid (∀ k, k < n → ∃ b off, A = some ⟨b, off, none⟩ ∧ ∀ V : World, V.heap[b]? = W.heap[b]? → V.cell? ⟨b, off + k, none⟩ = some (.int .i64 (atI zs k))) := fun k hk => by
    obtain ⟨b, off, hA, hc⟩ := h.at_ hk
    refine ⟨b, off, hA, fun V hV => ?_⟩
    have hb := cell_lt hc
    exact (World.cell?_of_block (a := ⟨b, off + k, none⟩) (hV.trans (hold b hb))).trans hc
  have HY : Hid (∀ j, j < n → ∀ W1, J j W1 → YieldAt Fence.wide r Try.prog l #[.int .i64 ((n - 1 - j : Nat) : Int), .int .i64 (atI zs (n - 1 - j))] W1 fun e W' => e = .returned (.bool true) ∧ J (j + 1) W' ∧ KeepUp (backRd A n bx) W.heap.size W1 W') := fun j hj W1 hJ1 => by
    have := backL_at zs (show j < zs.length by rw [HL.out]; exact hj)
    rw [HL.out] at this
    exact hY j _ W1 this hJ1
  have HRD : Hid (∀ k, backRd A n bx k → k < W.heap.size) := fun k hk => by have := backRd_lt h hbxl k hk; omega
  have H0 := Lib.hid h0
  clear h hbx hbxl hsz hold hY hJ h0 w
  have b0 := HBX.out W rfl
  have v1 : IntKind.i64.wrap ((n : Int) - 1) = (n : Int) - 1 := IntWalk.i64_in _ (by omega)
  show Calls Try.prog 91 #[.func (.yield l) #[] #[], .pointer (some ⟨bx, 0, none⟩)] W _
  go_enter Try.func91, Try.ntmps91
  go_wp2
  go_loopw [3] (fun i wr => ∃ t : Nat, t ≤ n ∧ i = .int .i64 ((n : Int) - 1 - (t : Int)) ∧ Hid (J t wr) ∧ Hid (W.heap.size ≤ wr.heap.size ∧ ∀ k, backRd A n bx k → wr.heap[k]? = W.heap[k]?)) (fun i _ => (intOf i + 1).toNat)
  case atStart => exact ⟨0, Nat.zero_le _, by go_num, H0.out, Nat.le_refl _, fun _ _ => rfl⟩
  case round =>
    obtain ⟨t, ht, rfl, HJ, HU⟩ := hrel
    obtain ⟨wo, rfl⟩ : ∃ wo : World, wo = wr := ⟨_, rfl⟩
    clear H0 b0
    have b0 := HBX.out wo (HU.out.2 bx (.inl rfl))
    by_cases hlt : t < n
    · have i1 : (n : Int) - 1 - (t : Int) ≥ 0 := by omega
      have i2 : decide ((0 : Int) ≤ (n : Int) - 1 - (t : Int)) = true := by simp; omega
      obtain ⟨k, hk⟩ : ∃ k : Nat, (n : Int) - 1 - (t : Int) = (k : Int) := ⟨n - 1 - t, by omega⟩
      have hkn : k < n := by omega
      have hkt : n - 1 - t = k := by omega
      obtain ⟨b, off, rfl, hc⟩ := HAT.out k hkn
      have hc1 := hc wo (HU.out.2 b (.inr ⟨by omega, off, rfl⟩))
      obtain ⟨fn, tmps, assign, body, hy, hR5⟩ := HY.out t hlt wo HJ.out
      rw [hkt] at hy
      rw [hk]
      have i3 : (k : Int) ≥ 0 := by omega
      have i4 : (k : Int) < (n : Int) := by omega
      have i5 : (0 : Int) ≤ (k : Int) := by omega
      have v2 : IntKind.i64.wrap ((k : Int) - 1) = (k : Int) - 1 := IntWalk.i64_in _ (by omega)
      have HK1 : Hid ((k : Int) - 1 = (n : Int) - 1 - ((t + 1 : Nat) : Int)) := by rw [Hid]; omega
      clear hk i1 i2
      refine (wpIn_wide (n := r + 1)).1 ?_
      gi_wp2
      refine hR5.mono ?_
      rintro e W2 ⟨rfl, hJ2, hk2⟩
      have HJ2 := Lib.hid hJ2
      have HK2 := Lib.hid hk2
      clear hJ2 hk2 hy hR5 b0 hc1
      gi_wp2
      go_wp2
      refine ⟨⟨t + 1, by omega, by rw [HK1.out], HJ2.out, Nat.le_trans HU.out.1 HK2.out.size, fun k hk => (HK2.out.same k ?_ (.inl hk)).trans (HU.out.2 k hk)⟩, by rw [HK1.out]; simp [intOf]; omega⟩
      exact Nat.lt_of_lt_of_le (HRD.out k hk) HU.out.1
    · have htn : t = n := by omega
      subst htn
      have i1 : ¬ (t : Int) - 1 - (t : Int) ≥ 0 := by omega
      go_wp2
      go_end0
      exact HRR.out _ _ ⟨_, rfl⟩ HJ.out
end Go.Proofs.Ytcnjkdkkflpgnaa
