import Derived.Test.YtcnjkdkkflpgnaaT14
/- Layer 8: rest. -/
namespace Go.Proofs.Ytcnjkdkkflpgnaa
open Go.RowKit Go.Shelf
set_option linter.unusedVariables false
attribute [local go_sem] Oper.semAt_some

/-- The smallest costs from the last j requests on, by the order. -/
def rjF (L R : List (List Int)) (mm : Nat) (zs : List Int) : Nat → List Int
  | 0 => List.replicate L.length 0
  | j + 1 => lowF R mm ((List.range L.length).map fun k => srvV L R (rjF L R mm zs j) k (atI zs (zs.length - 1 - j)).toNat)
theorem lowJ_small {R : List (List Int)} {k : Nat} {b : Int} {cs : List Int} (h : smallZ cs b) : ∀ t, smallZ (lowJ R k cs t) b
  | 0 => h
  | t + 1 => by
    have ih := lowJ_small (R := R) (k := k) h t
    unfold lowJ
    split
    · rename_i hlt
      by_cases hk : k < (lowJ R k cs t).length
      · refine smallZ_set ih hk ?_
        have h1 := ih (atI (ordAt R k) t).toNat
        have h2 := ih k
        omega
      · rw [List.set_eq_of_length_le (by omega)]; exact ih
    · exact ih
theorem lowK_small {R : List (List Int)} {mm : Nat} {b : Int} {cs : List Int} (h : smallZ cs b) : ∀ k, smallZ (lowK R mm cs k) b
  | 0 => h
  | k + 1 => lowJ_small (lowK_small h k) mm
theorem lowGo_small {R : List (List Int)} {mm n : Nat} {b : Int} : ∀ {f : Nat} {cs : List Int}, smallZ cs b → smallZ (lowGo R mm n f cs) b
  | 0, _, h => h
  | f + 1, cs, h => by
    unfold lowGo
    split
    · exact h
    · exact lowGo_small (lowK_small h n)
theorem lowJ_len {R : List (List Int)} {k : Nat} {cs : List Int} : ∀ t, (lowJ R k cs t).length = cs.length
  | 0 => rfl
  | t + 1 => by
    unfold lowJ
    split
    · rw [List.length_set]; exact lowJ_len t
    · exact lowJ_len t
theorem lowK_len {R : List (List Int)} {mm : Nat} {cs : List Int} : ∀ k, (lowK R mm cs k).length = cs.length
  | 0 => rfl
  | k + 1 => (lowJ_len mm).trans (lowK_len k)
theorem lowGo_len {R : List (List Int)} {mm n : Nat} : ∀ {f : Nat} {cs : List Int}, (lowGo R mm n f cs).length = cs.length
  | 0, _ => rfl
  | f + 1, cs => by
    unfold lowGo
    split
    · rfl
    · exact lowGo_len.trans (lowK_len n)
theorem rjF_len (L R : List (List Int)) (mm : Nat) (zs : List Int) : ∀ j, (rjF L R mm zs j).length = L.length
  | 0 => by simp [rjF]
  | j + 1 => by
    unfold rjF lowF
    rw [lowGo_len, List.length_map, List.length_range]
theorem atI_map {n : Nat} {f : Nat → Int} {i : Nat} : atI ((List.range n).map f) i = if i < n then f i else 0 := by
  unfold atI
  by_cases h : i < n
  · rw [if_pos h, List.getElem?_map, List.getElem?_range h]; rfl
  · rw [if_neg h, List.getElem?_eq_none (by simp; omega)]; rfl
theorem rjF_small {m : Nat} {L R : List (List Int)} (h : LaidR m L R) {zs : List Int} (hz : ∀ i, i < zs.length → ∃ r : Nat, atI zs i = (r : Int) ∧ r < m) : ∀ j : Nat, j ≤ zs.length → smallZ (rjF L R (m - 1) zs j) (7 * (j : Int))
  | 0, _ => fun i => by
    have : atI (rjF L R (m - 1) zs 0) i = 0 := by
      unfold rjF atI
      by_cases h : i < L.length
      · rw [List.getElem?_replicate, if_pos h]; rfl
      · rw [List.getElem?_eq_none (by simp; omega)]; rfl
    rw [this]; omega
  | j + 1, hj => by
    have ih := rjF_small h hz j (by omega)
    unfold rjF lowF
    refine lowGo_small fun i => ?_
    rw [atI_map]
    split
    · rename_i hi
      obtain ⟨r, e, hr⟩ := hz (zs.length - 1 - j) (by omega)
      rw [e, Int.toNat_natCast]
      unfold srvV
      obtain ⟨p, e2, hp⟩ := h.pl i hi r hr
      have h6 := h.m6
      rw [e2]
      have h3 := ih (fwdF L R (rjF L R (m - 1) zs j) i r)
      omega
    · omega
theorem Try.infoRow : (Try.prog.info? 22).map (fun i => (i.zero, i.size, i.bytes)) = some (some (.slice none 0 0), 1, 24) := by kernel_rfl
/-- A slice of slices that is made. -/
theorem run_makeS (w : World) (n : Nat) (hn : n ≤ 1000000) : ∃ w', (Instr.makeSlice 43 (.int .i64 (n : Int)) (.int .i64 (n : Int))).run Try.prog w = .ok (.slice (some ⟨w.heap.size, 0, none⟩) n n) w' ∧
    (∃ cs, w'.heap[w.heap.size]? = some (.cells cs 22 (0, 0)) ∧ cs.size = n ∧ ∀ i, i < n → cs[i]? = some (.slice none 0 0)) ∧ w.grownBy w' none := by
  obtain ⟨i0, hi, hz0, hz1, hz2⟩ := info_parts Try.infoRow
  obtain ⟨w', h1, h2, h3⟩ := run_make_full (P := Try.prog) (w := w) 0 43 22 i0 _ 1 Try.underlying43 hi hz0 hz1 .i64 .i64 n (by rw [hz2]; omega) (by unfold maxLen; omega) (Nat.zero_le _)
  refine ⟨w', h1, ?_, h3⟩
  rcases h2.2 with ⟨e, _⟩ | ⟨g, cap, cur, e, _, hc, _, _, hs, ht⟩
  · cases e
  · injection e with e e2 e3
    have e := Option.some.inj e
    injection e with e _ _
    subst e e3
    refine ⟨cur, hc, by omega, fun i hi => ?_⟩
    rw [List.take_of_length_le (by simp; omega)] at ht
    rw [← Array.getElem?_toList, ht, show (Value.slice none 0 0).cells = #[.slice none 0 0] from rfl, Nat.mul_one, toList_madeCells_one, List.getElem?_replicate, if_pos hi]
theorem run_makeI (w : World) (n B : Nat) (hn : n ≤ 1000000) (hB : B ≤ w.heap.size) : ∃ w', (Instr.makeSlice 22 (.int .i64 (n : Int)) (.int .i64 (n : Int))).run Try.prog w = .ok (.slice (some ⟨w.heap.size, 0, none⟩) n n) w' ∧
    Ow w' B 3 (.slice (some ⟨w.heap.size, 0, none⟩) n n) (List.replicate n 0) ∧ w.grownBy w' none := by
  obtain ⟨i0, hi, hz0, hz1, hz2⟩ := info_parts Try.infoInt
  obtain ⟨w', h1, h2, h3⟩ := run_make_full (P := Try.prog) (w := w) B 22 3 i0 _ 1 Try.underlying22 hi hz0 hz1 .i64 .i64 n (by rw [hz2]; omega) (by unfold maxLen; omega) hB
  refine ⟨w', h1, ?_, h3⟩
  have hcs : (Value.int .i64 0).cells = #[.int .i64 0] := rfl
  rw [hcs, Nat.mul_one, toList_madeCells_one] at h2
  unfold Ow
  rw [List.length_replicate, show ints (List.replicate n 0) = List.replicate n (.int .i64 0) from by simp [ints]]
  exact h2
end Go.Proofs.Ytcnjkdkkflpgnaa
/- Layer 8: regions that draw, within a round of a range over a function. -/
namespace Go.Proofs.Ytcnjkdkkflpgnaa
open Go.RowKit Go.Shelf
set_option linter.unusedVariables false

theorem oper_inRound {P : Program} {o : Oper} {a : Act} {w : World} {next next' : Act → World → Prop} {Q : Exit → Act → World → Prop} {l n : Nat} (hQ : ¬ LetsOut Q) (hd : ∀ c, o.op ≠ .defer c) (hn : ∀ a w, next a w → next' a w)
    (h : o.wp P a w next Q) : o.wpIn (Fence.wide.inRound l) n P a w next' Q := by
  refine ⟨fun _ _ => trivial, ?_⟩
  rw [Oper.semAt_eq _ _ _ hd]
  unfold Oper.wp at h
  generalize (execOp a.eval o).run P w = r at h ⊢
  unfold Oper.upon at h
  split at h
  · exact hn _ _ h
  · exact hn _ _ h
  · exact hn _ _ h
  · refine ⟨(fun hh => absurd hh Bool.false_ne_true), CallsIn.inRound l (callsIn_wide.2 (h.mono ?_))⟩
    intro e w2 he
    split at he
    · exact hn _ _ he
    · exact he
    · exact absurd he hQ
  · rename_i row args w'
    refine ⟨(fun hh => absurd hh Bool.false_ne_true), ?_⟩
    have h2 : RowsIn Fence.wide (n - 1) P row args w' fun v w'' => next (a.put o.dst v) w'' := fun c cs _ => by
      obtain ⟨v, w', r, hs⟩ := h c cs
      exact ⟨v, w', r, stepsIn_wide.2 hs⟩
    exact RowsIn.mono (show RowsIn (Fence.wide.inRound l) (n - 1) P row args w' _ from h2) fun v w'' hh => hn _ _ hh
  · exact h
  · exact h.elim
theorem wpOps_inRound {P : Program} {ops : Array Oper} {Q : Exit → Act → World → Prop} {l n : Nat} (hQ : ¬ LetsOut Q) (hd : ∀ (i : Nat) (o : Oper), ops[i]? = some o → ∀ c, o.op ≠ .defer c) : ∀ (L : List Nat) (a : Act) (w : World), wpOps P ops Q L a w → wpOpsIn (Fence.wide.inRound l) n P ops Q L a w
  | [], a, w, h => h
  | i :: rest, a, w, h => by
    unfold wpOps at h
    unfold wpOpsIn
    cases ho : ops[i]? with
    | none =>
      rw [ho] at h
      exact wpOps_inRound hQ hd rest a w h
    | some o =>
      rw [ho] at h
      simp only at h ⊢
      split
      · rename_i hw
        rw [if_pos hw] at h
        rcases h with h | h
        · exact oper_inRound hQ (hd i o ho) (fun a w hh => wpOps_inRound hQ hd rest a w hh) h
        · exact absurd h.2 hQ
      · rename_i hw
        rw [if_neg hw] at h
        exact ⟨fun _ _ => trivial, wpOps_inRound hQ hd rest _ w h⟩
def noDefer (ops : Array Oper) : Bool := ops.all fun o => match o.op with
  | .defer _ => false
  | _ => true
theorem noDefer_spec {ops : Array Oper} (h : noDefer ops = true) (i : Nat) (o : Oper) (ho : ops[i]? = some o) (c : Go.Call) : o.op ≠ .defer c := fun e => by
  unfold noDefer at h
  rw [Array.all_eq_true] at h
  obtain ⟨hi, hio⟩ := Array.getElem?_eq_some_iff.1 ho
  have := h i hi
  rw [hio, e] at this
  cases this
/-- A region that draws, in a round: as outside. -/
theorem wpIn_region_round {P : Program} {id : Nat} {ops : Array Oper} {Q : Exit → Act → World → Prop} {a : Act} {w : World} {S : World → Prop} {l n : Nat} (hm : P.follows .mixedOrders = true)
    (hnd : noDefer ops = true) (hS : S w.drew)
    (h : wpAnyH P .any ops (Exit.then (fun a w => Q .normal a w) (fun _ _ _ => False)) S ops.size (Array.replicate ops.size false) a w.drew) : (Code.region id ops true).wpIn (Fence.wide.inRound l) n P Q a w := by
  have h1 : (Code.region id ops true).wpIn (Fence.wide.inRound l) n P (Exit.then (fun a w => Q .normal a w) (fun _ _ _ => False)) a w := by
    refine wpIn_region_draw fun t => ?_
    refine wpOps_inRound (fun hh => ?_) (fun i o ho c => noDefer_spec hnd i o ho c) _ _ _ ?_
    · obtain ⟨a0, w0, hf⟩ := hh
      exact hf
    · simp only [Region.schedule, hm, Bool.true_or, if_true]
      exact wpAny_sound ops.size t _ a _ (wpAny_of_held _ _ _ _ h)
  refine wpIn_mono h1 fun e a w he => ?_
  cases e
  case normal => exact he
  all_goals exact he.elim
end Go.Proofs.Ytcnjkdkkflpgnaa
