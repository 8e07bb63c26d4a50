import Derived.Test.YtcnjkdkkflpgnaaT34
import Derived.Test.YtcnjkdkkflpgnaaT30
/- Layer 8: more places, one request less. -/
namespace Go.Proofs.Ytcnjkdkkflpgnaa
open Go.RowKit Go.Maps
set_option linter.unusedVariables false

theorem Can.more : ∀ (rs : List Int) {A : St} {x : Int} {c : Nat}, A x = false → Can rs A c → Can rs (addS A x) c
  | [], _, _, _, _, _ => trivial
  | p :: rs, A, x, c, hx, h => by
    unfold Can at h ⊢
    by_cases hp : A p = true
    · have hpx : p ≠ x := fun e => by rw [e, hx] at hp; cases hp
      rw [if_pos hp] at h
      rw [if_pos ((addS_at hpx).trans hp)]
      exact Can.more rs hx h
    · rw [if_neg hp] at h
      have hp' : A p = false := by simpa using hp
      obtain ⟨z, c', h1, h2, h3⟩ := h
      have hzx : z ≠ x := fun e => by rw [e, hx] at h1; cases h1
      have hzp : z ≠ p := fun e => by rw [e, hp'] at h1; cases h1
      by_cases e : p = x
      · subst e
        rw [if_pos addS_own]
        have hz0 : swpS A z p z = false := by unfold swpS; rw [if_neg hzp, if_pos rfl]
        have e1 : addS (swpS A z p) z = addS A p := by
          funext u
          unfold addS swpS
          by_cases a : u = z
          · rw [if_pos a, a, if_neg hzp, h1]
          · rw [if_neg a]
            by_cases b : u = p
            · rw [if_pos b, if_pos b]
            · rw [if_neg b, if_neg a, if_neg b]
        have := Can.more rs hz0 h3
        rw [e1] at this
        exact this.mono (by omega)
      · rw [if_neg (by rw [addS_at e, hp']; decide)]
        refine ⟨z, c', (addS_at hzx).trans h1, h2, ?_⟩
        have hs : swpS A z p x = false := by unfold swpS; rw [if_neg (fun d => e d.symm), if_neg (fun d => hzx d.symm), hx]
        have e1 : swpS (addS A x) z p = addS (swpS A z p) x := by
          funext u
          unfold addS swpS
          by_cases a : u = z <;> by_cases b : u = p <;> by_cases d : u = x <;> simp_all
        rw [e1]
        exact Can.more rs hs h3
/-- A run is a correct plan. -/
theorem own_can {zs : List Int} {k : Int} (hk : 1 ≤ k) (hz : ∀ i, i < zs.length → 0 ≤ atI zs i ∧ atI zs i < 16) {i : Nat} (hi : i ≤ zs.length) (hf : ((keysS (rF (rkBest zs) k zs i)).length : Int) = k) : Can (zs.drop i) (setS (rF (rkBest zs) k zs i)) (rC (rkBest zs) k zs zs.length - rC (rkBest zs) k zs i).toNat ∧ rC (rkBest zs) k zs i ≤ rC (rkBest zs) k zs zs.length := by
  obtain ⟨a1, a2, _⟩ := plan_run (rkBest zs) (zs := zs) hk i hi
  obtain ⟨_, b2, b3⟩ := plan_run (rkBest zs) (zs := zs) hk zs.length (Nat.le_refl _)
  have := plan_can hz (lo_plan hz) b3 (zs.length - i) i (by omega) (by rw [a1]; exact hf)
  rw [a1, a2, b2] at this
  exact this
/-- What a step of Best's run does to the set of pages. -/
theorem step_best {zs : List Int} {k : Int} {i : Nat} (hz : ∀ i, i < zs.length → 0 ≤ atI zs i ∧ atI zs i < 16) (hi : i < zs.length) (hn : ¬ ((keysS (rF (rkBest zs) k zs i)).length : Int) = k ∨ setS (rF (rkBest zs) k zs i) (atI zs i) = true) :
    setS (rF (rkBest zs) k zs (i + 1)) = addS (setS (rF (rkBest zs) k zs i)) (atI zs i) ∧ rC (rkBest zs) k zs (i + 1) = rC (rkBest zs) k zs i + (if setS (rF (rkBest zs) k zs i) (atI zs i) = true then 0 else 1) ∧ (setS (rF (rkBest zs) k zs i) (atI zs i) = false → ((keysS (rF (rkBest zs) k zs (i + 1))).length : Int) = ((keysS (rF (rkBest zs) k zs i)).length : Int) + 1) := by
  have hlo := lo_run (rkBest zs) k hz i (by omega)
  have hlk : lacksB (rF (rkBest zs) k zs i) (atI zs i) k = false := by
    by_cases hf : ((keysS (rF (rkBest zs) k zs i)).length : Int) = k
    · rw [lacks_full hf, hn.resolve_left (fun e => e hf)]; rfl
    · exact lacks_not hf
  have hg : goneS (rF (rkBest zs) k zs i) k (rkBest zs) (atI zs i) = -1 := by unfold goneS; rw [hlk, if_neg (by decide)]
  have hr : ∀ f : Int → Option Stay, rmS f (-1) = f := fun f => if_pos rfl
  have hF : rF (rkBest zs) k zs (i + 1) = putS (rF (rkBest zs) k zs i) (atI zs i) (gotS (rF (rkBest zs) k zs i) (atI zs i) i) := by
    show srvS _ i _ (goneS _ _ _ _) = _
    rw [hg]; unfold srvS; rw [hr]
  refine ⟨?_, ?_, fun hs => ?_⟩
  · rw [hF]
    funext u
    unfold setS putS addS
    split <;> rfl
  · show rC (rkBest zs) k zs i + srvC _ _ (goneS _ _ _ _) = _
    rw [hg]; unfold srvC; rw [hr]; rfl
  · rw [hF, keys_put hlo (hz i hi) (by cases e : rF (rkBest zs) k zs i (atI zs i) with | none => rfl | some v => (unfold setS at hs; rw [e] at hs; cases hs))]
    omega
theorem keys_le_best {zs : List Int} {k : Int} (hk : 1 ≤ k) (hz : ∀ i, i < zs.length → 0 ≤ atI zs i ∧ atI zs i < 16) {i : Nat} (hi : i ≤ zs.length) : ((keysS (rF (rkBest zs) k zs i)).length : Int) ≤ k := by
  obtain ⟨a1, _, _⟩ := plan_run (rkBest zs) (zs := zs) hk i hi
  obtain ⟨_, _, b3⟩ := plan_run (rkBest zs) (zs := zs) hk zs.length (Nat.le_refl _)
  have := keys_le hk hz b3 i hi
  rw [a1] at this
  exact this
/-- With one place more, from a shelf with k pages. -/
theorem more_can {zs : List Int} {k : Int} (hk : 1 ≤ k) (hz : ∀ i, i < zs.length → 0 ≤ atI zs i ∧ atI zs i < 16) : ∀ d i, i + d = zs.length → ((keysS (rF (rkBest zs) (k + 1) zs i)).length : Int) = k → ∀ c, Can (zs.drop i) (setS (rF (rkBest zs) (k + 1) zs i)) c → rC (rkBest zs) (k + 1) zs zs.length ≤ rC (rkBest zs) (k + 1) zs i + (c : Int)
  | 0, i, hi, _, c, _ => by rw [show i = zs.length by omega]; omega
  | d + 1, i, hi, hfull, c, h => by
    have hlt : i < zs.length := by omega
    obtain ⟨s1, s2, s3⟩ := step_best (k := k + 1) hz hlt (.inl (by omega))
    rw [drop_at hlt] at h
    unfold Can at h
    cases hs : setS (rF (rkBest zs) (k + 1) zs i) (atI zs i)
    · rw [hs, if_neg (by decide)] at h s2
      obtain ⟨z, c', h1, h2, h3⟩ := h
      have hl := s3 hs
      have hzp : z ≠ atI zs i := fun e => by rw [e, hs] at h1; cases h1
      have e1 : addS (swpS (setS (rF (rkBest zs) (k + 1) zs i)) z (atI zs i)) z = addS (setS (rF (rkBest zs) (k + 1) zs i)) (atI zs i) := by
        generalize setS (rF (rkBest zs) (k + 1) zs i) = A at *
        generalize atI zs i = p at *
        funext u
        unfold addS swpS
        by_cases a : u = z
        · rw [if_pos a, a, if_neg hzp, h1]
        · rw [if_neg a]
          by_cases b : u = p
          · rw [if_pos b, if_pos b]
          · rw [if_neg b, if_neg a, if_neg b]
      have h4 := Can.more (zs.drop (i + 1)) (x := z) (by unfold swpS; rw [if_neg hzp, if_pos rfl]) h3
      rw [e1, ← s1] at h4
      have := best_can (k := k + 1) (by omega) hz d (i + 1) (by omega) (by omega) c' h4
      omega
    · rw [hs, if_pos rfl] at h s2
      have hset : setS (rF (rkBest zs) (k + 1) zs (i + 1)) = setS (rF (rkBest zs) (k + 1) zs i) := by
        rw [s1]
        funext u
        unfold addS
        split
        · rename_i e; rw [e, hs]
        · rfl
      rw [← hset] at h
      have := more_can hk hz d (i + 1) (by omega) (by rw [keys_set hset]; exact hfull) c h
      omega
theorem more_run {zs : List Int} {k : Int} (hk : 1 ≤ k) (hz : ∀ i, i < zs.length → 0 ≤ atI zs i ∧ atI zs i < 16) : ∀ d i, i + d = zs.length → setS (rF (rkBest zs) (k + 1) zs i) = setS (rF (rkBest zs) k zs i) → rC (rkBest zs) (k + 1) zs zs.length - rC (rkBest zs) (k + 1) zs i ≤ rC (rkBest zs) k zs zs.length - rC (rkBest zs) k zs i
  | 0, i, hi, _ => by rw [show i = zs.length by omega]; omega
  | d + 1, i, hi, hset => by
    have hlt : i < zs.length := by omega
    have hkk := keys_set hset
    by_cases hfull : ((keysS (rF (rkBest zs) k zs i)).length : Int) = k
    · obtain ⟨h1, h2⟩ := own_can hk hz (by omega : i ≤ zs.length) hfull
      rw [← hset] at h1
      have := more_can hk hz (d + 1) i hi (by rw [hkk]; exact hfull) _ h1
      omega
    · have hle := keys_le_best hk hz (by omega : i ≤ zs.length)
      obtain ⟨s1, s2, _⟩ := step_best (k := k) hz hlt (.inl hfull)
      obtain ⟨t1, t2, _⟩ := step_best (k := k + 1) hz hlt (.inl (by rw [hkk]; omega))
      have ih := more_run hk hz d (i + 1) (by omega) (by rw [s1, t1, hset])
      rw [hset] at t2
      omega
theorem best_more {zs : List Int} {k : Int} (hk : 1 ≤ k) (hz : ∀ i, i < zs.length → 0 ≤ atI zs i ∧ atI zs i < 16) : rC (rkBest zs) (k + 1) zs zs.length ≤ rC (rkBest zs) k zs zs.length := by
  have := more_run hk hz zs.length 0 (by omega) rfl
  have h0 : rC (rkBest zs) k zs 0 = 0 := rfl
  have h1 : rC (rkBest zs) (k + 1) zs 0 = 0 := rfl
  omega
/-- The pages in the order of their last requests. -/
def mtE (zs : List Int) : Nat → List Int
  | 0 => []
  | i + 1 => (mtE zs i).filter (fun x => decide (x ≠ atI zs i)) ++ [atI zs i]
def lastN (k : Nat) (M : List Int) : List Int := M.drop (M.length - k)
theorem mtE_nodup (zs : List Int) : ∀ i, (mtE zs i).Nodup
  | 0 => by simp [mtE]
  | i + 1 => by
    have ih := mtE_nodup zs i
    exact List.nodup_append.2 ⟨ih.filter _, by simp, fun a ha b hb => by simp at hb; subst hb; exact fun e => by rw [e, List.mem_filter] at ha; simp at ha⟩
theorem filter_not {M : List Int} {q : Int} (hq : q ∉ M) : (M.filter fun x => decide (x ≠ q)) = M := List.filter_eq_self.2 (fun x hx => decide_eq_true (fun (e : x = q) => hq (e ▸ hx)))
theorem filter_len {M : List Int} {q : Int} (hn : M.Nodup) : (M.filter fun x => decide (x ≠ q)).length + (if q ∈ M then 1 else 0) = M.length := by
  by_cases hq : q ∈ M
  · rw [if_pos hq]
    have hf : ¬ ixI M q < 0 := fun e => ixI_mem.1 e hq
    obtain ⟨j, hj, hjl, _⟩ := ixI_is hf
    have hpl : plI M q = some j := by
      unfold ixI at hj
      cases hp : plI M q with
      | none =>
        rw [hp] at hj
        have hj : (-1 : Int) = (j : Int) := hj
        omega
      | some m =>
        rw [hp] at hj
        have hj : (m : Int) = (j : Int) := hj
        congr 1; omega
    rw [← witho_filter hn hpl, witho_len rfl hjl]
    omega
  · rw [if_neg hq, filter_not hq]; rfl
theorem lastN_parts (k : Nat) (M : List Int) : ∃ F, M = F ++ lastN k M := ⟨M.take (M.length - k), (List.take_append_drop _ _).symm⟩
theorem lastN_len (k : Nat) (M : List Int) : (lastN k M).length = min k M.length := by unfold lastN; rw [List.length_drop]; omega
/-- Recent keeps the last k of them. -/
theorem recent_last {zs : List Int} {k : Nat} (hk : 1 ≤ k) : ∀ i, i ≤ zs.length → svS 0 (k : Int) zs i = lastN k (mtE zs i)
  | 0, _ => by simp [svS, mtE, lastN]
  | i + 1, hi => by
    have ih := recent_last (zs := zs) hk i (by omega)
    have hS : svS 0 (k : Int) zs (i + 1) = svN 0 (k : Int) (atI zs i) (svS 0 (k : Int) zs i) (zs.drop i) := rfl
    have hM : mtE zs (i + 1) = (mtE zs i).filter (fun x => decide (x ≠ atI zs i)) ++ [atI zs i] := rfl
    have hMn := mtE_nodup zs i
    rw [hS, hM]
    unfold svN
    rw [show svO 0 (svS 0 (k : Int) zs i) (zs.drop i) = 0 from rfl, if_pos rfl, ih]
    generalize atI zs i = q at *
    generalize mtE zs i = M at *
    obtain ⟨F, hF⟩ := lastN_parts k M
    have hL := lastN_len k M
    have hFl : F.length + (lastN k M).length = M.length := by
      have := congrArg List.length hF
      rw [List.length_append] at this; omega
    have hnp : F.Nodup ∧ (lastN k M).Nodup ∧ ∀ x ∈ F, x ∉ lastN k M := by
      rw [hF] at hMn
      obtain ⟨a, b, c⟩ := List.nodup_append.1 hMn
      exact ⟨a, b, fun x hx hy => c x hx x hy rfl⟩
    obtain ⟨f1, f2, f3⟩ := hnp
    have hfl := filter_len (q := q) hMn
    by_cases hf : ixI (lastN k M) q < 0
    · rw [if_pos hf]
      have hqL := ixI_mem.1 hf
      have hMf : (M.filter fun x => decide (x ≠ q)) = (F.filter fun x => decide (x ≠ q)) ++ lastN k M := by
        conv => lhs; rw [hF]
        rw [List.filter_append, filter_not hqL]
      have hFf := filter_len (q := q) f1
      by_cases hfull : ((lastN k M).length : Int) = (k : Int)
      · rw [if_pos hfull, hMf]
        have hl : 0 < (lastN k M).length := by omega
        unfold lastN at hl ⊢
        rw [List.length_append, List.length_append, List.length_singleton]
        generalize hLL : M.drop (M.length - k) = L at *
        have hLk : L.length = k := by have : lastN k M = L := hLL; rw [this] at hfull; omega
        rw [show (F.filter fun x => decide (x ≠ q)).length + L.length + 1 - k = (F.filter fun x => decide (x ≠ q)).length + 1 by omega, List.append_assoc, List.drop_append, List.drop_of_length_le (by omega), List.nil_append, show (F.filter fun x => decide (x ≠ q)).length + 1 - (F.filter fun x => decide (x ≠ q)).length = 1 by omega]
        match L, hl with
        | x :: L, _ => rfl
      · rw [if_neg hfull, hMf]
        have hF0 : F = [] := List.eq_nil_of_length_eq_zero (by omega)
        subst hF0
        rw [List.filter_nil, List.nil_append]
        rw [List.nil_append] at hF
        unfold lastN at *
        rw [List.length_append, List.length_singleton]
        generalize hLL : M.drop (M.length - k) = L at *
        have hLk : L.length + 1 ≤ k := by
          have h9 : min k M.length = L.length := hL.symm
          have h8 : ¬ (L.length : Int) = (k : Int) := hfull
          omega
        rw [show L.length + 1 - k = 0 by omega]
        rfl
    · rw [if_neg hf]
      obtain ⟨j, hj1, hj2, hj3⟩ := ixI_is hf
      have hqL : q ∈ lastN k M := Classical.byContradiction fun e => hf (ixI_mem.2 e)
      have hpl : plI (lastN k M) q = some j := by
        unfold ixI at hj1
        cases hp : plI (lastN k M) q with
        | none =>
          rw [hp] at hj1
          have hj1 : (-1 : Int) = (j : Int) := hj1
          omega
        | some m =>
          rw [hp] at hj1
          have hj1 : (m : Int) = (j : Int) := hj1
          congr 1; omega
      have hqF : q ∉ F := fun e => f3 q e hqL
      rw [hj1, Int.toNat_natCast, witho_filter f2 hpl]
      have hMf : (M.filter fun x => decide (x ≠ q)) = F ++ (lastN k M).filter fun x => decide (x ≠ q) := by
        conv => lhs; rw [hF]
        rw [List.filter_append, filter_not hqF]
      have hLf := filter_len (q := q) f2
      rw [if_pos hqL] at hLf
      rw [hMf]
      have hdrop : ∀ (G : List Int), G.length + 1 = (lastN k M).length → (F ++ G ++ [q]).drop ((F ++ G ++ [q]).length - k) = G ++ [q] := fun G hG => by
        rw [List.length_append, List.length_append, List.length_singleton, List.append_assoc]
        by_cases hMk : k ≤ M.length
        · rw [show F.length + G.length + 1 - k = F.length by omega, List.drop_append, List.drop_length, List.nil_append, Nat.sub_self]
          rfl
        · have hF0 : F = [] := List.eq_nil_of_length_eq_zero (by omega)
          subst hF0
          rw [show ([] : List Int).length + G.length + 1 - k = 0 by simp; omega]
          rfl
      exact (hdrop _ hLf).symm
end Go.Proofs.Ytcnjkdkkflpgnaa
/- Layer 8: the numbers of ShelfMore. -/
namespace Go.Proofs.Ytcnjkdkkflpgnaa
open Go.RowKit Go.Maps
set_option linter.unusedVariables false

theorem lastN_sub {k : Nat} {M : List Int} {x : Int} (h : x ∈ lastN k M) : x ∈ lastN (k + 1) M := by
  unfold lastN at *
  have h1 : M.length - k = (M.length - (k + 1)) + (M.length - k - (M.length - (k + 1))) := by omega
  rw [h1, ← List.drop_drop] at h
  exact List.mem_of_mem_drop h
theorem svC_last {zs : List Int} {k : Nat} (hk : 1 ≤ k) {i : Nat} (hi : i < zs.length) : svC 0 (k : Int) zs (i + 1) = svC 0 (k : Int) zs i + (if atI zs i ∈ lastN k (mtE zs i) then 0 else 1) := by
  show (if ixI (svS 0 (k : Int) zs i) (atI zs i) < 0 then svC 0 (k : Int) zs i + 1 else svC 0 (k : Int) zs i) = _
  rw [recent_last hk i (by omega)]
  by_cases h : atI zs i ∈ lastN k (mtE zs i)
  · rw [if_neg (fun e => ixI_mem.1 e h), if_pos h]; omega
  · rw [if_pos (ixI_mem.2 h), if_neg h]
theorem svC_more {zs : List Int} {k : Nat} (hk : 1 ≤ k) : ∀ i, i ≤ zs.length → svC 0 ((k + 1 : Nat) : Int) zs i ≤ svC 0 (k : Int) zs i
  | 0, _ => Int.le_refl _
  | i + 1, hi => by
    have ih := svC_more (zs := zs) hk i (by omega)
    rw [svC_last hk (by omega), svC_last (by omega) (by omega)]
    by_cases h : atI zs i ∈ lastN k (mtE zs i)
    · rw [if_pos h, if_pos (lastN_sub h)]; omega
    · rw [if_neg h]; split <;> omega
theorem mtE_len {zs : List Int} (i : Nat) : (mtE zs (i + 1)).length = (mtE zs i).length + (if atI zs i ∈ mtE zs i then 0 else 1) := by
  have h := filter_len (q := atI zs i) (mtE_nodup zs i)
  show ((mtE zs i).filter (fun x => decide (x ≠ atI zs i)) ++ [atI zs i]).length = _
  rw [List.length_append, List.length_singleton]
  split at h
  · rename_i e; rw [if_pos e]; omega
  · rename_i e; rw [if_neg e]; omega
theorem mtE_mem {zs : List Int} (x : Int) : ∀ i, i ≤ zs.length → (x ∈ mtE zs i ↔ x ∈ zs.take i)
  | 0, _ => by simp [mtE]
  | i + 1, hi => by
    have ih := mtE_mem (zs := zs) x i (by omega)
    show x ∈ (mtE zs i).filter (fun x => decide (x ≠ atI zs i)) ++ [atI zs i] ↔ _
    have e1 : zs.take (i + 1) = zs.take i ++ [atI zs i] := by
      rw [List.take_add_one, List.getElem?_eq_getElem (by omega)]
      unfold atI
      rw [List.getElem?_eq_getElem (by omega)]; rfl
    rw [e1, List.mem_append, List.mem_append, List.mem_filter, ih, List.mem_singleton, decide_eq_true_iff]
    constructor
    · rintro (h | h)
      · exact .inl h.1
      · exact .inr h
    · rintro (h | h)
      · by_cases e : x = atI zs i
        · exact .inr e
        · exact .inl ⟨h, e⟩
      · exact .inr h
theorem pages_le {zs : List Int} {k : Nat} (hk : 1 ≤ k) : ∀ i, i ≤ zs.length → ((mtE zs i).length : Int) ≤ svC 0 (k : Int) zs i
  | 0, _ => Int.le_refl _
  | i + 1, hi => by
    have ih := pages_le (zs := zs) hk i (by omega)
    rw [svC_last hk (by omega), mtE_len]
    by_cases h : atI zs i ∈ mtE zs i
    · rw [if_pos h]; split <;> omega
    · rw [if_neg h, if_neg (fun e => h (by unfold lastN at e; exact List.mem_of_mem_drop e))]; omega
theorem mtE_mono {zs : List Int} {i : Nat} : ∀ d, (mtE zs i).length ≤ (mtE zs (i + d)).length
  | 0 => Nat.le_refl _
  | d + 1 => by
    have := mtE_mono (zs := zs) (i := i) d
    have h2 := mtE_len (zs := zs) (i + d)
    rw [show i + (d + 1) = i + d + 1 by omega]
    omega
theorem pages_eq {zs : List Int} {k : Nat} (hk : 1 ≤ k) (hp : (mtE zs zs.length).length ≤ k) : ∀ i, i ≤ zs.length → svC 0 (k : Int) zs i = ((mtE zs i).length : Int)
  | 0, _ => rfl
  | i + 1, hi => by
    have ih := pages_eq hk hp i (by omega)
    have hm := mtE_mono (zs := zs) (i := i) (zs.length - i)
    rw [show i + (zs.length - i) = zs.length by omega] at hm
    have hl : lastN k (mtE zs i) = mtE zs i := by unfold lastN; rw [show (mtE zs i).length - k = 0 by omega]; rfl
    rw [svC_last hk (by omega), mtE_len, hl, ih]
    split <;> omega
/-- What a run does hangs on what has been requested. -/
theorem svS_pre {zs ys : List Int} {k : Int} : ∀ i, (∀ j, j < i → atI zs j = atI ys j) → svS 0 k zs i = svS 0 k ys i ∧ svC 0 k zs i = svC 0 k ys i
  | 0, _ => ⟨rfl, rfl⟩
  | i + 1, h => by
    obtain ⟨h1, h2⟩ := svS_pre (zs := zs) (ys := ys) (k := k) i (fun j hj => h j (by omega))
    have e := h i (by omega)
    constructor
    · show svN 0 k (atI zs i) (svS 0 k zs i) (zs.drop i) = svN 0 k (atI ys i) (svS 0 k ys i) (ys.drop i)
      rw [e, h1]; rfl
    · show (if ixI (svS 0 k zs i) (atI zs i) < 0 then _ else _) = if ixI (svS 0 k ys i) (atI ys i) < 0 then _ else _
      rw [e, h1, h2]
theorem plan_pre {zs ys pl ql : List Int} {k : Int} : ∀ i, (∀ j, j < i → atI zs j = atI ys j ∧ atI pl j = atI ql j) → pF zs pl i = pF ys ql i ∧ pC zs pl i = pC ys ql i ∧ ∀ j, j < i → pOk k zs pl j = pOk k ys ql j
  | 0, _ => ⟨rfl, rfl, fun j hj => absurd hj (Nat.not_lt_zero _)⟩
  | i + 1, h => by
    obtain ⟨h1, h2, h3⟩ := plan_pre (k := k) i (fun j hj => h j (by omega))
    obtain ⟨e1, e2⟩ := h i (by omega)
    refine ⟨?_, ?_, fun j hj => ?_⟩
    · show srvS (pF zs pl i) i (atI zs i) (atI pl i) = srvS (pF ys ql i) i (atI ys i) (atI ql i)
      rw [h1, e1, e2]
    · show pC zs pl i + srvC (pF zs pl i) (atI zs i) (atI pl i) = pC ys ql i + srvC (pF ys ql i) (atI ys i) (atI ql i)
      rw [h1, h2, e1, e2]
    · rcases Nat.lt_succ_iff_lt_or_eq.1 hj with e | e
      · exact h3 j e
      · rw [e]
        show alwB (pF zs pl i) (atI zs i) k (atI pl i) = alwB (pF ys ql i) (atI ys i) k (atI ql i)
        rw [h1, e1, e2]
theorem pC_mono (zs pl : List Int) (i : Nat) : ∀ d, pC zs pl i ≤ pC zs pl (i + d)
  | 0 => Int.le_refl _
  | d + 1 => by
    have h1 := pC_mono zs pl i d
    have h2 := srvC_le (pF zs pl (i + d)) (atI zs (i + d)) (atI pl (i + d))
    show pC zs pl i ≤ pC zs pl (i + d) + srvC (pF zs pl (i + d)) (atI zs (i + d)) (atI pl (i + d))
    omega
theorem atI_take {zs : List Int} {m j : Nat} (h : j < m) : atI (zs.take m) j = atI zs j := by unfold atI; rw [List.getElem?_take_of_lt h]
/-- One request less. -/
theorem best_pre {zs : List Int} {k : Int} {m : Nat} (hk : 1 ≤ k) (hz : ∀ i, i < zs.length → 0 ≤ atI zs i ∧ atI zs i < 16) (hm : m + 1 = zs.length) :
    rC (rkBest (zs.take m)) k (zs.take m) m ≤ rC (rkBest zs) k zs zs.length ∧ rC (rkBest zs) k zs zs.length ≤ rC (rkBest (zs.take m)) k (zs.take m) m + 1 := by
  have hl : (zs.take m).length = m := by rw [List.length_take]; omega
  have hz2 : ∀ i, i < (zs.take m).length → 0 ≤ atI (zs.take m) i ∧ atI (zs.take m) i < 16 := fun i hi => by
    rw [hl] at hi
    rw [atI_take hi]; exact hz i (by omega)
  constructor
  · obtain ⟨_, a2, a3⟩ := plan_run (rkBest zs) (zs := zs) hk zs.length (Nat.le_refl _)
    generalize hpl : rP (rkBest zs) k zs zs.length = pl at *
    obtain ⟨_, b2, b3⟩ := plan_pre (zs := zs.take m) (ys := zs) (pl := pl) (ql := pl) (k := k) m (fun j hj => ⟨atI_take hj, rfl⟩)
    have h1 := best_least (pl := pl) hk hz2 (by rw [hl]; exact fun j hj => (b3 j hj).trans (a3 j (by omega)))
    rw [hl, b2] at h1
    have h2 := pC_mono zs pl m 1
    rw [hm] at h2
    omega
  · obtain ⟨a1, a2, a3⟩ := plan_run (rkBest (zs.take m)) (zs := zs.take m) hk (zs.take m).length (Nat.le_refl _)
    have hpn := rP_len (rkBest (zs.take m)) k (zs.take m) (zs.take m).length
    generalize hrk : rkBest (zs.take m) = rk at *
    generalize hpl : rP rk k (zs.take m) (zs.take m).length = pl at *
    rw [hl] at a1 a2 a3 hpn
    obtain ⟨g, hg⟩ : ∃ g, g = goneS (pF (zs.take m) pl m) k rk (atI zs m) := ⟨_, rfl⟩
    obtain ⟨b1, b2, b3⟩ := plan_pre (zs := zs) (ys := zs.take m) (pl := pl ++ [g]) (ql := pl) (k := k) m (fun j hj => ⟨(atI_take hj).symm, atI_app (by omega)⟩)
    have hgm : atI (pl ++ [g]) m = g := by have := atI_end (l := pl) (x := g); rw [hpn] at this; exact this
    have hok : ∀ j, j < zs.length → pOk k zs (pl ++ [g]) j = true := fun j hj => by
      by_cases e : j < m
      · exact (b3 j e).trans (a3 j e)
      · have e : j = m := by omega
        rw [e]
        show alwB (pF zs (pl ++ [g]) m) (atI zs m) k (atI (pl ++ [g]) m) = true
        rw [b1, hgm, hg]
        unfold alwB goneS
        cases hlk : lacksB (pF (zs.take m) pl m) (atI zs m) k
        · rw [if_neg (by decide), if_neg (by decide)]; rfl
        · rw [if_pos rfl, if_pos rfl]
          have hmm := lowS_mem (pF (zs.take m) pl m) rk (by have := (lacksB_len hlk).1; omega)
          unfold keysS at hmm
          rw [List.mem_filter] at hmm
          exact hmm.2
    have h1 := best_least (pl := pl ++ [g]) hk hz hok
    have h2 : pC zs (pl ++ [g]) (m + 1) = pC zs (pl ++ [g]) m + srvC (pF zs (pl ++ [g]) m) (atI zs m) (atI (pl ++ [g]) m) := rfl
    have h3 := srvC_le (pF zs (pl ++ [g]) m) (atI zs m) (atI (pl ++ [g]) m)
    rw [← hm] at h1 ⊢
    rw [b2, a2] at h2
    omega
/-- The faults of Recent with i + 1 places. -/
def cvA (zs : List Int) (i : Nat) : Int := svC 0 ((i + 1 : Nat) : Int) zs zs.length
theorem cvL_at {zs : List Int} (hz : ∀ i, i < zs.length → 0 ≤ atI zs i ∧ atI zs i < 16) {i n : Nat} (hi : i < n) : atI (cvL zs n) i = cvA zs i := by
  unfold cvL
  rw [atI_mapN hi]
  have := (way_same (st := 0) (rk := rkLast) (.inl ⟨rfl, rfl⟩) (k := (i : Int) + 1) (by omega) hz).1
  exact this
theorem cvA_le {zs : List Int} (i : Nat) : 0 ≤ cvA zs i ∧ cvA zs i ≤ (zs.length : Int) := svC_le 0 _ zs zs.length
/-- What ShelfMore says of a list. -/
theorem more_all {zs : List Int} (hz : ∀ i, i < zs.length → 0 ≤ atI zs i ∧ atI zs i < 16) :
    (∀ i, 0 < i → cvA zs i ≤ cvA zs (i - 1)) ∧ (∀ i, ((mtE zs zs.length).length : Int) ≤ cvA zs i) ∧ (∀ i, (mtE zs zs.length).length ≤ i + 1 → cvA zs i = ((mtE zs zs.length).length : Int)) := by
  refine ⟨fun i hi => ?_, fun i => pages_le (by omega) zs.length (Nat.le_refl _), fun i hi => pages_eq (by omega) hi zs.length (Nat.le_refl _)⟩
  unfold cvA
  rw [show i - 1 + 1 = i by omega]
  exact svC_more hi zs.length (Nat.le_refl _)
theorem cvA_pre {zs : List Int} {m : Nat} (hm : m + 1 = zs.length) (i : Nat) : cvA (zs.take m) i ≤ cvA zs i ∧ cvA zs i ≤ cvA (zs.take m) i + 1 := by
  have hl : (zs.take m).length = m := by rw [List.length_take]; omega
  unfold cvA
  rw [hl, ← hm]
  have h1 := (svS_pre (zs := zs.take m) (ys := zs) (k := ((i + 1 : Nat) : Int)) m (fun j hj => atI_take hj)).2
  rw [h1]
  show _ ≤ (if ixI (svS 0 _ zs m) (atI zs m) < 0 then svC 0 _ zs m + 1 else svC 0 _ zs m) ∧ (if ixI (svS 0 _ zs m) (atI zs m) < 0 then svC 0 _ zs m + 1 else svC 0 _ zs m) ≤ _
  split <;> omega
end Go.Proofs.Ytcnjkdkkflpgnaa
