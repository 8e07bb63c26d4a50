import Derived.Test.YtcnjkdkkflpgnaaT27
import Derived.Test.YtcnjkdkkflpgnaaT31
/- Layer 8: removing the page that is needed last is best. -/
namespace Go.Proofs.Ytcnjkdkkflpgnaa
open Go.RowKit Go.Maps
set_option linter.unusedVariables false

/-- The place of the next request for a page, or the number of requests that are left. -/
def posL : List Int → Int → Nat
  | [], _ => 0
  | p :: rs, x => if p = x then 0 else posL rs x + 1
theorem posL_ixI : ∀ (rs : List Int) (x : Int), (posL rs x : Int) = if ixI rs x < 0 then (rs.length : Int) else ixI rs x
  | [], x => rfl
  | p :: rs, x => by
    have ih := posL_ixI rs x
    rw [ixI_cons]
    unfold posL
    by_cases e : p = x
    · rw [if_pos e, if_pos e]; rfl
    · rw [if_neg e, if_neg e]
      by_cases h : ixI rs x < 0
      · rw [if_pos h] at ih ⊢
        rw [if_pos (by decide), List.length_cons]; omega
      · rw [if_neg h] at ih ⊢
        rw [if_neg (by omega)]; omega
theorem nx_pos (zs : List Int) {i : Nat} (hi : i ≤ zs.length) (x : Int) : nx zs i x = (i : Int) + (posL (zs.drop i) x : Int) := by
  rw [posL_ixI, List.length_drop]
  unfold nx
  split <;> omega
abbrev St : Type := Int → Bool
def addS (T : St) (x : Int) : St := fun u => if u = x then true else T u
def swpS (A : St) (z p : Int) : St := fun u => if u = p then true else if u = z then false else A u
/-- From this full shelf the requests can be served with at most c faults. -/
def Can : List Int → St → Nat → Prop
  | [], _, _ => True
  | p :: rs, A, c => if A p = true then Can rs A c else ∃ z c', A z = true ∧ c = c' + 1 ∧ Can rs (swpS A z p) c'
theorem Can.mono : ∀ {rs : List Int} {A : St} {c d : Nat}, Can rs A c → c ≤ d → Can rs A d
  | [], _, _, _, _, _ => trivial
  | p :: rs, A, c, d, h, hd => by
    unfold Can at h ⊢
    split
    · rename_i e
      rw [if_pos e] at h
      exact Can.mono h hd
    · rename_i e
      rw [if_neg e] at h
      obtain ⟨z, c', h1, h2, h3⟩ := h
      exact ⟨z, d - 1, h1, by omega, Can.mono h3 (by omega)⟩
theorem swp_own {T : St} {x y : Int} (hx : T x = false) (hxy : x ≠ y) : swpS (addS T x) x y = addS T y := by
  funext u
  unfold swpS addS
  by_cases e : u = y
  · rw [if_pos e, if_pos e]
  · rw [if_neg e, if_neg e]
    by_cases e2 : u = x
    · rw [if_pos e2, e2, hx]
    · rw [if_neg e2, if_neg e2]
/-- T without z, with p. -/
def subS (T : St) (z p : Int) : St := fun u => if u = p then true else if u = z then false else T u
theorem swp_oth {T : St} {x z p : Int} (hzx : z ≠ x) : swpS (addS T x) z p = addS (subS T z p) x := by
  funext u
  unfold swpS addS subS
  by_cases e : u = p
  · rw [if_pos e]; split
    · rfl
    · first | rfl | rw [if_pos e]
  · rw [if_neg e]
    by_cases e2 : u = z
    · rw [if_pos e2, if_neg (fun e3 => hzx (e2.symm.trans e3)), if_neg e, if_pos e2]
    · rw [if_neg e2]
      by_cases e3 : u = x
      · rw [if_pos e3, if_pos e3]
      · rw [if_neg e3, if_neg e3, if_neg e, if_neg e2]
theorem sub_back {T : St} {z x : Int} (hz : T z = true) (hx : T x = false) : addS (subS T z x) z = addS T x := by
  funext u
  unfold addS subS
  by_cases e : u = z
  · rw [if_pos e]
    split
    · rfl
    · rw [e, hz]
  · rw [if_neg e]
    by_cases e2 : u = x
    · rw [if_pos e2, if_pos e2]
    · rw [if_neg e2, if_neg e2, if_neg e]
theorem subS_no {T : St} {z p u : Int} (h : u ≠ p) (h2 : u = z ∨ T u = false) : subS T z p u = false := by
  unfold subS
  rw [if_neg h]
  split
  · rfl
  · rename_i e
    exact h2.resolve_left e
theorem addS_at {T : St} {x u : Int} (h : u ≠ x) : addS T x u = T u := if_neg h
theorem addS_own {T : St} {x : Int} : addS T x x = true := if_pos rfl
/-- One page instead of another costs at most one fault more. -/
theorem Can.swap1 : ∀ (rs : List Int) {T : St} {x y : Int} {c : Nat}, T x = false → T y = false → x ≠ y → Can rs (addS T y) c → Can rs (addS T x) (c + 1)
  | [], _, _, _, _, _, _, _, _ => trivial
  | p :: rs, T, x, y, c, hx, hy, hxy, h => by
    unfold Can at h ⊢
    by_cases hp : T p = true
    · have hpx : p ≠ x := fun e => by rw [e, hx] at hp; cases hp
      have hpy : p ≠ y := fun e => by rw [e, hy] at hp; cases hp
      rw [if_pos ((addS_at hpy).trans hp)] at h
      rw [if_pos ((addS_at hpx).trans hp)]
      exact Can.swap1 rs hx hy hxy h
    · have hp' : T p = false := by simpa using hp
      by_cases epy : p = y
      · subst epy
        rw [if_pos addS_own] at h
        rw [if_neg (by rw [addS_at (fun e => hxy e.symm), hp']; decide)]
        exact ⟨x, c, addS_own, rfl, by rw [swp_own hx hxy]; exact h⟩
      · rw [if_neg (by rw [addS_at epy, hp']; decide)] at h
        obtain ⟨z, c', h1, h2, h3⟩ := h
        by_cases epx : p = x
        · subst epx
          rw [if_pos addS_own]
          by_cases ezy : z = y
          · subst ezy
            rw [swp_own hy (fun e => hxy e.symm)] at h3
            exact h3.mono (by omega)
          · have hz : T z = true := (addS_at ezy).symm.trans h1
            have hzp : z ≠ p := fun e => by rw [e, hp'] at hz; cases hz
            rw [swp_oth ezy] at h3
            have := Can.swap1 rs (T := subS T z p) (x := z) (y := y) (subS_no hzp (.inl rfl)) (subS_no (fun e => hxy e.symm) (.inr hy)) ezy h3
            rw [sub_back hz hp'] at this
            exact this.mono (by omega)
        · rw [if_neg (by rw [addS_at epx, hp']; decide)]
          by_cases ezy : z = y
          · subst ezy
            rw [swp_own hy (fun e => epy e.symm)] at h3
            exact ⟨x, c' + 1, addS_own, by omega, by rw [swp_own hx (fun e => epx e.symm)]; exact h3.mono (by omega)⟩
          · have hz : T z = true := (addS_at ezy).symm.trans h1
            have hzx : z ≠ x := fun e => by rw [e, hx] at hz; cases hz
            rw [swp_oth ezy] at h3
            refine ⟨z, c' + 1, (addS_at hzx).trans hz, by omega, ?_⟩
            rw [swp_oth hzx]
            exact Can.swap1 rs (subS_no (fun e => epx e.symm) (.inr hx)) (subS_no (fun e => epy e.symm) (.inr hy)) hxy h3
/-- A page that is needed earlier instead of one that is needed later costs nothing. -/
theorem Can.swap0 : ∀ (rs : List Int) {T : St} {x y : Int} {c : Nat}, T x = false → T y = false → x ≠ y → posL rs x ≤ posL rs y → Can rs (addS T y) c → Can rs (addS T x) c
  | [], _, _, _, _, _, _, _, _, _ => trivial
  | p :: rs, T, x, y, c, hx, hy, hxy, hpos, h => by
    unfold Can at h ⊢
    unfold posL at hpos
    by_cases hp : T p = true
    · have hpx : p ≠ x := fun e => by rw [e, hx] at hp; cases hp
      have hpy : p ≠ y := fun e => by rw [e, hy] at hp; cases hp
      rw [if_neg hpx, if_neg hpy] at hpos
      rw [if_pos ((addS_at hpy).trans hp)] at h
      rw [if_pos ((addS_at hpx).trans hp)]
      exact Can.swap0 rs hx hy hxy (by omega) h
    · have hp' : T p = false := by simpa using hp
      by_cases epy : p = y
      · rw [if_pos epy, if_neg (fun e => hxy (e.symm.trans epy))] at hpos
        omega
      · rw [if_neg (by rw [addS_at epy, hp']; decide)] at h
        obtain ⟨z, c', h1, h2, h3⟩ := h
        by_cases epx : p = x
        · subst epx
          rw [if_pos addS_own]
          by_cases ezy : z = y
          · subst ezy
            rw [swp_own hy (fun e => hxy e.symm)] at h3
            exact h3.mono (by omega)
          · have hz : T z = true := (addS_at ezy).symm.trans h1
            have hzp : z ≠ p := fun e => by rw [e, hp'] at hz; cases hz
            rw [swp_oth ezy] at h3
            have := Can.swap1 rs (T := subS T z p) (x := z) (y := y) (subS_no hzp (.inl rfl)) (subS_no (fun e => hxy e.symm) (.inr hy)) ezy h3
            rw [sub_back hz hp'] at this
            exact this.mono (by omega)
        · rw [if_neg (by rw [addS_at epx, hp']; decide)]
          rw [if_neg epx, if_neg epy] at hpos
          by_cases ezy : z = y
          · subst ezy
            rw [swp_own hy (fun e => epy e.symm)] at h3
            exact ⟨x, c', addS_own, h2, by rw [swp_own hx (fun e => epx e.symm)]; exact h3⟩
          · have hz : T z = true := (addS_at ezy).symm.trans h1
            have hzx : z ≠ x := fun e => by rw [e, hx] at hz; cases hz
            rw [swp_oth ezy] at h3
            refine ⟨z, c', (addS_at hzx).trans hz, h2, ?_⟩
            rw [swp_oth hzx]
            exact Can.swap0 rs (subS_no (fun e => epx e.symm) (.inr hx)) (subS_no (fun e => epy e.symm) (.inr hy)) hxy (by omega) h3
/-- At a fault, the page that is needed last may be removed. -/
theorem Can.greedy {p : Int} {rs : List Int} {A : St} {c : Nat} {g : Int} (h : Can (p :: rs) A c) (hp : A p = false) (hg : A g = true) (hm : ∀ z, A z = true → posL (p :: rs) z ≤ posL (p :: rs) g) : ∃ c', c = c' + 1 ∧ Can rs (swpS A g p) c' := by
  unfold Can at h
  rw [if_neg (by rw [hp]; decide)] at h
  obtain ⟨z, c', h1, h2, h3⟩ := h
  refine ⟨c', h2, ?_⟩
  by_cases e : z = g
  · subst e; exact h3
  · have hzp : z ≠ p := fun e => by rw [e, hp] at h1; cases h1
    have hgp : g ≠ p := fun e => by rw [e, hp] at hg; cases hg
    have hle := hm z h1
    unfold posL at hle
    rw [if_neg (fun e => hzp e.symm), if_neg (fun e => hgp e.symm)] at hle
    -- T: A without z and g, with p
    have e1 : swpS A z p = addS (subS (subS A z p) g p) g := by
      funext u
      unfold swpS addS subS
      by_cases a : u = g <;> by_cases b : u = p <;> by_cases d : u = z <;> simp_all
    have e2 : swpS A g p = addS (subS (subS A z p) g p) z := by
      funext u
      unfold swpS addS subS
      by_cases a : u = g <;> by_cases b : u = p <;> by_cases d : u = z <;> simp_all
    rw [e1] at h3
    rw [e2]
    exact Can.swap0 rs (subS_no hzp (.inr (subS_no hzp (.inl rfl)))) (subS_no hgp (.inl rfl)) e (by omega) h3
/-- The pages on a shelf. -/
def setS (f : Int → Option Stay) : St := fun x => (f x).isSome
theorem set_put (f : Int → Option Stay) (z p : Int) (s : Stay) : setS (putS (delS f z) p s) = swpS (setS f) z p := by
  funext u
  unfold setS putS delS swpS
  by_cases e : u = p
  · rw [if_pos e, if_pos e]; rfl
  · rw [if_neg e, if_neg e]
    by_cases e2 : u = z
    · rw [if_pos e2, if_pos e2]; rfl
    · rw [if_neg e2, if_neg e2]
theorem set_hit (f : Int → Option Stay) (p : Int) (s : Stay) (h : (f p).isSome = true) : setS (putS f p s) = setS f := by
  funext u
  unfold setS putS
  by_cases e : u = p
  · rw [if_pos e, e, h]; rfl
  · rw [if_neg e]
theorem lo_run (rk : Stay → Int) (k : Int) {zs : List Int} (hz : ∀ i, i < zs.length → 0 ≤ atI zs i ∧ atI zs i < 16) : ∀ i, i ≤ zs.length → ∀ x : Int, (rF rk k zs i x).isSome = true → 0 ≤ x ∧ x < 16
  | 0, _, x, h => by cases h
  | i + 1, hi, x, h => by
    have ih := lo_run rk k hz i (by omega)
    have h : (putS (rmS (rF rk k zs i) (goneS (rF rk k zs i) k rk (atI zs i))) (atI zs i) _ x).isSome = true := h
    rw [putS_some] at h
    rcases h with e | h
    · rw [e]; exact hz i (by omega)
    · unfold rmS at h
      split at h
      · exact ih x h
      · exact ih x ((delS_some _ _ x).1 h).1
theorem keys_set {f g : Int → Option Stay} (h : setS f = setS g) : keysS f = keysS g := by
  show List.filter (setS f) _ = List.filter (setS g) _
  rw [h]
theorem lacks_full {f : Int → Option Stay} {page k : Int} (hf : ((keysS f).length : Int) = k) : lacksB f page k = !setS f page := by
  unfold lacksB setS
  rw [show (((keysS f).length : Int) == k) = true from by simp [hf], Bool.and_true]
theorem lacks_not {f : Int → Option Stay} {page k : Int} (hf : ¬ ((keysS f).length : Int) = k) : lacksB f page k = false := by
  unfold lacksB
  rw [show (((keysS f).length : Int) == k) = false from by simp [hf], Bool.and_false]
/-- Best from a full shelf on. -/
theorem best_can {zs : List Int} {k : Int} (hk : 1 ≤ k) (hz : ∀ i, i < zs.length → 0 ≤ atI zs i ∧ atI zs i < 16) : ∀ d i, i + d = zs.length → ((keysS (rF (rkBest zs) k zs i)).length : Int) = k → ∀ c, Can (zs.drop i) (setS (rF (rkBest zs) k zs i)) c → rC (rkBest zs) k zs zs.length ≤ rC (rkBest zs) k zs i + (c : Int)
  | 0, i, hi, _, c, _ => by
    rw [show i = zs.length by omega]; omega
  | d + 1, i, hi, hfull, c, h => by
    have hlt : i < zs.length := by omega
    have hB := (best_run hk hz i (by omega)).1
    have hlo := lo_run (rkBest zs) k hz i (by omega)
    rw [drop_at hlt] at h
    have hF : rF (rkBest zs) k zs (i + 1) = srvS (rF (rkBest zs) k zs i) i (atI zs i) (goneS (rF (rkBest zs) k zs i) k (rkBest zs) (atI zs i)) := rfl
    have hC : rC (rkBest zs) k zs (i + 1) = rC (rkBest zs) k zs i + srvC (rF (rkBest zs) k zs i) (atI zs i) (goneS (rF (rkBest zs) k zs i) k (rkBest zs) (atI zs i)) := rfl
    have hp := hz i hlt
    generalize hpg : atI zs i = page at *
    generalize hff : rF (rkBest zs) k zs i = f at *
    unfold goneS at hF hC
    rw [lacks_full hfull] at hF hC
    cases hs : setS f page
    · rw [hs] at hF hC
      rw [show (!false) = true from rfl, if_pos rfl] at hF hC
      have hgk := lowS_mem f (rkBest zs) (by omega)
      have hgs := (keysS_mem hlo _).1 hgk
      have hg0 := hlo _ hgs
      have hmx : ∀ z, setS f z = true → posL (page :: zs.drop (i + 1)) z ≤ posL (page :: zs.drop (i + 1)) (lowS f (rkBest zs)) := fun z hz2 => by
        have h1 := lowS_least f (rkBest zs) ((keysS_mem hlo z).2 hz2)
        rw [hB.rank (by omega) hgs, hB.rank (by omega) hz2, nx_pos zs (by omega), nx_pos zs (by omega), drop_at hlt, hpg] at h1
        omega
      obtain ⟨c', e1, h2⟩ := h.greedy hs hgs hmx
      have hr : rmS f (lowS f (rkBest zs)) = delS f (lowS f (rkBest zs)) := if_neg (by omega)
      have hno : (delS f (lowS f (rkBest zs)) page).isSome = false := by
        unfold delS
        split
        · rfl
        · exact hs
      unfold srvS at hF
      unfold srvC at hC
      rw [hr] at hF hC
      rw [hno, if_neg (by decide)] at hC
      have hset : setS (rF (rkBest zs) k zs (i + 1)) = swpS (setS f) (lowS f (rkBest zs)) page := by rw [hF, set_put]
      have hnp : page ∉ keysS f := fun e => by rw [(show setS f page = true from (keysS_mem hlo page).1 e)] at hs; cases hs
      have hlen : ((keysS (rF (rkBest zs) k zs (i + 1))).length : Int) = k := by
        rw [hF, keys_put (f := delS f (lowS f (rkBest zs))) (fun x hx => hlo x ((delS_some f _ x).1 hx).1) hp (by cases e : delS f (lowS f (rkBest zs)) page with | none => rfl | some v => rw [e] at hno; cases hno)]
        have := keys_del hlo hgs
        omega
      rw [← hset] at h2
      have := best_can hk hz d (i + 1) (by omega) hlen c' h2
      omega
    · rw [hs] at hF hC
      rw [show (!true) = false from rfl, if_neg (by decide)] at hF hC
      unfold Can at h
      rw [if_pos hs] at h
      have hr : rmS f (-1) = f := if_pos rfl
      unfold srvS at hF
      unfold srvC at hC
      rw [hr] at hF hC
      rw [show (f page).isSome = true from hs, if_pos rfl] at hC
      have hset : setS (rF (rkBest zs) k zs (i + 1)) = setS f := by rw [hF, set_hit f page _ hs]
      have hlen : ((keysS (rF (rkBest zs) k zs (i + 1))).length : Int) = k := by rw [keys_set hset]; exact hfull
      rw [← hset] at h
      have := best_can hk hz d (i + 1) (by omega) hlen c h
      omega
/-- A correct plan from a full shelf on. -/
theorem plan_can {zs pl : List Int} {k : Int} (hz : ∀ i, i < zs.length → 0 ≤ atI zs i ∧ atI zs i < 16) (hlo : ∀ i, i ≤ zs.length → ∀ x : Int, (pF zs pl i x).isSome = true → 0 ≤ x ∧ x < 16) (hok : ∀ j, j < zs.length → pOk k zs pl j = true) : ∀ d i, i + d = zs.length → ((keysS (pF zs pl i)).length : Int) = k → Can (zs.drop i) (setS (pF zs pl i)) (pC zs pl zs.length - pC zs pl i).toNat ∧ pC zs pl i ≤ pC zs pl zs.length
  | 0, i, hi, _ => by
    rw [show i = zs.length by omega, List.drop_length]
    exact ⟨trivial, Int.le_refl _⟩
  | d + 1, i, hi, hfull => by
    have hlt : i < zs.length := by omega
    have hl := hlo i (by omega)
    have hF : pF zs pl (i + 1) = srvS (pF zs pl i) i (atI zs i) (atI pl i) := rfl
    have hC : pC zs pl (i + 1) = pC zs pl i + srvC (pF zs pl i) (atI zs i) (atI pl i) := rfl
    have ho := hok i hlt
    have ih := plan_can hz hlo hok d (i + 1) (by omega)
    rw [drop_at hlt]
    have hp := hz i hlt
    unfold pOk alwB at ho
    generalize atI zs i = page at *
    generalize atI pl i = gone at *
    generalize hff : pF zs pl i = f at *
    rw [lacks_full hfull] at ho
    unfold Can
    cases hs : setS f page
    · rw [hs] at ho
      rw [show (!false) = true from rfl, if_pos rfl] at ho
      have hg0 := hl gone ho
      have hr : rmS f gone = delS f gone := if_neg (by omega)
      have hno : (delS f gone page).isSome = false := by
        unfold delS
        split
        · rfl
        · exact hs
      unfold srvS at hF
      unfold srvC at hC
      rw [hr] at hF hC
      rw [hno, if_neg (by decide)] at hC
      have hset : setS (pF zs pl (i + 1)) = swpS (setS f) gone page := by rw [hF, set_put]
      have hlen : ((keysS (pF zs pl (i + 1))).length : Int) = k := by
        rw [hF, keys_put (f := delS f gone) (fun x hx => hl x ((delS_some f _ x).1 hx).1) hp (by cases e : delS f gone page with | none => rfl | some v => rw [e] at hno; cases hno)]
        have := keys_del hl ho
        omega
      obtain ⟨h1, h2⟩ := ih hlen
      rw [hset] at h1
      refine ⟨?_, by omega⟩
      rw [if_neg (by decide)]
      exact ⟨gone, _, ho, by omega, h1⟩
    · rw [hs] at ho
      rw [show (!true) = false from rfl, if_neg (by decide)] at ho
      have hr : rmS f gone = f := if_pos (by simpa using ho)
      unfold srvS at hF
      unfold srvC at hC
      rw [hr] at hF hC
      rw [show (f page).isSome = true from hs, if_pos rfl] at hC
      have hset : setS (pF zs pl (i + 1)) = setS f := by rw [hF, set_hit f page _ hs]
      have hlen : ((keysS (pF zs pl (i + 1))).length : Int) = k := by rw [keys_set hset]; exact hfull
      obtain ⟨h1, h2⟩ := ih hlen
      rw [hset] at h1
      refine ⟨?_, by omega⟩
      rw [if_pos rfl]
      rw [show pC zs pl i = pC zs pl (i + 1) by omega]
      exact h1
theorem lo_plan {zs pl : List Int} (hz : ∀ i, i < zs.length → 0 ≤ atI zs i ∧ atI zs i < 16) : ∀ i, i ≤ zs.length → ∀ x : Int, (pF zs pl i x).isSome = true → 0 ≤ x ∧ x < 16
  | 0, _, x, h => by cases h
  | i + 1, hi, x, h => by
    have ih := lo_plan (pl := pl) hz i (by omega)
    have h : (putS (rmS (pF zs pl i) (atI pl i)) (atI zs i) _ x).isSome = true := h
    rw [putS_some] at h
    rcases h with e | h
    · rw [e]; exact hz i (by omega)
    · unfold rmS at h
      split at h
      · exact ih x h
      · exact ih x ((delS_some _ _ x).1 h).1
theorem best_le {zs pl : List Int} {k : Int} (hk : 1 ≤ k) (hz : ∀ i, i < zs.length → 0 ≤ atI zs i ∧ atI zs i < 16) (hok : ∀ j, j < zs.length → pOk k zs pl j = true) : ∀ d i, i + d = zs.length → setS (pF zs pl i) = setS (rF (rkBest zs) k zs i) → rC (rkBest zs) k zs zs.length - rC (rkBest zs) k zs i ≤ pC zs pl zs.length - pC zs pl i
  | 0, i, hi, _ => by
    rw [show i = zs.length by omega]; omega
  | d + 1, i, hi, hset => by
    have hlt : i < zs.length := by omega
    by_cases hfull : ((keysS (rF (rkBest zs) k zs i)).length : Int) = k
    · have hfp : ((keysS (pF zs pl i)).length : Int) = k := by rw [keys_set hset]; exact hfull
      obtain ⟨h1, h2⟩ := plan_can hz (lo_plan hz) hok (d + 1) i hi hfp
      rw [hset] at h1
      have := best_can hk hz (d + 1) i hi hfull _ h1
      omega
    · have hnp : ¬ ((keysS (pF zs pl i)).length : Int) = k := by rw [keys_set hset]; exact hfull
      have ho := hok i hlt
      unfold pOk alwB at ho
      rw [lacks_not hnp, if_neg (by decide)] at ho
      have hg : atI pl i = -1 := by simpa using ho
      have hg2 : goneS (rF (rkBest zs) k zs i) k (rkBest zs) (atI zs i) = -1 := by unfold goneS; rw [lacks_not hfull, if_neg (by decide)]
      have hr : ∀ f : Int → Option Stay, rmS f (-1) = f := fun f => if_pos rfl
      have hF1 : pF zs pl (i + 1) = putS (pF zs pl i) (atI zs i) (gotS (pF zs pl i) (atI zs i) i) := by
        show srvS _ i _ (atI pl i) = _
        rw [hg]; unfold srvS; rw [hr]
      have hF2 : rF (rkBest zs) k zs (i + 1) = putS (rF (rkBest zs) k zs i) (atI zs i) (gotS (rF (rkBest zs) k zs i) (atI zs i) i) := by
        show srvS _ i _ (goneS _ _ _ _) = _
        rw [hg2]; unfold srvS; rw [hr]
      have hC1 : pC zs pl (i + 1) = pC zs pl i + if setS (pF zs pl i) (atI zs i) then 0 else 1 := by
        show pC zs pl i + srvC _ _ (atI pl i) = _
        rw [hg]; unfold srvC; rw [hr]; rfl
      have hC2 : rC (rkBest zs) k zs (i + 1) = rC (rkBest zs) k zs i + if setS (rF (rkBest zs) k zs i) (atI zs i) then 0 else 1 := by
        show rC (rkBest zs) k zs i + srvC _ _ (goneS _ _ _ _) = _
        rw [hg2]; unfold srvC; rw [hr]; rfl
      have hs2 : setS (pF zs pl (i + 1)) = setS (rF (rkBest zs) k zs (i + 1)) := by
        rw [hF1, hF2]
        funext u
        have := congrFun hset u
        unfold setS putS at *
        split
        · rfl
        · exact this
      have ih := best_le hk hz hok d (i + 1) (by omega) hs2
      rw [hC1, hC2, hset] at ih
      omega
/-- No correct plan has fewer faults. -/
theorem best_least {zs pl : List Int} {k : Int} (hk : 1 ≤ k) (hz : ∀ i, i < zs.length → 0 ≤ atI zs i ∧ atI zs i < 16) (hok : ∀ j, j < zs.length → pOk k zs pl j = true) : rC (rkBest zs) k zs zs.length ≤ pC zs pl zs.length := by
  have := best_le hk hz hok zs.length 0 (by omega) rfl
  show _ ≤ _
  have h0 : rC (rkBest zs) k zs 0 = 0 := rfl
  have h1 : pC zs pl 0 = 0 := rfl
  omega
end Go.Proofs.Ytcnjkdkkflpgnaa
/- Layer 8: faults and phases; plans made of any list. -/
namespace Go.Proofs.Ytcnjkdkkflpgnaa
open Go.RowKit Go.Maps
set_option linter.unusedVariables false

theorem phT_nodup (k : Int) (zs : List Int) : ∀ i, (phT k zs i).Nodup
  | 0 => by simp [phT]
  | i + 1 => by
    have ih := phT_nodup k zs i
    unfold phT phN
    split
    · exact ih
    · rename_i hn
      refine List.nodup_append.2 ⟨?_, by simp, fun a ha b hb => by
        simp at hb; subst hb
        split at ha
        · cases ha
        · exact fun e => hn (e ▸ ha)⟩
      split
      · simp
      · exact ih
theorem phT_le {k : Int} (hk : 1 ≤ k) (zs : List Int) : ∀ i, ((phT k zs i).length : Int) ≤ k
  | 0 => by show ((0 : Nat) : Int) ≤ k; omega
  | i + 1 => by
    have ih := phT_le hk zs i
    unfold phT phN
    split
    · exact ih
    · rw [List.length_append, List.length_singleton]
      split
      · simp; omega
      · omega
theorem sub_all {T K : List Int} (hT : T.Nodup) (hK : K.Nodup) (hs : ∀ x ∈ T, x ∈ K) (hl : K.length ≤ T.length) : ∀ x ∈ K, x ∈ T := by
  have hp : List.Perm (K.filter fun x => decide (x ∈ T)) T := (List.perm_ext_iff_of_nodup (hK.filter _) hT).2 fun x => by
    rw [List.mem_filter, decide_eq_true_iff]
    exact ⟨fun h => h.2, fun h => ⟨hs x h, h⟩⟩
  have h1 := hp.length_eq
  have h2 : (K.filter fun x => decide (x ∈ T)).length = K.length := by have := List.length_filter_le (fun x => decide (x ∈ T)) K; omega
  intro x hx
  exact of_decide_eq_true (List.length_filter_eq_length_iff.1 h2 x hx)
theorem keys_le {zs pl : List Int} {k : Int} (hk : 1 ≤ k) (hz : ∀ i, i < zs.length → 0 ≤ atI zs i ∧ atI zs i < 16) (hok : ∀ j, j < zs.length → pOk k zs pl j = true) : ∀ i, i ≤ zs.length → ((keysS (pF zs pl i)).length : Int) ≤ k
  | 0, _ => by
    have : (keysS (pF zs pl 0)).length = 0 := by simp [pF, keysS]
    omega
  | i + 1, hi => by
    have ih := keys_le hk hz hok i (by omega)
    have hl := lo_plan (pl := pl) hz i (by omega)
    have hF : pF zs pl (i + 1) = srvS (pF zs pl i) i (atI zs i) (atI pl i) := rfl
    have ho := hok i (by omega)
    have hp := hz i (by omega)
    unfold pOk alwB at ho
    rw [hF]
    generalize atI zs i = page at *
    generalize atI pl i = gone at *
    generalize pF zs pl i = f at *
    unfold srvS
    cases hs : setS f page
    · by_cases hfull : ((keysS f).length : Int) = k
      · rw [lacks_full hfull, hs, show (!false) = true from rfl, if_pos rfl] at ho
        have hg0 := hl gone ho
        have hr : rmS f gone = delS f gone := if_neg (by omega)
        have hno : (delS f gone page).isSome = false := by
          unfold delS
          split
          · rfl
          · exact hs
        rw [hr, keys_put (f := delS f gone) (fun x hx => hl x ((delS_some f _ x).1 hx).1) hp (by cases e : delS f gone page with | none => rfl | some v => rw [e] at hno; cases hno)]
        have := keys_del hl ho
        omega
      · rw [lacks_not hfull, if_neg (by decide)] at ho
        have hr : rmS f gone = f := if_pos (by simpa using ho)
        rw [hr, keys_put hl hp (by cases e : f page with | none => rfl | some v => (unfold setS at hs; rw [e] at hs; cases hs))]
        omega
    · have hlk : lacksB f page k = false := by
        by_cases hfull : ((keysS f).length : Int) = k
        · rw [lacks_full hfull, hs]; rfl
        · exact lacks_not hfull
      rw [hlk, if_neg (by decide)] at ho
      have hr : rmS f gone = f := if_pos (by simpa using ho)
      rw [hr, keys_set (set_hit f page _ hs)]
      exact ih
/-- A correct plan has a fault for each phase. -/
theorem phase_faults {zs pl : List Int} {k : Int} (hk : 1 ≤ k) (hz : ∀ i, i < zs.length → 0 ≤ atI zs i ∧ atI zs i < 16) (hok : ∀ j, j < zs.length → pOk k zs pl j = true) : ∀ i, i ≤ zs.length → ((phS k zs i).length : Int) ≤ pC zs pl i ∧ (((phS k zs i).length : Int) = pC zs pl i → ∀ x ∈ phT k zs i, setS (pF zs pl i) x = true)
  | 0, _ => ⟨Int.le_refl _, fun _ x hx => by cases hx⟩
  | i + 1, hi => by
    obtain ⟨h1, h2⟩ := phase_faults hk hz hok i (by omega)
    have hl := lo_plan (pl := pl) hz i (by omega)
    have hkl := keys_le hk hz hok i (by omega)
    have hnd := phT_nodup k zs i
    have hF : pF zs pl (i + 1) = srvS (pF zs pl i) i (atI zs i) (atI pl i) := rfl
    have hC : pC zs pl (i + 1) = pC zs pl i + srvC (pF zs pl i) (atI zs i) (atI pl i) := rfl
    have hT : phT k zs (i + 1) = phN k i (atI zs i) (phT k zs i) := rfl
    have hS : phS k zs (i + 1) = if atI zs i ∉ phT k zs i ∧ (i = 0 ∨ ((phT k zs i).length : Int) = k) then phS k zs i ++ [(i : Int)] else phS k zs i := rfl
    have h0 : i = 0 → pC zs pl i = 0 ∧ phS k zs i = [] ∧ (∀ x, setS (pF zs pl i) x = false) := fun e => by subst e; exact ⟨rfl, rfl, fun x => rfl⟩
    have ho := hok i (by omega)
    unfold pOk alwB at ho
    unfold phN at hT
    have hcost : srvC (pF zs pl i) (atI zs i) (atI pl i) = (if setS (pF zs pl i) (atI zs i) = true then 0 else 1) ∧ setS (pF zs pl (i + 1)) (atI zs i) = true ∧ (setS (pF zs pl i) (atI zs i) = true → setS (pF zs pl (i + 1)) = setS (pF zs pl i)) := by
      rw [hF]
      generalize atI zs i = page at *
      generalize atI pl i = gone at *
      generalize pF zs pl i = f at *
      unfold srvC srvS
      refine ⟨?_, by unfold setS putS; rw [if_pos rfl]; rfl, fun hs => ?_⟩
      · cases hs : setS f page
        · have : (rmS f gone page).isSome = false := by
            unfold rmS
            split
            · exact hs
            · unfold delS; split
              · rfl
              · exact hs
          rw [this]
        · have hlk : lacksB f page k = false := by
            by_cases hfull : ((keysS f).length : Int) = k
            · rw [lacks_full hfull, hs]; rfl
            · exact lacks_not hfull
          rw [hlk, if_neg (by decide)] at ho
          have hr : rmS f gone = f := if_pos (by simpa using ho)
          rw [hr]
          rw [show (f page).isSome = true from hs]
      · have hlk : lacksB f page k = false := by
          by_cases hfull : ((keysS f).length : Int) = k
          · rw [lacks_full hfull, hs]; rfl
          · exact lacks_not hfull
        rw [hlk, if_neg (by decide)] at ho
        have hr : rmS f gone = f := if_pos (by simpa using ho)
        rw [hr, set_hit f page _ hs]
    obtain ⟨c1, c2, c3⟩ := hcost
    rw [hC, c1]
    by_cases hin : atI zs i ∈ phT k zs i
    · rw [if_pos hin] at hT
      rw [if_neg (fun e => e.1 hin)] at hS
      rw [hS, hT]
      cases hs : setS (pF zs pl i) (atI zs i)
      · rw [if_neg (by decide)]
        exact ⟨by omega, fun e => by omega⟩
      · rw [if_pos rfl, c3 hs]
        exact ⟨by omega, fun e => h2 (by omega)⟩
    · rw [if_neg hin] at hT
      by_cases hnew : i = 0 ∨ ((phT k zs i).length : Int) = k
      · rw [if_pos hnew] at hT
        rw [if_pos ⟨hin, hnew⟩] at hS
        rw [hS, hT, List.length_append, List.length_singleton]
        have hone : ∀ x ∈ ([] ++ [atI zs i] : List Int), setS (pF zs pl (i + 1)) x = true := fun x hx => by
          rw [List.nil_append, List.mem_singleton] at hx
          rw [hx]; exact c2
        refine ⟨?_, fun _ => hone⟩
        by_cases heq : ((phS k zs i).length : Int) = pC zs pl i
        · have hmiss : setS (pF zs pl i) (atI zs i) = false := by
            rcases hnew with e | e
            · exact (h0 e).2.2 _
            · cases hs : setS (pF zs pl i) (atI zs i)
              · rfl
              · exact absurd (sub_all hnd (keysS_nodup _) (fun x hx => (keysS_mem hl x).2 (h2 heq x hx)) (by omega) _ ((keysS_mem hl _).2 hs)) hin
          rw [hmiss, if_neg (by decide)]
          omega
        · split <;> omega
      · rw [if_neg hnew] at hT
        rw [if_neg (fun e => hnew e.2)] at hS
        rw [hS, hT]
        cases hs : setS (pF zs pl i) (atI zs i)
        · rw [if_neg (by decide)]
          exact ⟨by omega, fun e => by omega⟩
        · rw [if_pos rfl]
          refine ⟨by omega, fun e x hx => ?_⟩
          rw [c3 hs]
          rw [List.mem_append, List.mem_singleton] at hx
          rcases hx with hx | rfl
          · exact h2 (by omega) x hx
          · exact hs
theorem witho_filter : ∀ {S : List Int} {q : Int} {j : Nat}, S.Nodup → plI S q = some j → witho S j = S.filter fun x => decide (x ≠ q)
  | [], q, j, _, h => by cases h
  | s :: S, q, j, hn, h => by
    rw [List.nodup_cons] at hn
    have h : (if s = q then some 0 else (plI S q).map (· + 1)) = some j := h
    by_cases e : s = q
    · rw [if_pos e] at h
      have h := Option.some.inj h
      subst h e
      have : S.filter (fun x => decide (x ≠ s)) = S := List.filter_eq_self.2 fun x hx => decide_eq_true fun e => hn.1 (e ▸ hx)
      rw [List.filter_cons, if_neg (by simp), this]
      rfl
    · rw [if_neg e] at h
      cases hp : plI S q with
      | none => rw [hp] at h; cases h
      | some m =>
        rw [hp] at h
        have h := Option.some.inj h
        subst h
        have ih := witho_filter hn.2 hp
        rw [List.filter_cons, if_pos (by simp [e]), ← ih]
        rfl
/-- Recent has at most k faults in each phase. -/
theorem recent_phases {zs : List Int} {k : Int} (hk : 1 ≤ k) (hz : ∀ i, i < zs.length → 0 ≤ atI zs i ∧ atI zs i < 16) : ∀ i, i ≤ zs.length → (svS 0 k zs i).Nodup ∧ ((svS 0 k zs i).length : Int) ≤ k ∧ (∃ S1 S2, svS 0 k zs i = S1 ++ S2 ∧ S2.length = (phT k zs i).length ∧ ∀ x, x ∈ S2 ↔ x ∈ phT k zs i) ∧ (1 ≤ i → 1 ≤ (phS k zs i).length ∧ svC 0 k zs i ≤ k * ((phS k zs i).length - 1 : Int) + ((phT k zs i).length : Int)) ∧ (i = 0 → svC 0 k zs i = 0)
  | 0, _ => ⟨by simp [svS], by simp [svS]; omega, ⟨[], [], rfl, rfl, fun x => Iff.rfl⟩, fun h => by omega, fun _ => rfl⟩
  | i + 1, hi => by
    obtain ⟨hnd, hle, ⟨S1, S2, e1, e2, e3⟩, hb, hb0⟩ := recent_phases hk hz i (by omega)
    have hTn := phT_nodup k zs i
    have hTk := phT_le hk zs i
    have hS : svS 0 k zs (i + 1) = svN 0 k (atI zs i) (svS 0 k zs i) (zs.drop i) := rfl
    have hC : svC 0 k zs (i + 1) = if ixI (svS 0 k zs i) (atI zs i) < 0 then svC 0 k zs i + 1 else svC 0 k zs i := rfl
    have hT : phT k zs (i + 1) = phN k i (atI zs i) (phT k zs i) := rfl
    have hP : phS k zs (i + 1) = if atI zs i ∉ phT k zs i ∧ (i = 0 ∨ ((phT k zs i).length : Int) = k) then phS k zs i ++ [(i : Int)] else phS k zs i := rfl
    unfold svN at hS
    rw [show svO 0 (svS 0 k zs i) (zs.drop i) = 0 from rfl, if_pos rfl] at hS
    unfold phN at hT
    have hT0 : i = 0 → phT k zs i = [] ∧ phS k zs i = [] ∧ svC 0 k zs i = 0 := fun e => by subst e; exact ⟨rfl, rfl, rfl⟩
    generalize atI zs i = q at *
    generalize svS 0 k zs i = S at *
    generalize phT k zs i = T at *
    generalize svC 0 k zs i = C at *
    generalize phS k zs i = P at *
    -- the new list: what was there without q (or without the first), then q
    have hnew : ∃ R, svS 0 k zs (i + 1) = R ++ [q] ∧ (R ++ [q]).Nodup ∧ ((R ++ [q]).length : Int) ≤ k ∧ (q ∉ T → (T.length : Int) < k → ∃ R1, R = R1 ++ S2) ∧ (q ∈ T → ∃ R1, R = R1 ++ S2.filter fun x => decide (x ≠ q)) := by
      by_cases hf : ixI S q < 0
      · rw [if_pos hf] at hS
        have hqS := ixI_mem.1 hf
        have hqT : q ∉ T := fun e => hqS (by rw [e1]; exact List.mem_append_right _ ((e3 q).2 e))
        by_cases hfull : (S.length : Int) = k
        · rw [if_pos hfull] at hS
          have hl : 0 < S.length := by omega
          refine ⟨witho S 0, hS, ?_, ?_, fun _ hlt => ?_, fun e => absurd e hqT⟩
          · exact List.nodup_append.2 ⟨witho_nodup hl hnd, by simp, fun a ha b hb' => by simp at hb'; subst hb'; exact fun e => hqS (e ▸ ((witho_mem hl hnd a).1 ha).1)⟩
          · rw [List.length_append, List.length_singleton, witho_len rfl hl]; omega
          · rw [e1]
            match S1, e1 with
            | [], e1 => rw [List.nil_append] at e1; rw [e1, e2] at hfull; omega
            | s :: S1, e1 => exact ⟨S1, rfl⟩
        · rw [if_neg hfull] at hS
          refine ⟨S, hS, ?_, ?_, fun _ _ => ⟨S1, e1⟩, fun e => absurd e hqT⟩
          · exact List.nodup_append.2 ⟨hnd, by simp, fun a ha b hb' => by simp at hb'; subst hb'; exact fun e => hqS (e ▸ ha)⟩
          · rw [List.length_append, List.length_singleton]; omega
      · rw [if_neg hf] at hS
        obtain ⟨j, hj1, hj2, hj3⟩ := ixI_is hf
        have hpl : plI S q = some j := by
          unfold ixI at hj1
          cases hp : plI S q with
          | none =>
            rw [hp] at hj1
            have hj1 : (-1 : Int) = (j : Int) := hj1
            omega
          | some m =>
            rw [hp] at hj1
            congr 1
            have hj1 : (m : Int) = (j : Int) := hj1
            omega
        rw [hj1, Int.toNat_natCast, witho_filter hnd hpl] at hS
        have hw := witho_len (zs := S) rfl hj2
        rw [witho_filter hnd hpl] at hw
        refine ⟨_, hS, ?_, ?_, fun hqT _ => ?_, fun _ => ?_⟩
        · exact List.nodup_append.2 ⟨hnd.filter _, by simp, fun a ha b hb' => by simp at hb'; subst hb'; exact fun e => by rw [e, List.mem_filter] at ha; simp at ha⟩
        · rw [List.length_append, List.length_singleton, hw]; omega
        · rw [e1, List.filter_append]
          refine ⟨S1.filter fun x => decide (x ≠ q), ?_⟩
          rw [show S2.filter (fun x => decide (x ≠ q)) = S2 from List.filter_eq_self.2 fun x hx => decide_eq_true fun e => hqT ((e3 q).1 (e ▸ hx))]
        · rw [e1, List.filter_append]
          exact ⟨_, rfl⟩
    obtain ⟨R, r1, r2, r3, r4, r5⟩ := hnew
    have hS2n : S2.Nodup := by rw [e1] at hnd; exact (List.nodup_append.1 hnd).2.1
    refine ⟨by rw [r1]; exact r2, by rw [r1]; exact r3, ?_, fun _ => ?_, fun e => by omega⟩
    · rw [r1]
      by_cases hqT : q ∈ T
      · rw [if_pos hqT] at hT
        obtain ⟨R1, hR1⟩ := r5 hqT
        rw [hT]
        have hmem : ∀ x, x ∈ (S2.filter (fun x => decide (x ≠ q)) ++ [q]) ↔ x ∈ T := fun x => by
          rw [List.mem_append, List.mem_singleton, List.mem_filter, e3, decide_eq_true_iff]
          constructor
          · rintro (h | h)
            · exact h.1
            · rw [h]; exact hqT
          · intro h
            by_cases hx : x = q
            · exact .inr hx
            · exact .inl ⟨h, hx⟩
        refine ⟨R1, S2.filter (fun x => decide (x ≠ q)) ++ [q], by rw [hR1, List.append_assoc], ?_, hmem⟩
        have hpm : List.Perm (S2.filter (fun x => decide (x ≠ q)) ++ [q]) T := (List.perm_ext_iff_of_nodup (by
          exact List.nodup_append.2 ⟨hS2n.filter _, by simp, fun a ha b hb' => by simp at hb'; subst hb'; exact fun e => by rw [e, List.mem_filter] at ha; simp at ha⟩) hTn).2 hmem
        exact hpm.length_eq
      · rw [if_neg hqT] at hT
        by_cases hc : i = 0 ∨ (T.length : Int) = k
        · rw [if_pos hc] at hT
          rw [hT]
          exact ⟨R, [q], rfl, rfl, fun x => Iff.rfl⟩
        · rw [if_neg hc] at hT
          rw [hT]
          obtain ⟨R1, hR1⟩ := r4 hqT (by omega)
          refine ⟨R1, S2 ++ [q], by rw [hR1, List.append_assoc], by rw [List.length_append, List.length_append, e2], fun x => ?_⟩
          rw [List.mem_append, List.mem_append, e3]
    · have hCle : svC 0 k zs (i + 1) ≤ C + 1 ∧ (q ∈ T → svC 0 k zs (i + 1) = C) := by
        rw [hC]
        split
        · rename_i hf
          exact ⟨Int.le_refl _, fun e => absurd (by rw [e1]; exact List.mem_append_right _ ((e3 q).2 e)) (ixI_mem.1 hf)⟩
        · exact ⟨by omega, fun _ => rfl⟩
      by_cases hqT : q ∈ T
      · have hi1 : 1 ≤ i := by
          rcases Nat.eq_zero_or_pos i with e | e
          · rw [(hT0 e).1] at hqT; cases hqT
          · exact e
        rw [if_pos hqT] at hT
        rw [if_neg (fun e => e.1 hqT)] at hP
        rw [hT, hP, hCle.2 hqT]
        exact hb hi1
      · rw [if_neg hqT] at hT
        by_cases hc : i = 0 ∨ (T.length : Int) = k
        · rw [if_pos hc] at hT
          rw [if_pos ⟨hqT, hc⟩] at hP
          rw [hT, hP, List.length_append, List.length_singleton, List.nil_append, List.length_singleton]
          refine ⟨by omega, ?_⟩
          rcases Nat.eq_zero_or_pos i with e | e
          · obtain ⟨_, p0, c0⟩ := hT0 e
            rw [p0]
            simp
            omega
          · obtain ⟨b1, b2⟩ := hb e
            have hkT : (T.length : Int) = k := hc.resolve_left (by omega)
            have h5 : k * (((P.length + 1 : Nat) : Int) - 1) = k * ((P.length : Int) - 1) + k := by
              rw [show (((P.length + 1 : Nat) : Int) - 1) = ((P.length : Int) - 1) + 1 by omega, Int.mul_add, Int.mul_one]
            rw [h5]
            omega
        · rw [if_neg hc] at hT
          rw [if_neg (fun e => hc e.2)] at hP
          rw [hT, hP, List.length_append, List.length_singleton]
          obtain ⟨b1, b2⟩ := hb (by omega)
          exact ⟨b1, by omega⟩
theorem recent_le {zs : List Int} {k : Int} (hk : 1 ≤ k) (hz : ∀ i, i < zs.length → 0 ≤ atI zs i ∧ atI zs i < 16) : svC 0 k zs zs.length ≤ k * ((phS k zs zs.length).length : Int) := by
  obtain ⟨_, _, _, h4, h5⟩ := recent_phases hk hz zs.length (Nat.le_refl _)
  have hT := phT_le hk zs zs.length
  rcases Nat.eq_zero_or_pos zs.length with e | e
  · rw [h5 e]
    exact Int.mul_nonneg (by omega) (by omega)
  · obtain ⟨b1, b2⟩ := h4 e
    have h6 : k * ((phS k zs zs.length).length : Int) = k * (((phS k zs zs.length).length : Int) - 1) + k := by
      rw [Int.mul_sub, Int.mul_one]; omega
    omega
end Go.Proofs.Ytcnjkdkkflpgnaa
