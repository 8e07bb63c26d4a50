import Derived.Test.YtcnjkdkkflpgnaaT25
import Derived.Test.YtcnjkdkkflpgnaaT23
import Derived.Test.YtcnjkdkkflpgnaaT12
/- Layer 8: run and Serve do the same (Recent, First). -/
namespace Go.Proofs.Ytcnjkdkkflpgnaa
open Go.RowKit Go.Maps
set_option linter.unusedVariables false

theorem cmpI_neg {a b : Int} : cmpI a b < 0 ↔ a < b := by
  unfold cmpI
  split
  · omega
  · split <;> omega
theorem minZ_least (r : Int → Int) (cf : Int → Int → Int) (hc : ∀ x y, cf x y < 0 ↔ r x < r y) (zs : List Int) : ∀ t j, j ≤ t → r (minZ cf zs t) ≤ r (atI zs j)
  | 0, j, h => by
    obtain rfl : j = 0 := by omega
    exact Int.le_refl _
  | t + 1, j, h => by
    unfold minZ
    split
    · rename_i hlt
      have h1 := (hc _ _).1 hlt
      by_cases e : j = t + 1
      · rw [e]; exact Int.le_refl _
      · have := minZ_least r cf hc zs t j (by omega)
        omega
    · rename_i hlt
      have h1 : ¬ r (atI zs (t + 1)) < r (minZ cf zs t) := fun e => hlt ((hc _ _).2 e)
      by_cases e : j = t + 1
      · rw [e]; omega
      · exact minZ_least r cf hc zs t j (by omega)
/-- A page's time on the shelf. -/
def stay (f : Int → Option Stay) (x : Int) : Stay := (f x).getD (0, 0)
theorem lowS_least (f : Int → Option Stay) (rk : Stay → Int) {y : Int} (h : y ∈ keysS f) : rk (stay f (lowS f rk)) ≤ rk (stay f y) := by
  obtain ⟨j, hj, e⟩ := List.getElem_of_mem h
  have := minZ_least (fun x => rk (stay f x)) (cmpS f rk) (fun x y => cmpI_neg) (keysS f) ((keysS f).length - 1) j (by omega)
  rw [show atI (keysS f) j = y from by unfold atI; rw [List.getElem?_eq_getElem hj]; exact e] at this
  exact this
theorem Sim.key {f : Int → Option Stay} {S : List Int} (h : Sim f S) (x : Int) : x ∈ keysS f ↔ x ∈ S := (keysS_mem (f := f) (fun x hx => h.lo x ((h.mem x).1 hx)) x).trans (h.mem x)
theorem atI_mem {S : List Int} {q : Nat} (hq : q < S.length) : atI S q ∈ S := by
  unfold atI
  rw [List.getElem?_eq_getElem hq]
  exact List.getElem_mem hq
/-- The list is in the order of the ranks. -/
structure Ord (rk : Stay → Int) (i : Nat) (f : Int → Option Stay) (S : List Int) : Prop where
  sim : Sim f S
  ord : S.Pairwise (fun x y => rk (stay f x) < rk (stay f y))
  old : ∀ x st, f x = some st → st.1 < i ∧ st.2 < i
theorem Ord.low {rk : Stay → Int} {i : Nat} {f : Int → Option Stay} {S : List Int} (h : Ord rk i f S) (h0 : 0 < S.length) : lowS f rk = atI S 0 := by
  have hk : lowS f rk ∈ S := (h.sim.key _).1 (lowS_mem f rk (by rw [h.sim.len]; omega))
  have h1 := lowS_least f rk ((h.sim.key _).2 (atI_mem h0))
  match S, h0, h, hk, h1 with
  | s :: S, _, h, hk, h1 =>
    have hp := h.ord
    rw [List.pairwise_cons] at hp
    have e0 : atI (s :: S) 0 = s := rfl
    rw [e0] at h1 ⊢
    rcases List.mem_cons.1 hk with e | e
    · exact e
    · have := hp.1 _ e
      omega
theorem witho_sub (S : List Int) (q : Nat) : List.Sublist (witho S q) S := by
  unfold witho
  have h1 : List.Sublist (S.drop (q + 1)) (S.drop q) := by
    rw [← List.drop_drop]
    exact List.drop_sublist _ _
  have h2 := (List.Sublist.refl (S.take q)).append h1
  rwa [List.take_append_drop] at h2
/-- A page is put at the end. -/
theorem Ord.put {rk : Stay → Int} {i : Nat} {f : Int → Option Stay} {S : List Int} (h : Ord rk i f S) {page : Int} (hp : 0 ≤ page ∧ page < 16) (hn : page ∉ S) (st : Stay) (hs : st.1 ≤ i ∧ st.2 ≤ i) (hr : ∀ x ∈ S, rk (stay f x) < rk st) : Ord rk (i + 1) (putS f page st) (S ++ [page]) := by
  have hst : ∀ x, x ≠ page → stay (putS f page st) x = stay f x := fun x hx => by unfold stay putS; rw [if_neg hx]
  have hsp : stay (putS f page st) page = st := by unfold stay putS; rw [if_pos rfl]; rfl
  refine ⟨⟨fun x => ?_, ?_, fun x hx => ?_⟩, ?_, fun x s2 e => ?_⟩
  · rw [putS_some, h.sim.mem, List.mem_append, List.mem_singleton, Or.comm]
  · exact List.nodup_append.2 ⟨h.sim.nd, by simp, fun a ha b hb' => by simp at hb'; subst hb'; exact fun e => hn (e ▸ ha)⟩
  · rw [List.mem_append, List.mem_singleton] at hx
    rcases hx with hx | rfl
    · exact h.sim.lo x hx
    · exact hp
  · refine List.pairwise_append.2 ⟨?_, by simp, fun x hx y hy => ?_⟩
    · refine List.Pairwise.imp_of_mem (fun {a b} ha hb hab => ?_) h.ord
      rw [hst a (fun e => hn (e ▸ ha)), hst b (fun e => hn (e ▸ hb))]
      exact hab
    · rw [List.mem_singleton] at hy
      subst hy
      rw [hst x (fun e => hn (e ▸ hx)), hsp]
      exact hr x hx
  · unfold putS at e
    split at e
    · have e := Option.some.inj e; subst e; omega
    · have := h.old x s2 e; omega
theorem Ord.cut {rk : Stay → Int} {i : Nat} {f : Int → Option Stay} {S : List Int} (h : Ord rk i f S) {q : Nat} (hq : q < S.length) : Ord rk i (delS f (atI S q)) (witho S q) := by
  have hm := witho_mem hq h.sim.nd
  refine ⟨⟨fun x => ?_, witho_nodup hq h.sim.nd, fun x hx => h.sim.lo x ((hm x).1 hx).1⟩, ?_, fun x s2 e => ?_⟩
  · rw [delS_some, h.sim.mem, hm]
  · refine List.Pairwise.imp_of_mem (fun {a b} ha hb hab => ?_) (h.ord.sublist (witho_sub S q))
    have h1 : ∀ x ∈ witho S q, stay (delS f (atI S q)) x = stay f x := fun x hx => by unfold stay delS; rw [if_neg ((hm x).1 hx).2]
    rw [h1 a ha, h1 b hb]
    exact hab
  · unfold delS at e
    split at e
    · cases e
    · exact h.old x s2 e
/-- Recent and First. -/
def Way (st : Nat) (rk : Stay → Int) : Prop := (st = 0 ∧ rk = rkLast) ∨ (st = 1 ∧ rk = rkSince)
theorem Ord.step {st : Nat} {rk : Stay → Int} {i : Nat} {f : Int → Option Stay} {S : List Int} (hw : Way st rk) (h : Ord rk i f S) {page k : Int} (hp : 0 ≤ page ∧ page < 16) (hk : 1 ≤ k) (rs : List Int) :
    Ord rk (i + 1) (srvS f i page (goneS f k rk page)) (svN st k page S rs) ∧ srvC f page (goneS f k rk page) = (if ixI S page < 0 then 1 else 0) ∧ goneS f k rk page = svE st k page S rs := by
  have hO : svO st S rs = 0 := by
    unfold svO
    rcases hw with ⟨rfl, _⟩ | ⟨rfl, _⟩ <;> rfl
  have hii : rk (i, i) = (i : Int) := by rcases hw with ⟨_, rfl⟩ | ⟨_, rfl⟩ <;> rfl
  have hri : ∀ T : List Int, ∀ g : Int → Option Stay, Ord rk i g T → ∀ x ∈ T, rk (stay g x) < (i : Int) := fun T g hg x hx => by
    obtain ⟨s2, hs2⟩ := Option.isSome_iff_exists.1 ((hg.sim.mem x).2 hx)
    have := hg.old x s2 hs2
    unfold stay
    rw [hs2]
    rcases hw with ⟨_, rfl⟩ | ⟨_, rfl⟩
    · show (s2.2 : Int) < i; omega
    · show (s2.1 : Int) < i; omega
  have hadd : ∀ T : List Int, ∀ g : Int → Option Stay, Ord rk i g T → page ∉ T → Ord rk (i + 1) (putS g page (gotS g page i)) (T ++ [page]) ∧ g page = none := fun T g hg hn => by
    have hno : g page = none := by
      cases e : g page with
      | none => rfl
      | some s2 => exact absurd ((hg.sim.mem page).1 (by rw [e]; rfl)) hn
    have : gotS g page i = (i, i) := by unfold gotS; rw [hno]
    rw [this]
    exact ⟨hg.put hp hn (i, i) ⟨Nat.le_refl _, Nat.le_refl _⟩ (fun x hx => by rw [hii]; exact hri T g hg x hx), hno⟩
  unfold goneS svN svE
  rw [h.sim.lacks, hO]
  by_cases hf : ixI S page < 0
  · rw [if_pos hf, if_pos hf]
    have hpn : page ∉ S := ixI_mem.1 hf
    by_cases hfull : (S.length : Int) = k
    · rw [decide_eq_true (And.intro hf hfull), if_pos rfl, if_pos hfull, if_pos (And.intro hf hfull)]
      have hl : 0 < S.length := by omega
      rw [h.low hl]
      have hg0 := h.sim.lo _ (atI_mem hl)
      have hr : rmS f (atI S 0) = delS f (atI S 0) := if_neg (by omega)
      unfold srvS srvC
      rw [hr]
      have hnp : page ∉ witho S 0 := fun e => hpn ((witho_mem hl h.sim.nd page).1 e).1
      obtain ⟨h1, h2⟩ := hadd _ _ (h.cut hl) hnp
      refine ⟨h1, ?_, rfl⟩
      rw [h2]; rfl
    · rw [decide_eq_false (fun e => hfull e.2), if_neg (by decide), if_neg hfull, if_neg (fun e => hfull e.2)]
      have hr : rmS f (-1) = f := if_pos rfl
      unfold srvS srvC
      rw [hr]
      obtain ⟨h1, h2⟩ := hadd _ _ h hpn
      refine ⟨h1, ?_, rfl⟩
      rw [h2]; rfl
  · rw [if_neg hf, if_neg hf, decide_eq_false (fun e => hf e.1), if_neg (by decide), if_neg (show ¬ (ixI S page < 0 ∧ (S.length : Int) = k) from fun e => hf e.1)]
    have hr : rmS f (-1) = f := if_pos rfl
    unfold srvS srvC
    rw [hr]
    have hin : page ∈ S := Classical.byContradiction fun e => hf (ixI_mem.2 e)
    obtain ⟨s2, hs2⟩ := Option.isSome_iff_exists.1 ((h.sim.mem page).2 hin)
    have hgot : gotS f page i = (s2.1, i) := by unfold gotS; rw [hs2]
    have hold := h.old page s2 hs2
    rw [hgot]
    refine ⟨?_, by rw [hs2]; rfl, rfl⟩
    rcases hw with ⟨rfl, rfl⟩ | ⟨rfl, rfl⟩
    · rw [if_pos rfl]
      obtain ⟨q, e1, e2, e3⟩ := ixI_is hf
      rw [e1, Int.toNat_natCast]
      have hc := h.cut e2
      rw [e3] at hc
      have hnp : page ∉ witho S q := fun e => ((witho_mem e2 h.sim.nd page).1 e).2 e3.symm
      have h1 := hc.put hp hnp (s2.1, i) ⟨by show s2.1 ≤ i; omega, Nat.le_refl _⟩ (fun x hx => hri _ _ hc x hx)
      have h2 : putS (delS f page) page (s2.1, i) = putS f page (s2.1, i) := by
        funext y
        unfold putS delS
        split <;> rfl
      rw [h2] at h1
      exact h1
    · rw [if_neg (by decide)]
      refine ⟨⟨fun x => ?_, h.sim.nd, h.sim.lo⟩, ?_, fun x s3 e => ?_⟩
      · rw [putS_some, h.sim.mem]
        exact ⟨fun e => e.elim (fun e => e ▸ hin) id, .inr⟩
      · have h1 : ∀ x, rkSince (stay (putS f page (s2.1, i)) x) = rkSince (stay f x) := fun x => by
          unfold stay putS
          split
          · rename_i e; subst e; rw [hs2]; rfl
          · rfl
        exact h.ord.imp (fun {a b} hab => by rw [h1 a, h1 b]; exact hab)
      · unfold putS at e
        split at e
        · have e := Option.some.inj e; subst e; exact ⟨by show s2.1 < i + 1; omega, Nat.lt_succ_self _⟩
        · have := h.old x s3 e; omega
theorem way_run {st : Nat} {rk : Stay → Int} (hw : Way st rk) {zs : List Int} {k : Int} (hk : 1 ≤ k) (hz : ∀ i, i < zs.length → 0 ≤ atI zs i ∧ atI zs i < 16) : ∀ i, i ≤ zs.length → Ord rk i (rF rk k zs i) (svS st k zs i) ∧ rC rk k zs i = svC st k zs i ∧ ∀ j, j < i → rG rk k zs j = svG st k zs j
  | 0, _ => ⟨⟨Sim.none, List.Pairwise.nil, fun x st e => by cases e⟩, rfl, fun j hj => absurd hj (Nat.not_lt_zero _)⟩
  | i + 1, hi => by
    obtain ⟨h1, h2, h3⟩ := way_run hw hk hz i (by omega)
    obtain ⟨h4, h5, h6⟩ := h1.step hw (hz i (by omega)) hk (zs.drop i)
    refine ⟨h4, ?_, fun j hj => ?_⟩
    · show rC rk k zs i + srvC (rF rk k zs i) (atI zs i) (goneS (rF rk k zs i) k rk (atI zs i)) = if ixI (svS st k zs i) (atI zs i) < 0 then svC st k zs i + 1 else svC st k zs i
      rw [h5, h2]
      split <;> omega
    · rcases Nat.lt_succ_iff_lt_or_eq.1 hj with e | e
      · exact h3 j e
      · rw [e]; exact h6
theorem way_same {st : Nat} {rk : Stay → Int} (hw : Way st rk) {zs : List Int} {k : Int} (hk : 1 ≤ k) (hz : ∀ i, i < zs.length → 0 ≤ atI zs i ∧ atI zs i < 16) : rC rk k zs zs.length = svC st k zs zs.length ∧ rP rk k zs zs.length = svP st k zs zs.length := by
  obtain ⟨_, h2, h3⟩ := way_run hw hk hz zs.length (Nat.le_refl _)
  refine ⟨h2, ?_⟩
  unfold rP svP
  exact List.map_congr_left (fun j hj => h3 j (List.mem_range.1 hj))
end Go.Proofs.Ytcnjkdkkflpgnaa
/- Layer 8: Best has as few faults as the reference's Last, and its plan is correct. -/
namespace Go.Proofs.Ytcnjkdkkflpgnaa
open Go.RowKit Go.Maps
set_option linter.unusedVariables false

theorem ixI_cons (z : Int) (zs : List Int) (x : Int) : ixI (z :: zs) x = if z = x then 0 else if ixI zs x < 0 then -1 else ixI zs x + 1 := by
  have h : plI (z :: zs) x = if z = x then some 0 else (plI zs x).map (· + 1) := rfl
  by_cases e : z = x
  · rw [if_pos e] at h ⊢
    unfold ixI
    rw [h]; rfl
  · rw [if_neg e] at h ⊢
    unfold ixI
    rw [h]
    cases plI zs x with
    | none => rfl
    | some q =>
      show ((q + 1 : Nat) : Int) = if ((q : Nat) : Int) < 0 then -1 else (q : Int) + 1
      rw [if_neg (by omega)]; omega
/-- The position of the first request for the page at i or behind, or the number of requests. -/
def nx (zs : List Int) (i : Nat) (x : Int) : Int := if ixI (zs.drop i) x < 0 then (zs.length : Int) else (i : Int) + ixI (zs.drop i) x
theorem drop_at {zs : List Int} {i : Nat} (hi : i < zs.length) : zs.drop i = atI zs i :: zs.drop (i + 1) := by
  unfold atI
  rw [List.getElem?_eq_getElem hi, Option.getD_some, List.getElem_cons_drop hi]
theorem nx_step {zs : List Int} {i : Nat} (hi : i < zs.length) (x : Int) : nx zs i x = if atI zs i = x then (i : Int) else nx zs (i + 1) x := by
  unfold nx
  rw [drop_at hi, ixI_cons]
  by_cases e : atI zs i = x
  · rw [if_pos e, if_pos e]; simp
  · rw [if_neg e, if_neg e]
    by_cases h : ixI (zs.drop (i + 1)) x < 0
    · rw [if_pos h, if_pos h, if_pos (by decide)]
    · rw [if_neg h, if_neg h, if_neg (by omega)]; omega
theorem nx_end (zs : List Int) (x : Int) : nx zs zs.length x = (zs.length : Int) := by
  unfold nx
  rw [List.drop_length]
  rfl
theorem nx_skip {zs : List Int} {x : Int} {l : Nat} : ∀ d, l + d ≤ zs.length → (∀ j, l ≤ j → j < l + d → atI zs j ≠ x) → nx zs l x = nx zs (l + d) x
  | 0, _, _ => rfl
  | d + 1, hd, h => by
    rw [nx_skip d (by omega) (fun j h1 h2 => h j h1 (by omega)), nx_step (by omega), if_neg (h (l + d) (by omega) (by omega))]
    rfl
theorem sN_nx (zs : List Int) (x : Int) : ∀ j, j ≤ zs.length → (match sN zs j x with | none => (zs.length : Int) | some l => litI (some l)) = nx zs (zs.length - j) x
  | 0, _ => (nx_end zs x).symm
  | j + 1, hj => by
    rw [nx_step (by omega)]
    unfold sN putK
    by_cases e : atI zs (zs.length - (j + 1)) = x
    · have e2 : x = atI zs (zs.length - 1 - j) := by rw [← e]; congr 1; omega
      rw [if_pos e, if_pos e2]
      show ((zs.length - 1 - j : Nat) : Int) = _
      congr 1; omega
    · have e2 : ¬ x = atI zs (zs.length - 1 - j) := fun e3 => e (by rw [e3]; congr 1; omega)
      rw [if_neg e, if_neg e2, show zs.length - (j + 1) + 1 = zs.length - j by omega]
      exact sN_nx zs x j (by omega)
theorem nxt_nx {zs : List Int} {l i : Nat} {x : Int} (hl : l < i) (hi : i ≤ zs.length) (hx : atI zs l = x) (hn : ∀ j, l < j → j < i → atI zs j ≠ x) : nxt zs l = nx zs i x := by
  have h0 := sN_nx zs x (zs.length - 1 - l) (by omega)
  have h1 : nxt zs l = nx zs (zs.length - (zs.length - 1 - l)) x := by
    rw [← h0, ← hx]; rfl
  rw [h1, show zs.length - (zs.length - 1 - l) = l + 1 by omega]
  have := nx_skip (zs := zs) (x := x) (l := l + 1) (i - (l + 1)) (by omega) (fun j h1 h2 => hn j (by omega) (by omega))
  rw [this, show l + 1 + (i - (l + 1)) = i by omega]
/-- What latest gives. -/
theorem latF_spec (S rs : List Int) : ∀ f i best far, i + f = S.length → (∀ j, j < i → ¬ ixI rs (atI S j) < 0) → ((i = 0 ∧ far = -1) ∨ (best < i ∧ far = ixI rs (atI S best))) → (∀ j, j < i → ixI rs (atI S j) ≤ far) → 0 < S.length →
    (ixI rs (atI S (latF S rs f i best far)) < 0) ∨ ((∀ j, j < S.length → ¬ ixI rs (atI S j) < 0) ∧ ∀ j, j < S.length → ixI rs (atI S j) ≤ ixI rs (atI S (latF S rs f i best far)))
  | 0, i, best, far, hi, h1, h2, h3, h0 => by
    rcases h2 with ⟨e, _⟩ | ⟨h4, h5⟩
    · omega
    · refine .inr ⟨fun j hj => h1 j (by omega), fun j hj => ?_⟩
      show ixI rs (atI S j) ≤ ixI rs (atI S best)
      rw [← h5]; exact h3 j (by omega)
  | f + 1, i, best, far, hi, h1, h2, h3, h0 => by
    unfold latF
    by_cases hn : ixI rs (atI S i) < 0
    · rw [if_pos hn]; exact .inl hn
    · rw [if_neg hn]
      have h1' : ∀ j, j < i + 1 → ¬ ixI rs (atI S j) < 0 := fun j hj => (Nat.lt_succ_iff_lt_or_eq.1 hj).elim (h1 j) (fun e => by rw [e]; exact hn)
      by_cases hg : far < ixI rs (atI S i)
      · rw [if_pos hg]
        refine latF_spec S rs f (i + 1) i _ (by omega) h1' (.inr ⟨Nat.lt_succ_self _, rfl⟩) (fun j hj => ?_) h0
        rcases Nat.lt_succ_iff_lt_or_eq.1 hj with e | e
        · have := h3 j e; omega
        · rw [e]; exact Int.le_refl _
      · rw [if_neg hg]
        refine latF_spec S rs f (i + 1) best far (by omega) h1' ?_ (fun j hj => ?_) h0
        · rcases h2 with ⟨e, e2⟩ | ⟨h4, h5⟩
          · omega
          · exact .inr ⟨by omega, h5⟩
        · rcases Nat.lt_succ_iff_lt_or_eq.1 hj with e | e
          · exact h3 j e
          · rw [e]; omega
theorem latL_spec {S rs : List Int} (h0 : 0 < S.length) : (ixI rs (atI S (latL S rs)) < 0) ∨ ((∀ y ∈ S, ¬ ixI rs y < 0) ∧ ∀ y ∈ S, ixI rs y ≤ ixI rs (atI S (latL S rs))) := by
  have hy : ∀ y ∈ S, ∃ j, j < S.length ∧ atI S j = y := fun y hy => by
    obtain ⟨j, hj, e⟩ := List.getElem_of_mem hy
    exact ⟨j, hj, by unfold atI; rw [List.getElem?_eq_getElem hj]; exact e⟩
  rcases latF_spec S rs S.length 0 0 (-1) (by omega) (fun j hj => absurd hj (Nat.not_lt_zero _)) (.inl ⟨rfl, rfl⟩) (fun j hj => absurd hj (Nat.not_lt_zero _)) h0 with h | ⟨h1, h2⟩
  · exact .inl h
  · exact .inr ⟨fun y e => by obtain ⟨j, hj, rfl⟩ := hy y e; exact h1 j hj, fun y e => by obtain ⟨j, hj, rfl⟩ := hy y e; exact h2 j hj⟩
theorem ixI_uniq {rs : List Int} {x y : Int} (h1 : ¬ ixI rs x < 0) (h2 : ixI rs x = ixI rs y) : x = y := by
  obtain ⟨p, e1, _, e2⟩ := ixI_is h1
  obtain ⟨q, e3, _, e4⟩ := ixI_is (show ¬ ixI rs y < 0 by omega)
  have : p = q := by omega
  rw [← e2, ← e4, this]
theorem keys_put {f : Int → Option Stay} (hlt : ∀ x : Int, (f x).isSome = true → 0 ≤ x ∧ x < 16) {page : Int} (hp : 0 ≤ page ∧ page < 16) (hn : f page = none) (st : Stay) : (keysS (putS f page st)).length = (keysS f).length + 1 := by
  have h1 : List.Perm (keysS (putS f page st)) (page :: keysS f) := by
    refine (List.perm_ext_iff_of_nodup (keysS_nodup _) ?_).2 fun x => ?_
    · rw [List.nodup_cons]
      refine ⟨fun e => ?_, keysS_nodup f⟩
      have := (keysS_mem hlt page).1 e
      rw [hn] at this; cases this
    · rw [keysS_mem (fun y hy => ?_), putS_some, List.mem_cons, keysS_mem hlt]
      rcases (putS_some f page st y).1 hy with e | e
      · rw [e]; exact hp
      · exact hlt y e
  rw [h1.length_eq, List.length_cons]
theorem keys_del {f : Int → Option Stay} (hlt : ∀ x : Int, (f x).isSome = true → 0 ≤ x ∧ x < 16) {g : Int} (hg : (f g).isSome = true) : (keysS (delS f g)).length + 1 = (keysS f).length := by
  have hlt2 : ∀ x : Int, (delS f g x).isSome = true → 0 ≤ x ∧ x < 16 := fun x hx => hlt x ((delS_some f g x).1 hx).1
  have h1 : List.Perm (g :: keysS (delS f g)) (keysS f) := by
    refine (List.perm_ext_iff_of_nodup ?_ (keysS_nodup _)).2 fun x => ?_
    · rw [List.nodup_cons]
      exact ⟨fun e => ((delS_some f g g).1 ((keysS_mem hlt2 g).1 e)).2 rfl, keysS_nodup _⟩
    · rw [List.mem_cons, keysS_mem hlt2, delS_some, keysS_mem hlt]
      constructor
      · rintro (e | e)
        · rw [e]; exact hg
        · exact e.1
      · intro e
        by_cases hx : x = g
        · exact .inl hx
        · exact .inr ⟨e, hx⟩
  rw [← h1.length_eq, List.length_cons]
/-- The shelf of Best, and that of the reference: the same but for pages that are not requested again. -/
structure Bst (zs : List Int) (i : Nat) (f : Int → Option Stay) (S : List Int) : Prop where
  alive : ∀ x, ¬ ixI (zs.drop i) x < 0 → ((f x).isSome = true ↔ x ∈ S)
  len : (keysS f).length = S.length
  nd : S.Nodup
  lo : ∀ x : Int, (f x).isSome = true → 0 ≤ x ∧ x < 16
  last : ∀ x st, f x = some st → st.2 < i ∧ atI zs st.2 = x ∧ ∀ j, st.2 < j → j < i → atI zs j ≠ x
theorem Bst.rank {zs : List Int} {i : Nat} {f : Int → Option Stay} {S : List Int} (h : Bst zs i f S) (hi : i ≤ zs.length) {x : Int} (hx : (f x).isSome = true) : rkBest zs (stay f x) = - nx zs i x := by
  obtain ⟨st, hst⟩ := Option.isSome_iff_exists.1 hx
  obtain ⟨h1, h2, h3⟩ := h.last x st hst
  unfold stay
  rw [hst, Option.getD_some]
  unfold rkBest
  congr 1
  unfold atI
  rw [List.getElem?_eq_getElem (by rw [nextL_len]; omega), Option.getD_some]
  simp only [nextL, List.getElem_map, List.getElem_range]
  rw [if_pos (by omega)]
  exact nxt_nx h1 hi h2 h3
theorem nx_le {zs : List Int} {i : Nat} {x : Int} (hi : i ≤ zs.length) : nx zs i x ≤ (zs.length : Int) ∧ (¬ ixI (zs.drop i) x < 0 → nx zs i x < (zs.length : Int)) := by
  unfold nx
  split
  · rename_i h
    exact ⟨Int.le_refl _, fun e => absurd h e⟩
  · rename_i h
    obtain ⟨q, e1, e2, _⟩ := ixI_is h
    rw [List.length_drop] at e2
    rw [e1]
    exact ⟨by omega, fun _ => by omega⟩
/-- Both remove a page that is not needed again, or the same one. -/
theorem Bst.cut {zs : List Int} {i : Nat} {f : Int → Option Stay} {S : List Int} (h : Bst zs i f S) (hi : i ≤ zs.length) (h0 : 0 < S.length) :
    Bst zs i (delS f (lowS f (rkBest zs))) (witho S (latL S (zs.drop i))) := by
  have hol := latL_lt (S := S) (rs := zs.drop i) h0
  have hgk := lowS_mem f (rkBest zs) (by rw [h.len]; omega)
  have hgs := (keysS_mem h.lo _).1 hgk
  have hmx : ∀ y, (f y).isSome = true → nx zs i y ≤ nx zs i (lowS f (rkBest zs)) := fun y hy => by
    have h1 := lowS_least f (rkBest zs) ((keysS_mem h.lo y).2 hy)
    rw [h.rank hi hgs, h.rank hi hy] at h1
    omega
  generalize hg : lowS f (rkBest zs) = g at *
  generalize ho : latL S (zs.drop i) = o at *
  have hm := witho_mem hol h.nd
  have key : ∀ x, ¬ ixI (zs.drop i) x < 0 → (x = g ↔ x = atI S o) := by
    have hP : ∀ x, ((f x).isSome = true ∧ ¬ ixI (zs.drop i) x < 0) ↔ (x ∈ S ∧ ¬ ixI (zs.drop i) x < 0) := fun x => ⟨fun e => ⟨(h.alive x e.2).1 e.1, e.2⟩, fun e => ⟨(h.alive x e.2).2 e.1, e.2⟩⟩
    have hperm : List.Perm ((keysS f).filter fun x => decide (¬ ixI (zs.drop i) x < 0)) (S.filter fun x => decide (¬ ixI (zs.drop i) x < 0)) := by
      refine (List.perm_ext_iff_of_nodup ((keysS_nodup f).filter _) (h.nd.filter _)).2 fun x => ?_
      rw [List.mem_filter, List.mem_filter, keysS_mem h.lo, decide_eq_true_iff]
      exact hP x
    have hlen := hperm.length_eq
    rcases latL_spec (S := S) (rs := zs.drop i) h0 with hd | ⟨ha, hb⟩
    · rw [ho] at hd
      -- the reference removes a page that is not requested again: so does Best
      have hgd : ixI (zs.drop i) g < 0 := by
        refine Classical.byContradiction fun hga => ?_
        have hall : ∀ y ∈ keysS f, ¬ ixI (zs.drop i) y < 0 := fun y hy hyd => by
          have h1 := hmx y ((keysS_mem h.lo y).1 hy)
          have h2 := (nx_le (zs := zs) (x := g) hi).2 hga
          have h3 : nx zs i y = (zs.length : Int) := by unfold nx; rw [if_pos hyd]
          omega
        have h1 : ((keysS f).filter fun x => decide (¬ ixI (zs.drop i) x < 0)).length = (keysS f).length := by
          rw [List.filter_eq_self.2 (fun y hy => decide_eq_true (hall y hy))]
        have h2 : (S.filter fun x => decide (¬ ixI (zs.drop i) x < 0)).length = S.length := by rw [← hlen, h1, h.len]
        have h3 := List.length_filter_eq_length_iff.1 h2 _ (atI_mem hol)
        exact (of_decide_eq_true h3) hd
      intro x hx
      constructor
      · intro e; rw [e] at hx; exact absurd hgd hx
      · intro e; rw [e] at hx; exact absurd hd hx
    · rw [ho] at hb
      have h2 : (S.filter fun x => decide (¬ ixI (zs.drop i) x < 0)).length = S.length := by
        rw [List.filter_eq_self.2 (fun y hy => decide_eq_true (ha y hy))]
      have h1 : ((keysS f).filter fun x => decide (¬ ixI (zs.drop i) x < 0)).length = (keysS f).length := by rw [hlen, h2, h.len]
      have hga : ¬ ixI (zs.drop i) g < 0 := of_decide_eq_true (List.length_filter_eq_length_iff.1 h1 g hgk)
      have hoa := ha _ (atI_mem hol)
      have h3 := hmx _ ((h.alive _ hoa).2 (atI_mem hol))
      have h4 := hb g ((h.alive _ hga).1 hgs)
      unfold nx at h3
      rw [if_neg hoa, if_neg hga] at h3
      have : g = atI S o := ixI_uniq hga (by omega)
      intro x _
      rw [this]
  refine ⟨fun x hx => ?_, ?_, witho_nodup hol h.nd, fun x hx => h.lo x ((delS_some f g x).1 hx).1, fun x st e => ?_⟩
  · rw [delS_some, hm, h.alive x hx, Ne, key x hx]
  · have h1 := keys_del h.lo hgs
    have h2 := witho_len (zs := S) rfl hol
    have := h.len
    omega
  · unfold delS at e
    split at e
    · cases e
    · exact h.last x st e
theorem Bst.put {zs : List Int} {i : Nat} {f : Int → Option Stay} {S : List Int} (h : Bst zs i f S) (hi : i < zs.length) (hp : 0 ≤ atI zs i ∧ atI zs i < 16) (hn : f (atI zs i) = none) (hS : atI zs i ∉ S) : Bst zs (i + 1) (putS f (atI zs i) (i, i)) (S ++ [atI zs i]) := by
  have hal : ∀ x, ¬ ixI (zs.drop (i + 1)) x < 0 → ¬ ixI (zs.drop i) x < 0 := fun x hx => by
    rw [drop_at hi, ixI_cons]
    split
    · decide
    · first | (rw [if_neg hx]; omega) | (split <;> omega) | omega
  refine ⟨fun x hx => ?_, ?_, ?_, fun x hx => ?_, fun x st e => ?_⟩
  · rw [putS_some, h.alive x (hal x hx), List.mem_append, List.mem_singleton, Or.comm]
  · rw [keys_put h.lo hp hn, List.length_append, List.length_singleton, h.len]
  · exact List.nodup_append.2 ⟨h.nd, by simp, fun a ha b hb' => by simp at hb'; subst hb'; exact fun e => hS (e ▸ ha)⟩
  · rcases (putS_some f _ _ x).1 hx with e | e
    · rw [e]; exact hp
    · exact h.lo x e
  · unfold putS at e
    split at e
    · rename_i hx
      have e := Option.some.inj e
      subst e
      exact ⟨Nat.lt_succ_self _, hx.symm, fun j h1 h2 => by have h1 : i < j := h1; omega⟩
    · rename_i hx
      obtain ⟨h1, h2, h3⟩ := h.last x st e
      refine ⟨by omega, h2, fun j h4 h5 => ?_⟩
      rcases Nat.lt_succ_iff_lt_or_eq.1 h5 with e5 | e5
      · exact h3 j h4 e5
      · rw [e5]; exact fun e6 => hx e6.symm
theorem Bst.step {zs : List Int} {i : Nat} {f : Int → Option Stay} {S : List Int} {k : Int} (h : Bst zs i f S) (hi : i < zs.length) (hp : 0 ≤ atI zs i ∧ atI zs i < 16) (hk : 1 ≤ k) :
    Bst zs (i + 1) (srvS f i (atI zs i) (goneS f k (rkBest zs) (atI zs i))) (svN 2 k (atI zs i) S (zs.drop i)) ∧ srvC f (atI zs i) (goneS f k (rkBest zs) (atI zs i)) = if ixI S (atI zs i) < 0 then 1 else 0 := by
  have hpa : ¬ ixI (zs.drop i) (atI zs i) < 0 := by rw [drop_at hi, ixI_cons, if_pos rfl]; decide
  have hal := h.alive _ hpa
  generalize hpg : atI zs i = page at *
  unfold goneS svN
  by_cases hf : ixI S page < 0
  · rw [if_pos hf, if_pos hf]
    have hpn : page ∉ S := ixI_mem.1 hf
    have hno : f page = none := by
      cases e : f page with
      | none => rfl
      | some s2 => exact absurd (hal.1 (by rw [e]; rfl)) hpn
    have hlk : lacksB f page k = ((S.length : Int) == k) := by unfold lacksB; rw [hno, h.len]; rfl
    rw [hlk]
    by_cases hfull : (S.length : Int) = k
    · rw [if_pos (by simp [hfull]), if_pos hfull, show svO 2 S (zs.drop i) = latL S (zs.drop i) from if_pos rfl]
      have hl : 0 < S.length := by omega
      have hc := h.cut (by omega) hl
      have hgs := (keysS_mem h.lo _).1 (lowS_mem f (rkBest zs) (by rw [h.len]; omega))
      have hg0 := h.lo _ hgs
      have hr : rmS f (lowS f (rkBest zs)) = delS f (lowS f (rkBest zs)) := if_neg (by omega)
      have hno2 : delS f (lowS f (rkBest zs)) page = none := by (unfold delS; by_cases e : page = lowS f (rkBest zs); exact if_pos e; exact (if_neg e).trans hno)
      have hpn2 : page ∉ witho S (latL S (zs.drop i)) := fun e => hpn ((witho_mem (latL_lt hl) h.nd page).1 e).1
      unfold srvS srvC
      rw [hr, hno2, show gotS (delS f (lowS f (rkBest zs))) page i = (i, i) from by unfold gotS; rw [hno2]]
      refine ⟨?_, rfl⟩
      have := hc.put hi (by rw [hpg]; exact hp) (by rw [hpg]; exact hno2) (by rw [hpg]; exact hpn2)
      rwa [hpg] at this
    · rw [if_neg (by simp [hfull]), if_neg hfull]
      have hr : rmS f (-1) = f := if_pos rfl
      unfold srvS srvC
      rw [hr, hno, show gotS f page i = (i, i) from by unfold gotS; rw [hno]]
      refine ⟨?_, rfl⟩
      have := h.put hi (by rw [hpg]; exact hp) (by rw [hpg]; exact hno) (by rw [hpg]; exact hpn)
      rwa [hpg] at this
  · rw [if_neg hf, if_neg hf, if_neg (show ¬ (2 = 0) by decide)]
    have hin : page ∈ S := Classical.byContradiction fun e => hf (ixI_mem.2 e)
    have hsm := hal.2 hin
    obtain ⟨s2, hs2⟩ := Option.isSome_iff_exists.1 hsm
    have hlk : lacksB f page k = false := by unfold lacksB; rw [hs2]; rfl
    rw [hlk, if_neg (by decide)]
    have hr : rmS f (-1) = f := if_pos rfl
    unfold srvS srvC
    rw [hr, show gotS f page i = (s2.1, i) from by unfold gotS; rw [hs2]]
    refine ⟨⟨fun x hx => ?_, ?_, h.nd, fun x hx => ?_, fun x st e => ?_⟩, by rw [hs2]; rfl⟩
    · have hx2 : ¬ ixI (zs.drop i) x < 0 := by
        rw [drop_at hi, ixI_cons]
        split
        · decide
        · first | (rw [if_neg hx]; omega) | (split <;> omega) | omega
      rw [putS_some, h.alive x hx2]
      exact ⟨fun e => e.elim (fun e => e ▸ hin) id, .inr⟩
    · have : keysS (putS f page (s2.1, i)) = keysS f := by
        unfold keysS
        congr 1
        funext x
        rw [Bool.eq_iff_iff, putS_some]
        exact ⟨fun e => e.elim (fun e => e ▸ hsm) id, .inr⟩
      rw [this]; exact h.len
    · rcases (putS_some f _ _ x).1 hx with e | e
      · rw [e]; exact hp
      · exact h.lo x e
    · unfold putS at e
      split at e
      · rename_i hx
        have e := Option.some.inj e
        subst e
        exact ⟨Nat.lt_succ_self _, by rw [hx]; exact hpg, fun j h1 h2 => by have h1 : i < j := h1; omega⟩
      · rename_i hx
        obtain ⟨h1, h2, h3⟩ := h.last x st e
        refine ⟨by omega, h2, fun j h4 h5 => ?_⟩
        rcases Nat.lt_succ_iff_lt_or_eq.1 h5 with e5 | e5
        · exact h3 j h4 e5
        · rw [e5, hpg]; exact fun e6 => hx e6.symm
theorem best_run {zs : List Int} {k : Int} (hk : 1 ≤ k) (hz : ∀ i, i < zs.length → 0 ≤ atI zs i ∧ atI zs i < 16) : ∀ i, i ≤ zs.length → Bst zs i (rF (rkBest zs) k zs i) (svS 2 k zs i) ∧ rC (rkBest zs) k zs i = svC 2 k zs i
  | 0, _ => ⟨⟨fun x _ => (by simp [rF, svS]), (by simp [rF, svS, keysS]), (by simp [svS]), fun x hx => (by cases hx), fun x st e => (by cases e)⟩, rfl⟩
  | i + 1, hi => by
    obtain ⟨h1, h2⟩ := best_run hk hz i (by omega)
    obtain ⟨h4, h5⟩ := h1.step (by omega) (hz i (by omega)) hk
    refine ⟨h4, ?_⟩
    show rC (rkBest zs) k zs i + srvC (rF (rkBest zs) k zs i) (atI zs i) (goneS (rF (rkBest zs) k zs i) k (rkBest zs) (atI zs i)) = if ixI (svS 2 k zs i) (atI zs i) < 0 then svC 2 k zs i + 1 else svC 2 k zs i
    rw [h5, h2]
    split <;> omega
/-- The plan of a run is correct, and has its faults. -/
theorem plan_run (rk : Stay → Int) {zs : List Int} {k : Int} (hk : 1 ≤ k) : ∀ i, i ≤ zs.length → pF zs (rP rk k zs zs.length) i = rF rk k zs i ∧ pC zs (rP rk k zs zs.length) i = rC rk k zs i ∧ ∀ j, j < i → pOk k zs (rP rk k zs zs.length) j = true
  | 0, _ => ⟨rfl, rfl, fun j hj => absurd hj (Nat.not_lt_zero _)⟩
  | i + 1, hi => by
    obtain ⟨h1, h2, h3⟩ := plan_run rk (zs := zs) hk i (by omega)
    have hg : atI (rP rk k zs zs.length) i = goneS (rF rk k zs i) k rk (atI zs i) := by
      unfold rP
      rw [atI_mapN (n := zs.length) (by omega)]
      rfl
    refine ⟨?_, ?_, fun j hj => ?_⟩
    · show srvS (pF zs _ i) i (atI zs i) (atI _ i) = srvS (rF rk k zs i) i (atI zs i) (goneS (rF rk k zs i) k rk (atI zs i))
      rw [h1, hg]
    · show pC zs _ i + srvC (pF zs _ i) (atI zs i) (atI _ i) = rC rk k zs i + srvC (rF rk k zs i) (atI zs i) (goneS (rF rk k zs i) k rk (atI zs i))
      rw [h1, h2, hg]
    · rcases Nat.lt_succ_iff_lt_or_eq.1 hj with e | e
      · exact h3 j e
      · rw [e]
        unfold pOk alwB
        rw [h1, hg]
        unfold goneS
        cases hl : lacksB (rF rk k zs i) (atI zs i) k
        · rw [if_neg (by decide), if_neg (by decide)]; rfl
        · rw [if_pos rfl, if_pos rfl]
          have hm := lowS_mem (rF rk k zs i) rk (by have := (lacksB_len hl).1; omega)
          unfold keysS at hm
          rw [List.mem_filter] at hm
          exact hm.2
theorem plan_ok (rk : Stay → Int) {zs : List Int} {k : Int} (hk : 1 ≤ k) (hz : ∀ i, i < zs.length → 0 ≤ atI zs i ∧ atI zs i < 16) : fltR k zs (rP rk k zs zs.length) = (rC rk k zs zs.length, true) := by
  obtain ⟨_, h2, h3⟩ := plan_run rk (zs := zs) hk zs.length (Nat.le_refl _)
  have hs := (ok_run (pl := rP rk k zs zs.length) k hz zs.length (Nat.le_refl _)).2 h3
  have hc := (sim_run k hz zs.length (Nat.le_refl _) hs).2
  unfold fltR
  rw [decide_eq_true (rP_len _ _ _ _), if_neg (by decide), allB_iff.2 hs, if_neg (by decide), ← hc, h2]
end Go.Proofs.Ytcnjkdkkflpgnaa
