import Derived.Test.YtcnjkdkkflpgnaaT45
/- Layer 8: exchanges of adjacent rolls, the ways between orders, and costs that no exchange lowers. -/
namespace Go.Proofs.Ytcnjkdkkflpgnaa
open Go.RowKit Go.Maps
set_option linter.unusedVariables false

theorem lowJ_le {R : List (List Int)} {k : Nat} {cs : List Int} (i : Nat) : ∀ t, atI (lowJ R k cs t) i ≤ atI cs i
  | 0 => Int.le_refl _
  | t + 1 => by
    have ih := lowJ_le (R := R) (k := k) (cs := cs) i t
    unfold lowJ
    split
    · rename_i h
      by_cases hk : k < (lowJ R k cs t).length
      · rw [atI_set hk]
        split
        · rename_i e; rw [e] at ih ⊢; omega
        · exact ih
      · rw [List.set_eq_of_length_le (by omega)]; exact ih
    · exact ih
theorem lowJ_mono {R : List (List Int)} {k : Nat} {cs : List Int} (i t : Nat) : ∀ d, atI (lowJ R k cs (t + d)) i ≤ atI (lowJ R k cs t) i
  | 0 => Int.le_refl _
  | d + 1 => by
    refine Int.le_trans ?_ (lowJ_mono i t d)
    show (atI (if atI (lowJ R k cs (t + d)) (atI (ordAt R k) (t + d)).toNat + 1 < atI (lowJ R k cs (t + d)) k then (lowJ R k cs (t + d)).set k (atI (lowJ R k cs (t + d)) (atI (ordAt R k) (t + d)).toNat + 1) else lowJ R k cs (t + d)) i) ≤ _
    split
    · rename_i h
      by_cases hk : k < (lowJ R k cs (t + d)).length
      · rw [atI_set hk]
        split
        · rename_i e; rw [e]; omega
        · exact Int.le_refl _
      · rw [List.set_eq_of_length_le (by omega)]; exact Int.le_refl _
    · exact Int.le_refl _
theorem lowK_mono {R : List (List Int)} {mm : Nat} {cs : List Int} (i k : Nat) : ∀ d, atI (lowK R mm cs (k + d)) i ≤ atI (lowK R mm cs k) i
  | 0 => Int.le_refl _
  | d + 1 => Int.le_trans (lowJ_le i mm) (lowK_mono i k d)
theorem lowGo_le {R : List (List Int)} {mm n : Nat} (i : Nat) : ∀ {f : Nat} {cs : List Int}, atI (lowGo R mm n f cs) i ≤ atI cs i
  | 0, _ => Int.le_refl _
  | f + 1, cs => by
    unfold lowGo
    split
    · exact Int.le_refl _
    · refine Int.le_trans (lowGo_le i) ?_
      have := lowK_mono (R := R) (mm := mm) (cs := cs) i 0 n
      rwa [Nat.zero_add] at this
theorem lowK_fix {R : List (List Int)} {mm : Nat} {cs : List Int} (h : lowK R mm cs cs.length = cs) {k t : Nat} (hk : k < cs.length) (ht : t < mm) : atI cs k ≤ atI cs (atI (ordAt R k) t).toNat + 1 := by
  have h1 : ∀ i, atI (lowK R mm cs k) i ≤ atI cs i := fun i => by
    have := lowK_mono (R := R) (mm := mm) (cs := cs) i 0 k
    rwa [Nat.zero_add] at this
  have h2 : ∀ i, atI cs i ≤ atI (lowK R mm cs (k + 1)) i := fun i => by
    have := lowK_mono (R := R) (mm := mm) (cs := cs) i (k + 1) (cs.length - (k + 1))
    rw [show k + 1 + (cs.length - (k + 1)) = cs.length by omega, h] at this
    exact this
  have h3 : ∀ i, atI (lowK R mm cs (k + 1)) i ≤ atI (lowJ R k (lowK R mm cs k) (t + 1)) i := fun i => by
    have := lowJ_mono (R := R) (k := k) (cs := lowK R mm cs k) i (t + 1) (mm - (t + 1))
    rw [show t + 1 + (mm - (t + 1)) = mm by omega] at this
    exact this
  have h4 : ∀ i, atI (lowJ R k (lowK R mm cs k) t) i ≤ atI cs i := fun i => Int.le_trans (lowJ_le i t) (h1 i)
  have h5 := lowJ_mono (R := R) (k := k) (cs := lowK R mm cs k) (atI (ordAt R k) t).toNat t 1
  have h6 := h2 k
  have h7 := h3 k
  have h8 := h4 (atI (ordAt R k) t).toNat
  unfold lowJ at h7
  split at h7
  · rename_i hc
    rw [atI_set (by rw [lowJ_len, lowK_len]; exact hk), if_pos rfl] at h7
    omega
  · rename_i hc
    have h9 := h4 k
    omega
theorem lowJ_I {R : List (List Int)} {n k : Nat} {b : Int} {cs cur : List Int} {ch : Bool} (h : LowI n b cs cur ch) (hk : k < n) : ∀ t, ∃ ch', LowI n b cs (lowJ R k cur t) ch'
  | 0 => ⟨ch, h⟩
  | t + 1 => by
    obtain ⟨ch', h'⟩ := lowJ_I (R := R) h hk t
    unfold lowJ
    split
    · rename_i hc
      exact ⟨true, h'.put hk (by have := (h'.small (atI (ordAt R k) t).toNat).1; omega) hc⟩
    · exact ⟨ch', h'⟩
theorem lowK_I {R : List (List Int)} {mm n : Nat} {b : Int} {cs cur : List Int} {ch : Bool} (h : LowI n b cs cur ch) : ∀ k, k ≤ n → ∃ ch', LowI n b cs (lowK R mm cur k) ch'
  | 0, _ => ⟨ch, h⟩
  | k + 1, hk => by
    obtain ⟨ch', h'⟩ := lowK_I (R := R) (mm := mm) h k (by omega)
    exact lowJ_I h' (by omega) mm
theorem lowGo_fix {R : List (List Int)} {mm n : Nat} {b : Int} : ∀ {f : Nat} {cs : List Int}, cs.length = n → smallZ cs b → sumN cs < f → lowK R mm (lowGo R mm n f cs) n = lowGo R mm n f cs
  | 0, cs, _, _, h => absurd h (Nat.not_lt_zero _)
  | f + 1, cs, hl, hs, h => by
    unfold lowGo
    split
    · rename_i e; exact e
    · rename_i e
      obtain ⟨ch, h'⟩ := lowK_I (R := R) (mm := mm) (LowI.start hl hs) n (Nat.le_refl _)
      rcases h'.flag with ⟨_, h2⟩ | ⟨_, h2⟩
      · exact lowGo_fix h'.len h'.small (by omega)
      · exact absurd h2 e
/-- No exchange lowers these costs. -/
def Closed (R : List (List Int)) (mm : Nat) (C : List Int) : Prop := ∀ k t, k < C.length → t < mm → atI C k ≤ atI C (atI (ordAt R k) t).toNat + 1
theorem lowF_closed {R : List (List Int)} {mm : Nat} {b : Int} {cs : List Int} (hs : smallZ cs b) : Closed R mm (lowF R mm cs) := fun k t hk ht => by
  have hl : (lowF R mm cs).length = cs.length := lowGo_len
  have := lowGo_fix (R := R) (mm := mm) rfl hs (Nat.lt_succ_self (sumN cs))
  refine lowK_fix (R := R) (mm := mm) ?_ hk ht
  rw [hl]; exact this
theorem witho_moved {o : List Int} {p q : Nat} (hq : q ≤ (witho o p).length) : witho (movedL o p q) q = witho o p ∧ atI (movedL o p q) q = atI o p := by
  have hl : ((witho o p).take q).length = q := by rw [List.length_take]; omega
  refine ⟨?_, ?_⟩
  · show (movedL o p q).take q ++ (movedL o p q).drop (q + 1) = _
    unfold movedL
    rw [List.append_assoc, List.take_append_of_le_length (by omega), List.take_of_length_le (by omega), List.drop_append, hl, List.drop_of_length_le (by omega), List.nil_append, show q + 1 - q = 1 by omega]
    show (witho o p).take q ++ (witho o p).drop q = _
    exact List.take_append_drop _ _
  · unfold movedL
    show ((((witho o p).take q ++ [atI o p]) ++ (witho o p).drop q)[q]?).getD 0 = _
    rw [List.append_assoc, List.getElem?_append_right (by omega), hl, Nat.sub_self]; rfl
theorem moved_again {o : List Int} {p q t : Nat} (hq : q ≤ (witho o p).length) : movedL (movedL o p q) q t = movedL o p t := by
  obtain ⟨h1, h2⟩ := witho_moved hq
  show (witho (movedL o p q) q).take t ++ [atI (movedL o p q) q] ++ (witho (movedL o p q) q).drop t = _
  rw [h1, h2]; rfl
theorem FullO.nodup {o : List Int} (h : FullO o) : o.Nodup := h.nodup_iff.2 (by decide)
/-- Where the rolls stand behind an exchange. -/
theorem ixI_xch {o : List Int} {p : Nat} (h : FullO o) (hp : p + 1 < 6) {u : Int} (hu : u ∈ o) : (u = atI o (p + 1) ∧ ixI (movedL o (p + 1) p) u = (p : Int)) ∨ (u = atI o p ∧ ixI (movedL o (p + 1) p) u = (p : Int) + 1) ∨ (u ≠ atI o (p + 1) ∧ u ≠ atI o p ∧ ixI (movedL o (p + 1) p) u = ixI o u) := by
  have h' := h.moved hp p
  have hl := h.len
  have hl' := h'.len
  obtain ⟨k, e1, hk, e2⟩ := ixI_pos hu
  have hx := fun j => exch_at (j := j) hl hp
  by_cases e : k = p + 1
  · left
    refine ⟨by rw [← e2, e], ?_⟩
    have := ixI_of h'.nodup (i := p) (by omega)
    rw [hx p, if_pos rfl] at this
    rw [← this, ← e2, e]
  · by_cases e3 : k = p
    · right; left
      refine ⟨by rw [← e2, e3], ?_⟩
      have := ixI_of h'.nodup (i := p + 1) (by omega)
      rw [hx (p + 1), if_neg (by omega), if_pos rfl, ← e3, e2] at this
      rw [← e3, this, e3]; rfl
    · right; right
      refine ⟨fun e4 => e (atI_inj h.nodup hk (by omega) (e2.trans e4)), fun e4 => e3 (atI_inj h.nodup hk (by omega) (e2.trans e4)), ?_⟩
      have := ixI_of h'.nodup (i := k) (by omega)
      rw [hx k, if_neg e3, if_neg e, e2] at this
      rw [this, e1]
theorem sm_lt {g f : Int → Nat} : ∀ {l : List Int}, (∀ x ∈ l, g x ≤ f x) → (∃ x, x ∈ l ∧ g x + 1 ≤ f x) → sm g l + 1 ≤ sm f l
  | [], _, ⟨x, hx, _⟩ => absurd hx List.not_mem_nil
  | y :: l, h, ⟨x, hx, hlt⟩ => by
    show g y + sm g l + 1 ≤ f y + sm f l
    have h1 := h y List.mem_cons_self
    rcases List.mem_cons.1 hx with e | e
    · have := sm_le (g := g) (f := f) (l := l) (fun z hz => h z (List.mem_cons_of_mem _ hz))
      rw [e] at hlt; omega
    · have := sm_lt (g := g) (f := f) (l := l) (fun z hz => h z (List.mem_cons_of_mem _ hz)) ⟨x, e, hlt⟩
      omega
/-- An exchange of two rolls that are turned leaves one turned pair less. -/
theorem xch_less {a b : List Int} {p : Nat} (ha : FullO a) (hb : FullO b) (hp : p + 1 < 6) (h : ixI b (atI a (p + 1)) < ixI b (atI a p)) : turnN (movedL a (p + 1) p) b + 1 ≤ turnN a b := by
  have ha' := ha.moved hp p
  have hab : ∀ x, x ∈ a → x ∈ b := fun x hx => hb.mem_iff.2 (ha.mem_iff.1 hx)
  rw [turnN_dN ha.nodup, turnN_dN ha'.nodup, dN_perm (l := movedL a (p + 1) p) (q := a) (ha'.trans ha.symm)]
  have hu0 : atI a p ∈ a := atI_mem (by rw [ha.len]; omega)
  have hv0 : atI a (p + 1) ∈ a := atI_mem (by rw [ha.len]; omega)
  have i0 := ixI_of ha.nodup (i := p) (by rw [ha.len]; omega)
  have i1 := ixI_of ha.nodup (i := p + 1) (by rw [ha.len]; omega)
  have hle : ∀ u ∈ a, ∀ v ∈ a, trn (movedL a (p + 1) p) b u v ≤ trn a b u v := fun u hu v hv => by
    unfold trn
    split
    · rename_i hc
      rw [if_pos]
      · exact Nat.le_refl _
      refine ⟨?_, hc.2⟩
      have hc1 := hc.1
      have hc2 := hc.2
      rcases ixI_xch ha hp hu with ⟨e, e1⟩ | ⟨e, e1⟩ | ⟨en, en2, e1⟩ <;> rcases ixI_xch ha hp hv with ⟨f, f1⟩ | ⟨f, f1⟩ | ⟨fn, fn2, f1⟩ <;> rw [e1, f1] at hc1
      · omega
      · rw [e, f] at hc2; omega
      · rw [e, i1]
        have : ixI a v ≠ ((p + 1 : Nat) : Int) := fun g => fn (ixI_inj hv hv0 (g.trans i1.symm))
        omega
      · omega
      · omega
      · rw [e, i0]; omega
      · rw [f, i1]; omega
      · rw [f, i0]
        have : ixI a u ≠ (p : Int) := fun g => en2 (ixI_inj hu hu0 (g.trans i0.symm))
        omega
      · exact hc1
    · exact Nat.zero_le _
  refine sm_lt (fun u hu => sm_le (fun v hv => hle u hu v hv)) ⟨atI a p, hu0, sm_lt (fun v hv => hle _ hu0 v hv) ⟨atI a (p + 1), hv0, ?_⟩⟩
  unfold trn
  rw [if_pos (⟨by rw [i0, i1]; omega, h⟩ : ixI a (atI a p) < ixI a (atI a (p + 1)) ∧ ixI b (atI a (p + 1)) < ixI b (atI a p)), if_neg]
  · exact Nat.le_refl _
  · intro hc
    have hc1 := hc.1
    have hne : atI a p ≠ atI a (p + 1) := fun e => by rw [e] at h; omega
    rcases ixI_xch ha hp hu0 with ⟨e, e1⟩ | ⟨e, e1⟩ | ⟨en, en2, e1⟩
    · exact hne e
    · rcases ixI_xch ha hp hv0 with ⟨f, f1⟩ | ⟨f, f1⟩ | ⟨fn, fn2, f1⟩
      · rw [e1, f1] at hc1; omega
      · exact hne f.symm
      · exact fn rfl
    · exact en2 rfl
theorem sm_ind (c : Int) (k : Nat) : ∀ {l : List Int}, l.Nodup → sm (fun u => if u = c then k else 0) l ≤ k
  | [], _ => Nat.zero_le _
  | x :: l, h => by
    obtain ⟨h1, h2⟩ := List.nodup_cons.1 h
    show (if x = c then k else 0) + sm (fun u => if u = c then k else 0) l ≤ k
    split
    · rename_i e
      rw [show sm (fun u => if u = c then k else 0) l = sm (fun _ => 0) l from sm_congr fun y hy => if_neg (fun e2 => h1 (by rw [e, ← e2]; exact hy)), sm_zero]
      omega
    · have := sm_ind c k h2; omega
theorem xch_one {a : List Int} {p : Nat} (ha : FullO a) (hp : p + 1 < 6) : turnN a (movedL a (p + 1) p) ≤ 1 := by
  rw [turnN_dN ha.nodup]
  have hu0 : atI a p ∈ a := atI_mem (by rw [ha.len]; omega)
  have hv0 : atI a (p + 1) ∈ a := atI_mem (by rw [ha.len]; omega)
  have i0 := ixI_of ha.nodup (i := p) (by rw [ha.len]; omega)
  have i1 := ixI_of ha.nodup (i := p + 1) (by rw [ha.len]; omega)
  refine Nat.le_trans (sm_le (f := fun u => if u = atI a p then 1 else 0) fun u hu => ?_) (sm_ind _ 1 ha.nodup)
  refine Nat.le_trans (sm_le (f := fun v => if v = atI a (p + 1) then (if u = atI a p then 1 else 0) else 0) fun v hv => ?_) (sm_ind _ _ ha.nodup)
  unfold trn
  split
  · rename_i hc
    have hc1 := hc.1
    have hc2 := hc.2
    rcases ixI_xch ha hp hu with ⟨e, e1⟩ | ⟨e, e1⟩ | ⟨en, en2, e1⟩ <;> rcases ixI_xch ha hp hv with ⟨f, f1⟩ | ⟨f, f1⟩ | ⟨fn, fn2, f1⟩ <;> rw [e1, f1] at hc2
    · rw [e, f] at hc1; omega
    · rw [e, f, i0, i1] at hc1; omega
    · rw [e, i1] at hc1; omega
    · rw [if_pos f, if_pos e]; exact Nat.le_refl _
    · rw [e, f] at hc1; omega
    · rw [e, i0] at hc1
      have : ixI a v ≠ ((p + 1 : Nat) : Int) := fun g => fn (ixI_inj hv hv0 (g.trans i1.symm))
      omega
    · rw [f, i1] at hc1
      have : ixI a u ≠ (p : Int) := fun g => en2 (ixI_inj hu hu0 (g.trans i0.symm))
      omega
    · rw [f, i0] at hc1; omega
    · omega
  · exact Nat.zero_le _
theorem rise_eq {a b : List Int} (hn : a.Nodup) (h : List.Perm a b) (hr0 : ∀ i, i + 1 < a.length → ixI b (atI a i) < ixI b (atI a (i + 1))) : a = b := by
  have hlen := h.length_eq
  have hp : ∀ i, i < a.length → ixI b (atI a i) = ((ixI b (atI a i)).toNat : Int) ∧ (ixI b (atI a i)).toNat < a.length ∧ atI b (ixI b (atI a i)).toNat = atI a i := fun i hi => by
    obtain ⟨k, e1, e2, e3⟩ := ixI_pos (h.mem_iff.1 (atI_mem hi))
    rw [e1, Int.toNat_natCast]
    exact ⟨rfl, by omega, e3⟩
  have hr : ∀ i, i + 1 < a.length → (ixI b (atI a i)).toNat < (ixI b (atI a (i + 1))).toNat := fun i hi => by
    have h2 := hr0 i hi
    have h3 := (hp i (by omega)).1
    have h4 := (hp (i + 1) hi).1
    omega
  have he : ∀ i, i < a.length → (ixI b (atI a i)).toNat = i := fun i hi => by
    have h1 := rise_ge (f := fun i => (ixI b (atI a i)).toNat) hr i hi
    have h2 := rise_le (f := fun i => (ixI b (atI a i)).toNat) hr (fun i hi => (hp i hi).2.1) (a.length - 1 - i) i (by omega)
    exact Nat.le_antisymm h2 h1
  refine List.ext_getElem hlen fun i h1 h2 => ?_
  have h3 := (hp i h1).2.2
  rw [he i h1] at h3
  have e1 : atI a i = a[i] := by unfold atI; rw [List.getElem?_eq_getElem h1]; rfl
  have e2 : atI b i = b[i] := by unfold atI; rw [List.getElem?_eq_getElem h2]; rfl
  rw [← e1, ← e2, h3]
/-- Of two different orders two adjacent rolls are turned. -/
theorem adj {m : Nat} {a b : List Int} (ha : FullO a) (hb : FullO b) (ta : TailO m a) (tb : TailO m b) (hm : m ≤ 6) (hne : a ≠ b) : ∃ p, p + 1 < m ∧ ixI b (atI a (p + 1)) < ixI b (atI a p) := by
  refine Classical.byContradiction fun hno => hne (rise_eq ha.nodup (ha.trans hb.symm) fun i hi => ?_)
  rw [ha.len] at hi
  have hai : atI a i ∈ b := hb.mem_iff.2 (ha.mem_iff.1 (atI_mem (by rw [ha.len]; omega)))
  have hai1 : atI a (i + 1) ∈ b := hb.mem_iff.2 (ha.mem_iff.1 (atI_mem (by rw [ha.len]; omega)))
  by_cases e : i + 1 < m
  · have h1 : ¬ ixI b (atI a (i + 1)) < ixI b (atI a i) := fun h => hno ⟨i, e, h⟩
    have h2 : ixI b (atI a i) ≠ ixI b (atI a (i + 1)) := fun h => by
      have := atI_inj ha.nodup (by rw [ha.len]; omega) (by rw [ha.len]; omega) (ixI_inj hai hai1 h)
      omega
    omega
  · have h1 := ta (i + 1) (by omega) hi
    have h2 := ixI_of hb.nodup (i := i + 1) (by rw [hb.len]; omega)
    rw [tb (i + 1) (by omega) hi] at h2
    rw [h1, h2]
    obtain ⟨j, e1, hj, e2⟩ := ixI_pos hai
    rw [e1]
    rw [hb.len] at hj
    by_cases hj2 : i + 1 ≤ j
    · have h3 := tb j (by omega) hj
      have h4 := ta j (by omega) hj
      have := atI_inj ha.nodup (i := i) (j := j) (by rw [ha.len]; omega) (by rw [ha.len]; omega) (by rw [h4, ← h3, e2])
      omega
    · omega
theorem ordAt_inj {L : List (List Int)} (hd : L.Nodup) {i j : Nat} (hi : i < L.length) (hj : j < L.length) (h : ordAt L i = ordAt L j) : i = j := by
  have e1 : ordAt L i = L[i] := by unfold ordAt; rw [List.getElem?_eq_getElem hi]; rfl
  have e2 : ordAt L j = L[j] := by unfold ordAt; rw [List.getElem?_eq_getElem hj]; rfl
  rw [e1, e2] at h
  have hp := List.pairwise_iff_getElem.1 hd
  rcases Nat.lt_trichotomy i j with e | e | e
  · exact absurd h (hp i j hi hj e)
  · exact e
  · exact absurd h.symm (hp j i hj hi e)
/-- Every order has a number, and is reached by as many exchanges as there are turned pairs. -/
theorem lay_path {m : Nat} {L R : List (List Int)} (H : LayI m L R L.length) (hm : m ≤ 6) {b : List Int} (hb : FullO b) (tb : TailO m b) : ∀ d x, turnN (ordAt L x) b ≤ d → x < L.length → ∃ y, y < L.length ∧ ordAt L y = b ∧ ∀ C, C.length = L.length → Closed R (m - 1) C → atI C x ≤ atI C y + (turnN (ordAt L x) b : Int)
  | d, x, hd, hx => by
    have hfx := H.full _ (ordAt_mem hx)
    have htx := H.tail _ (ordAt_mem hx)
    by_cases e : ordAt L x = b
    · exact ⟨x, hx, e, fun C _ _ => by omega⟩
    · obtain ⟨p, hp, hlt⟩ := adj hfx hb htx tb hm e
      obtain ⟨q, eq, hq, eo⟩ := (H.row x hx).2 p (by omega)
      have hless := xch_less hfx hb (by omega) hlt
      rw [← eo] at hless
      match d, hd with
      | 0, hd => omega
      | d + 1, hd =>
        obtain ⟨y, hy, ey, hc⟩ := lay_path H hm hb tb d q (by omega) hq
        refine ⟨y, hy, ey, fun C hl hC => ?_⟩
        have h1 := hc C hl hC
        have h2 := hC x p (by omega) (by omega)
        rw [eq, Int.toNat_natCast] at h2
        omega
theorem lay_near {m : Nat} {L R : List (List Int)} (H : LayI m L R L.length) (hm : m ≤ 6) {C : List Int} (hl : C.length = L.length) (hC : Closed R (m - 1) C) {x y : Nat} (hx : x < L.length) (hy : y < L.length) : atI C x ≤ atI C y + (turnN (ordAt L x) (ordAt L y) : Int) := by
  obtain ⟨z, hz, ez, hc⟩ := lay_path H hm (H.full _ (ordAt_mem hy)) (H.tail _ (ordAt_mem hy)) _ x (Nat.le_refl _) hx
  have := ordAt_inj H.nd hz hy ez
  subst this
  exact hc C hl hC
theorem lay_has {m : Nat} {L R : List (List Int)} (H : LayI m L R L.length) (hm : m ≤ 6) {b : List Int} (hb : FullO b) (tb : TailO m b) : ∃ y, y < L.length ∧ ordAt L y = b := by
  obtain ⟨y, hy, ey, _⟩ := lay_path H hm hb tb _ 0 (Nat.le_refl _) H.pos
  exact ⟨y, hy, ey⟩
end Go.Proofs.Ytcnjkdkkflpgnaa
/- Layer 8: no history costs less than Ideal, and Ideal's history costs no more. -/
namespace Go.Proofs.Ytcnjkdkkflpgnaa
open Go.RowKit Go.Maps
set_option linter.unusedVariables false

theorem fwdN_le {m : Nat} {L R : List (List Int)} (H : LayI m L R L.length) (hm : m ≤ 6) {o : List Int} {p : Nat} (ho : o.length = 6) (hp : p < m) (C : List Int) : ∀ t nu best s, t ≤ p → nu < L.length → ordAt L nu = movedL o p t → best < L.length → s ≤ p → ordAt L best = movedL o p s → (∀ y s', y < L.length → t ≤ s' → s' ≤ p → ordAt L y = movedL o p s' → atI C best ≤ atI C y) →
    fwdN R C t nu best < L.length ∧ (∃ s2, s2 ≤ p ∧ ordAt L (fwdN R C t nu best) = movedL o p s2) ∧ ∀ y s', y < L.length → s' ≤ p → ordAt L y = movedL o p s' → atI C (fwdN R C t nu best) ≤ atI C y
  | 0, nu, best, s, _, _, _, hb, hs, eb, hc => ⟨hb, ⟨s, hs, eb⟩, fun y s' hy h' e => hc y s' hy (Nat.zero_le _) h' e⟩
  | t + 1, nu, best, s, ht, hn, en, hb, hs, eb, hc => by
    obtain ⟨q, eq, hq, eo⟩ := (H.row nu hn).2 t (by omega)
    have hw : (witho o p).length = 5 := by rw [witho_len ho (by omega)]
    rw [en, moved_again (by omega)] at eo
    unfold fwdN
    rw [eq, Int.toNat_natCast]
    by_cases hlt : atI C q < atI C best
    · rw [if_pos hlt]
      refine fwdN_le H hm ho hp C t q q t (by omega) hq eo hq (by omega) eo fun y s' hy h1 h2 e => ?_
      by_cases e2 : s' = t
      · rw [ordAt_inj H.nd hy hq (by rw [e, eo, e2])]; exact Int.le_refl _
      · have := hc y s' hy (by omega) h2 e; omega
    · rw [if_neg hlt]
      refine fwdN_le H hm ho hp C t q best s (by omega) hq eo hb hs eb fun y s' hy h1 h2 e => ?_
      by_cases e2 : s' = t
      · rw [ordAt_inj H.nd hy hq (by rw [e, eo, e2])]; omega
      · exact hc y s' hy (by omega) h2 e
theorem fwdF_le {m : Nat} {L R : List (List Int)} (H : LayI m L R L.length) (hm : m ≤ 6) (C : List Int) {x r p : Nat} (hx : x < L.length) (hp : p < m) (hi : ixI (ordAt L x) (r : Int) = (p : Int)) :
    fwdF L R C x r < L.length ∧ (∃ s2, s2 ≤ p ∧ ordAt L (fwdF L R C x r) = movedL (ordAt L x) p s2) ∧ ∀ y s', y < L.length → s' ≤ p → ordAt L y = movedL (ordAt L x) p s' → atI C (fwdF L R C x r) ≤ atI C y := by
  have hl := (H.full _ (ordAt_mem hx)).len
  have hs := moved_self (o := ordAt L x) (p := p) (by omega)
  unfold fwdF
  rw [hi, Int.toNat_natCast]
  refine fwdN_le H hm hl hp C p x x p (Nat.le_refl _) hx hs.symm hx (Nat.le_refl _) hs.symm fun y s' hy h1 h2 e => ?_
  have e2 : s' = p := by omega
  rw [ordAt_inj H.nd hy hx (by rw [e, e2, hs])]
  exact Int.le_refl _
theorem few_or (o : List Int) : ∀ (xs : List (List Int)) (g : Nat), fewT o xs g = g ∨ ∃ x, x ∈ xs ∧ fewT o xs g = turnN x o
  | [], g => .inl rfl
  | y :: ys, g => by
    have h : fewT o (y :: ys) g = fewT o ys (min g (turnN y o)) := rfl
    rw [h]
    rcases few_or o ys (min g (turnN y o)) with e | ⟨x, hx, e⟩
    · rw [e]
      by_cases hg : g ≤ turnN y o
      · left; exact Nat.min_eq_left hg
      · right; exact ⟨y, List.mem_cons_self, Nat.min_eq_right (by omega)⟩
    · right; exact ⟨x, List.mem_cons_of_mem _ hx, e⟩
theorem few_mem {o : List Int} : ∀ {xs : List (List Int)} {g : Nat}, xs ≠ [] → (∀ x ∈ xs, turnN x o ≤ g) → ∃ x, x ∈ xs ∧ fewT o xs g = turnN x o
  | [], g, h, _ => absurd rfl h
  | y :: ys, g, _, hle => by
    have h : fewT o (y :: ys) g = fewT o ys (min g (turnN y o)) := rfl
    rw [h, Nat.min_eq_right (hle y List.mem_cons_self)]
    rcases few_or o ys (turnN y o) with e | ⟨x, hx, e⟩
    · exact ⟨y, List.mem_cons_self, e⟩
    · exact ⟨x, List.mem_cons_of_mem _ hx, e⟩
theorem few_le {o : List Int} : ∀ {xs : List (List Int)} {g : Nat} {x : List Int}, x ∈ xs → fewT o xs g ≤ turnN x o
  | y :: ys, g, x, h => by
    show fewT o ys (min g (turnN y o)) ≤ _
    rcases List.mem_cons.1 h with e | e
    · rw [e]; exact Nat.le_trans (fewT_le o ys _) (Nat.min_le_right _ _)
    · exact few_le e
theorem tail_pad {h : List Int} {m : Nat} (hl : h.length = m) : TailO m (padO h) := fun j hj h6 => atI_padge (by omega) h6
theorem preO_full {m n : Nat} {zs : List Int} {hs : List (List Int)} (hm : m ≤ 6) (h : ∀ k, k < n → okO (ordAt hs k) m = true) (hz : ∀ k, k < n → ∃ r : Nat, atI zs k = (r : Int) ∧ r < m) : ∀ i, i ≤ n → preO zs hs i ≠ [] ∧ ∀ b ∈ preO zs hs i, FullO b ∧ TailO m b
  | 0, _ => ⟨by simp [preO], fun b hb => by
    rw [show preO zs hs 0 = [o6] from rfl, List.mem_singleton] at hb
    rw [hb]; exact ⟨fullO_o6, tail_o6 m⟩⟩
  | i + 1, hi => by
    obtain ⟨r, e, hr⟩ := hz i (by omega)
    have hok := h i (by omega)
    obtain ⟨p, e2, hp⟩ := ok_place hok hr
    have hl := (okO_rolls hok).1
    have hx : exP zs hs i = p := by
      unfold exP
      rw [e, ixI_padlt hl hm hr, e2, Int.toNat_natCast]
    show choL (padO (ordAt hs i)) (exP zs hs i) (exP zs hs i + 1) ≠ [] ∧ ∀ b ∈ choL (padO (ordAt hs i)) (exP zs hs i) (exP zs hs i + 1), _
    rw [hx]
    refine ⟨fun e3 => ?_, fun b hb => ?_⟩
    · have := choL_len (padO (ordAt hs i)) p (p + 1)
      rw [e3] at this; cases this
    · obtain ⟨t, ht, e3⟩ := List.mem_map.1 hb
      have ht := List.mem_range.1 ht
      rw [← e3, moved_padk hl hp (by omega)]
      exact ⟨okO_full (ok_moved hok hp t) hm, tail_pad (okO_rolls (ok_moved hok hp t)).1⟩
section
variable {m : Nat} {L R : List (List Int)} {zs : List Int} {n : Nat}
theorem rj_closed (H : LayI m L R L.length) (h1 : 1 ≤ m) (hm : m ≤ 6) (hz : ∀ i, i < zs.length → ∃ r : Nat, atI zs i = (r : Int) ∧ r < m) {j : Nat} (hj : j < zs.length) : Closed R (m - 1) (rjF L R (m - 1) zs (j + 1)) := by
  have HL := H.laid h1 hm
  have hs := rjF_small HL hz j (by omega)
  obtain ⟨r, er, hr⟩ := hz (zs.length - 1 - j) (by omega)
  refine lowF_closed (b := 7 * (j : Int) + 7) fun i => ?_
  rw [atI_map]
  split
  · rename_i hi
    obtain ⟨p, ep, hp⟩ := HL.pl i hi r hr
    have h2 := hs (fwdF L R (rjF L R (m - 1) zs j) i r)
    unfold srvV
    rw [er, Int.toNat_natCast, ep]
    omega
  · omega
theorem rj_serve (H : LayI m L R L.length) {j x : Nat} (hx : x < L.length) : atI (rjF L R (m - 1) zs (j + 1)) x ≤ srvV L R (rjF L R (m - 1) zs j) x (atI zs (zs.length - 1 - j)).toNat := by
  have := lowGo_le (R := R) (mm := m - 1) (n := ((List.range L.length).map fun k => srvV L R (rjF L R (m - 1) zs j) k (atI zs (zs.length - 1 - j)).toNat).length) x (f := sumN ((List.range L.length).map fun k => srvV L R (rjF L R (m - 1) zs j) k (atI zs (zs.length - 1 - j)).toNat) + 1) (cs := (List.range L.length).map fun k => srvV L R (rjF L R (m - 1) zs j) k (atI zs (zs.length - 1 - j)).toNat)
  rw [atI_map, if_pos hx] at this
  exact this
theorem opt_le (H : LayI m L R L.length) (h1 : 1 ≤ m) (hm : m ≤ 6) (hn : zs.length = n) (hz : ∀ i, i < n → ∃ r : Nat, atI zs i = (r : Int) ∧ r < m) {hs : List (List Int)} (hh : hisB m hs n = true) : ∀ j, j ≤ n → ∃ x, x < L.length ∧ ordAt L x ∈ preO zs hs (n - j) ∧ atI (rjF L R (m - 1) zs j) x ≤ cstF zs hs n - cstF zs hs (n - j)
  | 0, _ => by
    have hok := (hisB_parts hh).2
    obtain ⟨hne, hf⟩ := preO_full hm hok hz n (Nat.le_refl _)
    obtain ⟨b, hb⟩ := List.exists_mem_of_ne_nil _ hne
    obtain ⟨x, hx, ex⟩ := lay_has H hm (hf b hb).1 (hf b hb).2
    refine ⟨x, hx, by rw [Nat.sub_zero, ex]; exact hb, ?_⟩
    have : atI (rjF L R (m - 1) zs 0) x = 0 := by
      show ((List.replicate L.length (0 : Int))[x]?).getD 0 = 0
      rw [List.getElem?_replicate]
      split <;> rfl
    rw [this, Nat.sub_zero]; omega
  | j + 1, hj => by
    have hok := (hisB_parts hh).2
    obtain ⟨x', hx', hm', hc'⟩ := opt_le H h1 hm hn hz hh j (by omega)
    obtain ⟨i, hi⟩ : ∃ i, i + 1 = n - j := ⟨n - j - 1, by omega⟩
    have hi2 : n - (j + 1) = i := by omega
    rw [← hi] at hm' hc'
    rw [hi2]
    obtain ⟨r, er, hr⟩ := hz i (by omega)
    have hoki := hok i (by omega)
    have hl := (okO_rolls hoki).1
    obtain ⟨p, e2, hp⟩ := ok_place hoki hr
    have hxp : exP zs hs i = p := by
      unfold exP
      rw [er, ixI_padlt hl hm hr, e2, Int.toNat_natCast]
    have hip : ixI (padO (ordAt hs i)) (r : Int) = (p : Int) := by rw [ixI_padlt hl hm hr, e2]
    have hm'2 : ordAt L x' ∈ choL (padO (ordAt hs i)) p (p + 1) := by
      have : ordAt L x' ∈ choL (padO (ordAt hs i)) (exP zs hs i) (exP zs hs i + 1) := hm'
      rwa [hxp] at this
    obtain ⟨t, ht, et⟩ := List.mem_map.1 hm'2
    have ht := List.mem_range.1 ht
    obtain ⟨y, hy, ey⟩ := lay_has H hm (okO_full hoki hm) (tail_pad hl)
    have hsv := rj_serve (m := m) (zs := zs) H (j := j) hy
    rw [show zs.length - 1 - j = i by omega, er, Int.toNat_natCast] at hsv
    obtain ⟨_, _, hfw⟩ := fwdF_le H hm (rjF L R (m - 1) zs j) hy hp (by rw [ey]; exact hip)
    have h3 := hfw x' t hx' (by omega) (by rw [ey]; exact et.symm)
    unfold srvV at hsv
    rw [ey, hip] at hsv
    obtain ⟨hne, hf⟩ := preO_full hm hok hz i (by omega)
    obtain ⟨b, hb, eb⟩ := few_mem (o := padO (ordAt hs i)) (g := 36) hne (fun z hz2 => turnN_36 (by rw [(hf z hz2).1.len]; omega))
    obtain ⟨x, hx, ex⟩ := lay_has H hm (hf b hb).1 (hf b hb).2
    have h4 := lay_near H hm (rjF_len L R (m - 1) zs (j + 1)) (rj_closed H h1 hm (by rw [hn]; exact hz) (by omega)) hx hy
    rw [ex, ey, ← eb] at h4
    refine ⟨x, hx, by rw [ex]; exact hb, ?_⟩
    have h5 : cstF zs hs (i + 1) = cstF zs hs i + ((fewT (padO (ordAt hs i)) (preO zs hs i) 36 : Int) + (p : Int) + 1) := by
      show cstF zs hs i + stpC zs hs i = _
      unfold stpC
      rw [er, hip]
    omega
theorem chN_mem (zs row : List Int) (k : Nat) : ∀ t, chN zs row k t = k ∨ ∃ p, p < t ∧ chN zs row k t = (atI row p).toNat
  | 0 => .inl rfl
  | t + 1 => by
    unfold chN
    split
    · exact .inr ⟨t, by omega, rfl⟩
    · rcases chN_mem zs row k t with e | ⟨p, hp, e⟩
      · exact .inl e
      · exact .inr ⟨p, by omega, e⟩
theorem flW_cost (H : LayI m L R L.length) (hm : m ≤ 6) {j : Nat} {b : Int} (hs : smallZ (rjF L R (m - 1) zs (j + 1)) b) : ∀ f x, x < L.length → (atI (rjF L R (m - 1) zs (j + 1)) x).toNat < f →
    flW L R (m - 1) (rjF L R (m - 1) zs (j + 1)) (rjF L R (m - 1) zs j) (atI zs (zs.length - 1 - j)).toNat f x < L.length ∧
    (turnN (ordAt L x) (ordAt L (flW L R (m - 1) (rjF L R (m - 1) zs (j + 1)) (rjF L R (m - 1) zs j) (atI zs (zs.length - 1 - j)).toNat f x)) : Int) ≤ atI (rjF L R (m - 1) zs (j + 1)) x - atI (rjF L R (m - 1) zs (j + 1)) (flW L R (m - 1) (rjF L R (m - 1) zs (j + 1)) (rjF L R (m - 1) zs j) (atI zs (zs.length - 1 - j)).toNat f x) ∧
    srvV L R (rjF L R (m - 1) zs j) (flW L R (m - 1) (rjF L R (m - 1) zs (j + 1)) (rjF L R (m - 1) zs j) (atI zs (zs.length - 1 - j)).toNat f x) (atI zs (zs.length - 1 - j)).toNat ≤ atI (rjF L R (m - 1) zs (j + 1)) (flW L R (m - 1) (rjF L R (m - 1) zs (j + 1)) (rjF L R (m - 1) zs j) (atI zs (zs.length - 1 - j)).toNat f x)
  | 0, x, _, h => absurd h (Nat.not_lt_zero _)
  | f + 1, x, hx, hf => by
    unfold flW
    by_cases hlt : atI (rjF L R (m - 1) zs (j + 1)) x < srvV L R (rjF L R (m - 1) zs j) x (atI zs (zs.length - 1 - j)).toNat
    · rw [if_pos hlt]
      have hless := rj_less hx hlt
      obtain ⟨q, hq⟩ : ∃ q, q = chN (rjF L R (m - 1) zs (j + 1)) (ordAt R x) x (m - 1) := ⟨_, rfl⟩
      rw [← hq] at hless ⊢
      have h0 := (hs q).1
      rcases chN_mem (rjF L R (m - 1) zs (j + 1)) (ordAt R x) x (m - 1) with e | ⟨p, hp, e⟩
      · rw [← hq] at e; rw [e] at hless; omega
      · obtain ⟨q', eq, hq', eo⟩ := (H.row x hx).2 p hp
        rw [eq, Int.toNat_natCast, ← hq] at e
        subst e
        obtain ⟨k1, k2, k3⟩ := flW_cost H hm hs f q hq' (by omega)
        refine ⟨k1, ?_, k3⟩
        have hfx := H.full _ (ordAt_mem hx)
        have hone := xch_one (p := p) hfx (by omega)
        rw [← eo] at hone
        have htri := turn_tri (c := ordAt L (flW L R (m - 1) (rjF L R (m - 1) zs (j + 1)) (rjF L R (m - 1) zs j) (atI zs (zs.length - 1 - j)).toNat f q)) hfx.nodup (hfx.trans (H.full _ (ordAt_mem hq')).symm)
        omega
    · rw [if_neg hlt]
      refine ⟨hx, ?_, by omega⟩
      rw [turn_self (H.full _ (ordAt_mem hx)).nodup]
      omega
end
end Go.Proofs.Ytcnjkdkkflpgnaa
