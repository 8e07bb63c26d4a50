import Derived.Test.YtcnjkdkkflpgnaaT49
/- Layer 8: what stands while the reference's Ideal reckons. -/
namespace Go.Proofs.Ytcnjkdkkflpgnaa
open Go.RowKit Go.Maps
set_option linter.unusedVariables false

/-- The index that the table keeps for an order. -/
def wOf (Wl : List Int) (o : List Int) : Nat := (atI Wl (codN o 0).toNat).toNat
/-- The table knows every order of m rolls. -/
structure WhOk (m : Nat) (LL : List (List Int)) (Wl : List Int) : Prop where
  at_ : ∀ o, List.Perm o (startL m) → ∃ k : Nat, atI Wl (codN o 0).toNat = (k : Int) ∧ k < LL.length ∧ ordAt LL k = o
theorem WhOk.wof {m : Nat} {LL : List (List Int)} {Wl : List Int} (h : WhOk m LL Wl) {o : List Int} (ho : List.Perm o (startL m)) : atI Wl (codN o 0).toNat = (wOf Wl o : Int) ∧ wOf Wl o < LL.length ∧ ordAt LL (wOf Wl o) = o := by
  obtain ⟨k, e1, hk, e2⟩ := h.at_ o ho
  have : wOf Wl o = k := by unfold wOf; rw [e1, Int.toNat_natCast]
  rw [this]; exact ⟨e1, hk, e2⟩
theorem small_of {m : Nat} (hm : m ≤ 6) {o : List Int} (ho : List.Perm o (startL m)) : ∀ u ∈ o, 0 ≤ u ∧ u < 6 := fun u hu => by
  obtain ⟨r, e, hr⟩ := startL_mem.1 (ho.mem_iff.1 hu)
  omega
theorem cod_nat {m : Nat} (hm : m ≤ 6) {o : List Int} (ho : List.Perm o (startL m)) : ∃ c : Nat, codN o 0 = (c : Int) ∧ c < 6 ^ m := by
  have h := codN_bd (a := o) (x := 0) (c := 1) (small_of hm ho) (by omega) (by omega)
  rw [ho.length_eq, startL_len, Nat.one_mul] at h
  exact ⟨(codN o 0).toNat, by omega, by omega⟩
/-- One more order in the table. -/
theorem wh_step {m i : Nat} {LL : List (List Int)} {Wl : List Int} (hm : m ≤ 6) (hp : ∀ o ∈ LL, List.Perm o (startL m)) (hi : i < LL.length) {c : Nat} (hc : codN (ordAt LL i) 0 = (c : Int)) (hcl : c < Wl.length)
    (h : ∀ j, j < i → ∃ k : Nat, atI Wl (codN (ordAt LL j) 0).toNat = (k : Int) ∧ k < LL.length ∧ ordAt LL k = ordAt LL j) : ∀ j, j < i + 1 → ∃ k : Nat, atI (Wl.set c (i : Int)) (codN (ordAt LL j) 0).toNat = (k : Int) ∧ k < LL.length ∧ ordAt LL k = ordAt LL j := fun j hj => by
  rw [atI_set hcl]
  by_cases e : (codN (ordAt LL j) 0).toNat = c
  · rw [if_pos e]
    refine ⟨i, rfl, hi, ?_⟩
    have pj := hp _ (ordAt_mem (show j < LL.length by omega))
    have pi := hp _ (ordAt_mem hi)
    obtain ⟨cj, ej, _⟩ := cod_nat hm pj
    have : codN (ordAt LL i) 0 = codN (ordAt LL j) 0 := by rw [ej, Int.toNat_natCast] at e; rw [hc, ej, e]
    exact (codN_inj (pi.length_eq.trans pj.length_eq.symm) (small_of hm pi) (small_of hm pj) this).2
  · rw [if_neg e]
    by_cases e2 : j = i
    · exact absurd (by rw [e2, hc, Int.toNat_natCast]) e
    · exact h j (by omega)
theorem wh_end {m : Nat} {Wl : List Int} (h : ∀ j, j < (allL m).length → ∃ k : Nat, atI Wl (codN (ordAt (allL m) j) 0).toNat = (k : Int) ∧ k < (allL m).length ∧ ordAt (allL m) k = ordAt (allL m) j) : WhOk m (allL m) Wl := ⟨fun o ho => by
  obtain ⟨h1, h2⟩ := ordAt_idx (allL_has m o ho)
  have := h _ h1
  rw [h2] at this
  exact this⟩
theorem flat_inj {m i k i' k' : Nat} (hk : k < m) (hk' : k' < m) (h : i * m + k = i' * m + k') : i = i' ∧ k = k' := by
  have h1 : (i * m + k) / m = i := by rw [Nat.mul_comm, Nat.mul_add_div (by omega), Nat.div_eq_of_lt hk]; omega
  have h2 : (i' * m + k') / m = i' := by rw [Nat.mul_comm, Nat.mul_add_div (by omega), Nat.div_eq_of_lt hk']; omega
  have e : i = i' := by rw [← h1, h, h2]
  subst e
  exact ⟨rfl, by omega⟩
theorem flat_lt {m i k n : Nat} (hk : k < m) (hi : i < n) : i * m + k < n * m := by
  have h1 : (i + 1) * m ≤ n * m := Nat.mul_le_mul_right m hi
  rw [Nat.succ_mul] at h1
  omega
section
variable {m n : Nat} {zs : List Int} {LL : List (List Int)} {Wl : List Int}
/-- From each order on, no less than Ideal's cost. -/
def Low (m : Nat) (zs : List Int) (LL : List (List Int)) (X : List Int) (j : Nat) : Prop := ∀ k, k < LL.length → idN m zs ≤ atI X k + gN m zs j (padO (ordAt LL k))
/-- No more than the least history, and the exchanges from where it leaves the row. -/
def Upp (m : Nat) (zs : List Int) (Wl X : List Int) (q : Nat) : Prop := ∀ o, List.Perm o (startL m) → ∀ b ∈ preO zs (idL m zs zs.length) q, atI X (wOf Wl o) ≤ cstF zs (idL m zs zs.length) q + (turnN b (padO o) : Int)
theorem pad_ft (hm : m ≤ 6) {o : List Int} (ho : List.Perm o (startL m)) : FullO (padO o) ∧ TailO m (padO o) := ⟨okO_full (perm_okO ho) hm, tail_pad (by rw [ho.length_eq, startL_len])⟩
theorem low_start (h1 : 1 ≤ m) (hm : m ≤ 6) (hz : ∀ i, i < zs.length → ∃ r : Nat, atI zs i = (r : Int) ∧ r < m) (hp : ∀ o ∈ LL, List.Perm o (startL m)) {X : List Int} (hX : ∀ k, k < LL.length → atI X k = (turnN (startL m) (ordAt LL k) : Int)) : Low m zs LL X zs.length := fun k hk => by
  have ho := hp _ (ordAt_mem hk)
  obtain ⟨f, t⟩ := pad_ft hm ho
  rw [hX k hk, ← gN_all hm]
  cases hn : zs.length with
  | zero => rw [gN_zero, gN_zero]; omega
  | succ j =>
    have := gN_near h1 hm hz (j := j) (by omega) fullO_o6 (tail_o6 m) f t
    rw [← startL_pad m hm, turn_pad (start_ok m) (perm_okO ho) hm] at this
    rw [← startL_pad m hm]
    omega
theorem upp_start (hm : m ≤ 6) (hp : WhOk m LL Wl) {X : List Int} (hX : ∀ k, k < LL.length → atI X k = (turnN (startL m) (ordAt LL k) : Int)) : Upp m zs Wl X 0 := fun o ho b hb => by
  rw [show preO zs (idL m zs zs.length) 0 = [o6] from rfl, List.mem_singleton] at hb
  obtain ⟨_, h2, h3⟩ := hp.wof ho
  rw [hX _ h2, h3, hb, ← startL_pad m hm, turn_pad (start_ok m) (perm_okO ho) hm]
  show _ ≤ (0 : Int) + _
  omega
theorem low_serve (hm : m ≤ 6) (hp : ∀ o ∈ LL, List.Perm o (startL m)) {X : List Int} {j r p t : Nat} (hL : Low m zs LL X (j + 1)) (hj : j < zs.length) (er : atI zs (zs.length - 1 - j) = (r : Int)) (hr : r < m) {i : Nat} (hi : i < LL.length) (ep : ixI (ordAt LL i) (r : Int) = (p : Int)) (hpm : p < m) (ht : t ≤ p) : idN m zs ≤ atI X i + (p : Int) + 1 + gN m zs j (padO (movedL (ordAt LL i) p t)) := by
  have ho := hp _ (ordAt_mem hi)
  obtain ⟨f, tt⟩ := pad_ft hm ho
  have hl : (ordAt LL i).length = m := by rw [ho.length_eq, startL_len]
  have h1 := hL i hi
  have h2 := gN_serve hm f tt hj er hpm (by rw [ixI_padlt hl hm hr, ep]) ht
  rw [moved_padk hl hpm ht] at h2
  omega
theorem low_xch (h1 : 1 ≤ m) (hm : m ≤ 6) (hz : ∀ i, i < zs.length → ∃ r : Nat, atI zs i = (r : Int) ∧ r < m) (hp : ∀ o ∈ LL, List.Perm o (startL m)) {X : List Int} {j : Nat} (hL : Low m zs LL X j) (hj : j ≤ zs.length) {i k : Nat} (hi : i < LL.length) (hk : k + 1 < m) : idN m zs ≤ atI X i + 1 + gN m zs j (padO (movedL (ordAt LL i) (k + 1) k)) := by
  have ho := hp _ (ordAt_mem hi)
  obtain ⟨f, tt⟩ := pad_ft hm ho
  have hl : (ordAt LL i).length = m := by rw [ho.length_eq, startL_len]
  have h2 := hL i hi
  cases j with
  | zero => rw [gN_zero] at h2 ⊢; omega
  | succ j =>
    have e := moved_padk (q := k) hl hk (by omega)
    have h3 := gN_near h1 hm hz (j := j) (by omega) f tt (f.moved (by omega) k) (tt.exch f.len hm hk)
    have h4 := xch_one (p := k) f (by omega)
    rw [e] at h3 h4
    omega
theorem upp_step (h1 : 1 ≤ m) (hm : m ≤ 6) (hz : ∀ i, i < zs.length → ∃ r : Nat, atI zs i = (r : Int) ∧ r < m) (hp : ∀ o ∈ LL, List.Perm o (startL m)) (hW : WhOk m LL Wl) {Cl X : List Int} {q r : Nat} (hq : q < zs.length) (er : atI zs q = (r : Int)) (hr : r < m) (hU : Upp m zs Wl Cl q)
    (hS1 : ∀ (i p : Nat), i < LL.length → ixI (ordAt LL i) (r : Int) = (p : Int) → atI X i ≤ atI Cl i + (p : Int) + 1)
    (hS : ∀ (i p t : Nat), i < LL.length → ixI (ordAt LL i) (r : Int) = (p : Int) → t < p → atI X (wOf Wl (movedL (ordAt LL i) p t)) ≤ atI Cl i + (p : Int) + 1)
    (hX : ∀ i k, i < LL.length → k + 1 < m → atI X (wOf Wl (movedL (ordAt LL i) (k + 1) k)) ≤ atI X i + 1) : Upp m zs Wl X (q + 1) := fun o ho b hb => by
  have hok := (hisB_parts (ideal_his h1 hm rfl hz)).2
  have hoki := hok q hq
  have hl := (okO_rolls hoki).1
  obtain ⟨p, e2, hpm⟩ := ok_place hoki hr
  have hip : ixI (padO (ordAt (idL m zs zs.length) q)) (r : Int) = (p : Int) := by rw [ixI_padlt hl hm hr, e2]
  have hxp : exP zs (idL m zs zs.length) q = p := by
    unfold exP
    rw [er, hip, Int.toNat_natCast]
  have hb2 : b ∈ choL (padO (ordAt (idL m zs zs.length) q)) p (p + 1) := by
    have : b ∈ choL (padO (ordAt (idL m zs zs.length) q)) (exP zs (idL m zs zs.length) q) (exP zs (idL m zs zs.length) q + 1) := hb
    rwa [hxp] at this
  obtain ⟨t, ht, et⟩ := List.mem_map.1 hb2
  have ht := List.mem_range.1 ht
  rw [moved_padk hl hpm (by omega)] at et
  have hst : cstF zs (idL m zs zs.length) (q + 1) = cstF zs (idL m zs zs.length) q + ((fewT (padO (ordAt (idL m zs zs.length) q)) (preO zs (idL m zs zs.length) q) 36 : Int) + (p : Int) + 1) := by
    show cstF zs (idL m zs zs.length) q + stpC zs (idL m zs zs.length) q = _
    unfold stpC
    rw [er, hip]
  generalize ordAt (idL m zs zs.length) q = hh at *
  have hph := okO_perm hoki
  obtain ⟨hne, hf⟩ := preO_full hm hok hz q (by omega)
  obtain ⟨b0, hb0, eb0⟩ := few_mem (o := padO hh) (g := 36) hne (fun z hz2 => turnN_36 (by rw [(hf z hz2).1.len]; omega))
  obtain ⟨_, w2, w3⟩ := hW.wof hph
  have k1 := hU hh hph b0 hb0
  have k2 : atI X (wOf Wl (movedL hh p t)) ≤ atI Cl (wOf Wl hh) + (p : Int) + 1 := by
    by_cases et2 : t = p
    · rw [et2, moved_self (by omega)]
      exact hS1 (wOf Wl hh) p w2 (by rw [w3]; exact e2)
    · have := hS (wOf Wl hh) p t w2 (by rw [w3]; exact e2) (by omega)
      rwa [w3] at this
  have hmp : List.Perm (movedL hh p t) (startL m) := (moved_perm (by omega)).trans hph
  -- the way by exchanges
  have hV := val_path hm (fun o => atI X (wOf Wl (o.take m))) (fun a k fa ta hk => by
    have pa := okO_perm (take_ok fa ta hm)
    have hla : (a.take m).length = m := by rw [pa.length_eq, startL_len]
    obtain ⟨_, u2, u3⟩ := hW.wof pa
    have := hX (wOf Wl (a.take m)) k u2 hk
    rw [u3] at this
    have e : movedL (a.take m) (k + 1) k = (movedL a (k + 1) k).take m := by
      have h6 := moved_padk (q := k) hla hk (by omega)
      rw [pad_take fa.len ta hm] at h6
      rw [h6]
      unfold padO
      have hlm : (movedL (a.take m) (k + 1) k).length = m := ((moved_perm (o := a.take m) (p := k + 1) (q := k) (by omega)).length_eq).trans hla
      rw [List.take_append_of_le_length (Nat.le_of_eq hlm.symm), List.take_of_length_le (Nat.le_of_eq hlm)]
    rw [← e]
    exact this) (pad_ft hm ho).1 (pad_ft hm ho).2 _ b (by rw [← et]; exact (pad_ft hm hmp).1) (by rw [← et]; exact (pad_ft hm hmp).2) (Nat.le_refl _)
  have tk : ∀ {o : List Int}, List.Perm o (startL m) → (padO o).take m = o := fun {o} ho => by
    unfold padO
    have : o.length = m := by rw [ho.length_eq, startL_len]
    rw [List.take_append_of_le_length (by omega), List.take_of_length_le (by omega)]
  have hV : atI X (wOf Wl ((padO o).take m)) ≤ atI X (wOf Wl (b.take m)) + (turnN b (padO o) : Int) := hV
  rw [tk ho] at hV
  have e3 : b.take m = movedL hh p t := by rw [← et]; exact tk hmp
  rw [e3] at hV
  rw [hst, eb0]
  omega
/-- The costs of the next request, while they are lowered. -/
structure RxI (m : Nat) (zs : List Int) (LL : List (List Int)) (Cl : List Int) (r nL j : Nat) (X : List Int) : Prop where
  len : X.length = nL
  low : Low m zs LL X j
  pos : ∀ i, i < nL → 0 ≤ atI X i
  up : ∀ (i p : Nat), i < nL → ixI (ordAt LL i) (r : Int) = (p : Int) → atI X i ≤ atI Cl i + (p : Int) + 1
/-- The free moves that have been looked at. -/
def MvD (LL : List (List Int)) (Wl Cl : List Int) (r a t : Nat) (X : List Int) : Prop := ∀ (a' p t' : Nat), (a' < a ∨ (a' = a ∧ t' < t)) → ixI (ordAt LL a') (r : Int) = (p : Int) → t' < p → atI X (wOf Wl (movedL (ordAt LL a') p t')) ≤ atI Cl a' + (p : Int) + 1
theorem set_le {X : List Int} {k : Nat} {v : Int} (hk : k < X.length) (hv : v ≤ atI X k) (i : Nat) : atI (X.set k v) i ≤ atI X i := by
  rw [atI_set hk]
  split
  · rename_i e; rw [e]; exact hv
  · exact Int.le_refl _
theorem MvD.mono {Cl X X' : List Int} {r a t : Nat} (h : MvD LL Wl Cl r a t X) (hx : ∀ i, atI X' i ≤ atI X i) : MvD LL Wl Cl r a t X' := fun a' p t' h1 h2 h3 => Int.le_trans (hx _) (h a' p t' h1 h2 h3)
theorem RxI.set {Cl X : List Int} {r nL j k : Nat} {v : Int} (h : RxI m zs LL Cl r nL j X) (hL : LL.length = nL) (hk : k < nL) (h0 : 0 ≤ v) (hv : v ≤ atI X k) (hl : idN m zs ≤ v + gN m zs j (padO (ordAt LL k))) : RxI m zs LL Cl r nL j (X.set k v) := by
  have hkl : k < X.length := by rw [h.len]; exact hk
  refine ⟨by rw [List.length_set]; exact h.len, fun i hi => ?_, fun i hi => ?_, fun i p hi hp => Int.le_trans (set_le hkl hv i) (h.up i p hi hp)⟩
  · rw [atI_set hkl]
    split
    · rename_i e; rw [e]; exact hl
    · exact h.low i hi
  · rw [atI_set hkl]
    split
    · exact h0
    · exact h.pos i hi
end
end Go.Proofs.Ytcnjkdkkflpgnaa
