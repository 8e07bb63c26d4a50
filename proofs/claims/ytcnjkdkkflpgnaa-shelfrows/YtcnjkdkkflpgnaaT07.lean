import Derived.Test.YtcnjkdkkflpgnaaT06
/- Layer 8: the reference's Front; both give the same. -/
namespace Go.Proofs.Ytcnjkdkkflpgnaa
open Go.RowKit
set_option linter.unusedVariables false

/-- Every roll of a row of m stands in the order. -/
def FullM (m : Nat) (o : List Int) : Prop := List.Perm o (startL m)
theorem FullM.len {m : Nat} {o : List Int} (h : FullM m o) : o.length = m := h.length_eq.trans (startL_len m)
theorem FullM.place {m : Nat} {o : List Int} (h : FullM m o) {r : Nat} (hr : r < m) : ∃ k : Nat, ixI o (r : Int) = (k : Int) ∧ k < m := by
  have hm : ((r : Nat) : Int) ∈ o := (List.Perm.mem_iff h).2 (List.mem_map.2 ⟨r, List.mem_range.2 hr, rfl⟩)
  have hs := plI_mem (zs := o) (x := (r : Int))
  rw [decide_eq_true hm] at hs
  unfold ixI
  cases hp : plI o (r : Int) with
  | none => rw [hp] at hs; cases hs
  | some k => exact ⟨k, rfl, by have := plI_lt hp; rw [h.len] at this; exact this⟩
theorem FullM.moved {m : Nat} {o : List Int} (h : FullM m o) {p : Nat} (hp : p < m) (q : Nat) : FullM m (movedL o p q) := (moved_perm (by rw [h.len]; exact hp)).trans h
theorem frM_full {m : Nat} {zs o : List Int} (h : FullM m o) (hz : ∀ k, k < zs.length → ∃ r : Nat, atI zs k = (r : Int) ∧ r < m) : ∀ k, k ≤ zs.length → FullM m (frO zs o k)
  | 0, _ => h
  | k + 1, hk => by
    have ih := frM_full h hz k (by omega)
    obtain ⟨r, e, hr⟩ := hz k (by omega)
    obtain ⟨p, e2, hp⟩ := ih.place hr
    show FullM m (movedL (frO zs o k) (ixI (frO zs o k) (atI zs k)).toNat 0)
    rw [e, e2]
    exact ih.moved (by simpa using hp) 0
theorem frM_le {m : Nat} {zs o : List Int} (h : FullM m o) (hm : m ≤ 6) (hz : ∀ k, k < zs.length → ∃ r : Nat, atI zs k = (r : Int) ∧ r < m) : ∀ k : Nat, k ≤ zs.length → 0 ≤ frC zs o k ∧ frC zs o k ≤ 6 * (k : Int)
  | 0, _ => ⟨Int.le_refl _, Int.le_refl _⟩
  | k + 1, hk => by
    have ih := frM_le h hm hz k (by omega)
    obtain ⟨r, e, hr⟩ := hz k (by omega)
    obtain ⟨p, e2, hp⟩ := (frM_full h hz k (by omega)).place hr
    show 0 ≤ frC zs o k + (ixI (frO zs o k) (atI zs k) + 1) ∧ frC zs o k + (ixI (frO zs o k) (atI zs k) + 1) ≤ _
    rw [e, e2]
    omega
theorem padO_start : ∀ m, m ≤ 6 → padO (startL m) = o6 := by decide
/-- What stands behind the rolls of the row stays there. -/
theorem moved_pad {o : List Int} {m p : Nat} (hl : o.length = m) (hp : p < m) : movedL (padO o) p 0 = padO (movedL o p 0) := by
  have e : atI (padO o) p = atI o p := atI_padlt (by omega)
  have hlm : (movedL o p 0).length = o.length := (moved_perm (by omega)).length_eq
  unfold padO at e ⊢
  rw [hlm]
  unfold movedL
  rw [e]
  unfold witho
  rw [List.take_zero, List.take_zero, List.drop_zero, List.drop_zero, List.take_append_of_le_length (by omega), List.drop_append_of_le_length (by omega)]
  simp only [List.nil_append, List.append_assoc]
theorem fr_pad {zs o : List Int} {m : Nat} (h : FullM m o) (hm : m ≤ 6) (hz : ∀ k, k < zs.length → ∃ r : Nat, atI zs k = (r : Int) ∧ r < m) : ∀ k, k ≤ zs.length → frO zs (padO o) k = padO (frO zs o k) ∧ frC zs (padO o) k = frC zs o k
  | 0, _ => ⟨rfl, rfl⟩
  | k + 1, hk => by
    have ih := fr_pad h hm hz k (by omega)
    have hf := frM_full h hz k (by omega)
    obtain ⟨r, e, hr⟩ := hz k (by omega)
    obtain ⟨p, e2, hp⟩ := hf.place hr
    have e3 : ixI (frO zs (padO o) k) (r : Int) = (p : Int) := by rw [ih.1, ixI_padlt hf.len hm hr, e2]
    refine ⟨?_, ?_⟩
    · show movedL (frO zs (padO o) k) (ixI (frO zs (padO o) k) (atI zs k)).toNat 0 = padO (movedL (frO zs o k) (ixI (frO zs o k) (atI zs k)).toNat 0)
      rw [e, e3, e2, ih.1]
      exact moved_pad hf.len (by simpa using hp)
    · show frC zs (padO o) k + (ixI (frO zs (padO o) k) (atI zs k) + 1) = frC zs o k + (ixI (frO zs o k) (atI zs k) + 1)
      rw [e, e3, e2, ih.2]
/-- What the program gives is what the reference gives. -/
theorem fr_same {zs : List Int} {m : Nat} (hm : m ≤ 6) (hz : ∀ k, k < zs.length → ∃ r : Nat, atI zs k = (r : Int) ∧ r < m) : (frO zs o6 zs.length).take m = frO zs (startL m) zs.length ∧ frC zs o6 zs.length = frC zs (startL m) zs.length := by
  have hf : FullM m (startL m) := List.Perm.refl _
  have h := fr_pad hf hm hz zs.length (Nat.le_refl _)
  rw [padO_start m hm] at h
  refine ⟨?_, h.2⟩
  rw [h.1]
  have hl := (frM_full hf hz zs.length (Nat.le_refl _)).len
  unfold padO
  rw [List.take_append_of_le_length (by omega), List.take_of_length_le (by omega)]
set_option maxRecDepth 100000 in
set_option maxHeartbeats 6400000 in
theorem frontR_any (mm : Nat) (zs : List Int) (A : Option Addr) (n c : Nat) (w : World) (h : Sl w A n c zs) (hm : mm ≤ 6) (hn : n ≤ 60) (hz : ∀ k, k < n → ∃ r : Nat, atI zs k = (r : Int) ∧ r < mm) :
    Calls Try.prog 31 #[.int .i64 (mm : Int), .slice A n c] w fun e w' => (∃ v, e = .returned (.tuple #[.int .i64 (frC zs (startL mm) n), v]) ∧ Ow w' w.heap.size 3 v (frO zs (startL mm) n)) ∧ Below w.heap.size w w' := by
  have hbig := h.big
  have HL : Hid (zs.length = n) := h.len
  have hz' : ∀ k, k < zs.length → ∃ r : Nat, atI zs k = (r : Int) ∧ r < mm := by rw [HL.out]; exact hz
  have hf : FullM mm (startL mm) := List.Perm.refl _
  have HZ := Lib.hid hz
  have HSL := Lib.hid (fun V (hV : Below w.heap.size w V) => h.below hV (Nat.le_refl _))
  have HFU : Hid (∀ k, k ≤ n → FullM mm (frO zs (startL mm) k)) := fun k hk => frM_full hf hz' k (by rw [HL.out]; exact hk)
  have HFC : Hid (∀ k : Nat, k ≤ n → 0 ≤ frC zs (startL mm) k ∧ frC zs (startL mm) k ≤ 6 * (k : Int)) := fun k hk => frM_le hf hm hz' k (by rw [HL.out]; exact hk)
  have HST := Lib.hid (startR_any mm w (by omega))
  have HMM : Hid (mm ≤ 6 ∧ n ≤ 60) := ⟨hm, hn⟩
  clear h hz hz' hf
  go_enter Try.func31, Try.ntmps31
  go_wp2_with (go_at_call 64; refine HST.out.mono ?_; rintro e w1 ⟨⟨v1, rfl, ho⟩, hb⟩; have HO := Lib.hid ho; have HB := Lib.hid hb; clear ho hb)
  go_loopw [6, 7, 8] (fun v s i w' => ∃ k : Nat, k ≤ n ∧ i = .int .i64 (k : Int) ∧ s = .int .i64 (frC zs (startL mm) k) ∧ Hid (Ow w' w.heap.size 3 v (frO zs (startL mm) k)) ∧ Hid (Below w.heap.size w w')) (fun _ _ i _ => n - (intOf i).toNat)
  case atStart => exact ⟨0, Nat.zero_le _, by go_num, rfl, HO.out, HB.out⟩
  case round =>
    rename_i vr sr ir
    obtain ⟨k, hk, rfl, rfl, HR, HE⟩ := hrel
    obtain ⟨wo, rfl⟩ : ∃ wo : World, wo = wr := ⟨_, rfl⟩
    clear HO HB
    by_cases hlt : k < n
    · have i1 : (k : Int) < (n : Int) := by omega
      have hso := HSL.out wo HE.out
      obtain ⟨b, off, rfl, hc⟩ := hso.at_ hlt
      obtain ⟨r, hr, hrm⟩ := HZ.out k hlt
      rw [show zs[k]?.getD 0 = (r : Int) from hr] at hc
      have hfu := HFU.out k hk
      obtain ⟨p, hp, hpm⟩ := hfu.place hrm
      have hfc := HFC.out k hk
      obtain ⟨hm6, hn6⟩ := HMM.out
      have v1 : IntKind.i64.wrap (frC zs (startL mm) k + (p : Int)) = frC zs (startL mm) k + (p : Int) := IntWalk.i64_in _ (by omega)
      have v2 : IntKind.i64.wrap (frC zs (startL mm) k + (p : Int) + 1) = frC zs (startL mm) k + (p : Int) + 1 := IntWalk.i64_in _ (by omega)
      have HSC : Hid (frC zs (startL mm) (k + 1) = frC zs (startL mm) k + (p : Int) + 1) := by
        show frC zs (startL mm) k + (ixI (frO zs (startL mm) k) (atI zs k) + 1) = _
        rw [hr, hp]; omega
      have HSO : Hid (frO zs (startL mm) (k + 1) = movedL (frO zs (startL mm) k) p 0) := by
        show movedL (frO zs (startL mm) k) (ixI (frO zs (startL mm) k) (atI zs k)).toNat 0 = _
        rw [hr, hp]; rfl
      obtain ⟨A2, c2, rfl, hs2⟩ := HR.out.sl_len hfu.len (by omega)
      have HIX : Hid (Calls Try.prog 50 #[.slice A2 mm c2, .int .i64 (r : Int)] wo fun e w' => e = .returned (.int .i64 (p : Int)) ∧ wo = w') := by
        have := index_any (frO zs (startL mm) k) (r : Int) A2 mm c2 wo hs2
        rw [hp] at this
        exact this
      have HMV := Lib.hid (movedR_any A2 mm c2 p 0 (frO zs (startL mm) k) wo hs2 hpm (Nat.zero_le _) (by omega))
      clear hso hr hp hfu hs2 hfc hm6 hn6 HFU HFC HZ HSL
      generalize frC zs (startL mm) k = fc at *
      go_wp2_with (first
        | (go_at_call 50; refine HIX.out.mono ?_; rintro e V1 ⟨rfl, rfl⟩)
        | (go_at_call 65; refine HMV.out.mono ?_; rintro e V2 ⟨⟨v2, rfl, ho⟩, hb⟩; have HO2 := Lib.hid ho; have HB2 := Lib.hid hb; clear ho hb))
      exact ⟨⟨k + 1, by omega, by go_num, by rw [HSC.out], by rw [HSO.out]; exact HO2.out.base HE.out.size, HE.out.trans (HB2.out.mono HE.out.size)⟩, by simp [intOf]; omega⟩
    · have hkn : k = n := by omega
      subst hkn
      have i1 : ¬ (k : Int) < (k : Int) := by omega
      go_wp2
      go_ret2
      exact ⟨⟨_, rfl, HR.out⟩, HE.out⟩
end Go.Proofs.Ytcnjkdkkflpgnaa
/- Layer 8: owned slices of orders; choices. -/
namespace Go.Proofs.Ytcnjkdkkflpgnaa
open Go.RowKit
set_option linter.unusedVariables false

def odC (L : List (List Int)) : List Value := L.flatMap oL
theorem odC_len : ∀ (L : List (List Int)), (odC L).length = L.length * 6
  | [] => rfl
  | p :: ps => by
    have ih := odC_len ps
    show (oL p ++ odC ps).length = _
    rw [List.length_append, ih, show (oL p).length = 6 from rfl]
    simp; omega
theorem odC_at : ∀ (L : List (List Int)) (k : Nat), k < L.length → ∀ j, j < 6 → (odC L)[k * 6 + j]? = some (.int .i64 (atI (ordAt L k) j))
  | p :: ps, 0, _, j, hj => by
    show (oL p ++ odC ps)[0 * 6 + j]? = _
    rw [List.getElem?_append_left (by show _ < 6; omega), show 0 * 6 + j = j by omega]
    have := oC_at p hj
    rw [show oC p = (oL p).toArray from rfl, List.getElem?_toArray] at this
    exact this
  | p :: ps, k + 1, hk, j, hj => by
    show (oL p ++ odC ps)[(k + 1) * 6 + j]? = _
    rw [List.getElem?_append_right (by show 6 ≤ _; omega), show (k + 1) * 6 + j - (oL p).length = k * 6 + j by show _ - 6 = _; omega]
    exact odC_at ps k (by simpa using hk) j hj
/-- The call owns the slice v of orders. -/
def Owo (w : World) (B : Nat) (v : Value) (L : List (List Int)) : Prop := w.ownsRow B 80 6 v L.length (odC L)
theorem Owo.nil (w : World) (B : Nat) : Owo w B (.slice none 0 0) [] := World.ownsRow_nil _ _ _ _
theorem Owo.lt {w : World} {B : Nat} {v : Value} {L : List (List Int)} (h : Owo w B v L) {k : Nat} (hk : v.ownBlock = some k) : B ≤ k ∧ k < w.heap.size := World.ownsRow.lt h k hk
theorem Owo.same {w w' : World} {B : Nat} {v : Value} {L : List (List Int)} (h : Owo w B v L) (hk : ∀ k, v.ownBlock = some k → w'.heap[k]? = w.heap[k]?) : Owo w' B v L := by
  refine ⟨h.1, ?_⟩
  rcases h.2 with h1 | ⟨g, cap, cur, h1, h2, h3, h4⟩
  · exact .inl h1
  · exact .inr ⟨g, cap, cur, h1, h2, (hk g (by rw [h1]; rfl)).trans h3, h4⟩
theorem Owo.below {w w' : World} {B b : Nat} {v : Value} {L : List (List Int)} (h : Owo w B v L) (hb : Below b w w') (hB : w.heap.size ≤ b) : Owo w' B v L := h.same fun k hk => hb.block k (by have := (h.lt hk).2; omega)
theorem Owo.alloc {w : World} {B : Nat} {v : Value} {L : List (List Int)} (h : Owo w B v L) (o : Obj) : Owo (w.alloc o) B v L := World.ownsRow.alloc h o
theorem Owo.base {w : World} {B B' : Nat} {v : Value} {L : List (List Int)} (h : Owo w B v L) (hB : B' ≤ B) : Owo w B' v L := by
  refine ⟨h.1, ?_⟩
  rcases h.2 with h | ⟨g, cap, cur, h1, h2, h3⟩
  · exact .inl h
  · exact .inr ⟨g, cap, cur, h1, by omega, h3⟩
/-- An owned slice of orders is read as one. -/
theorem Owo.slo {w : World} {B n : Nat} {v : Value} {L : List (List Int)} (h : Owo w B v L) (hn : L.length = n) (hb : n ≤ 1000000) (h6 : ∀ o ∈ L, o.length = 6) : ∃ A c, v = .slice A n c ∧ Slo w A n c L := by
  subst hn
  rcases h.2 with ⟨h0, h1⟩ | ⟨g, cap, cur, h1, h2, h3, h4, h5, h6', h7⟩
  · have hL : L.length = 0 := by simpa using h1
    subst h0
    exact ⟨none, 0, by rw [hL], ⟨rfl, by omega, hb, h6, fun k hk => by omega⟩⟩
  · refine ⟨some ⟨g, 0, none⟩, cap, h1, ⟨rfl, h4, hb, h6, fun k hk => ⟨g, 0, rfl, (Array.getElem?_eq_some_iff.1 h3).1, fun j hj => ?_⟩⟩⟩
    have hu := odC_at L k hk j hj
    rw [show 0 + k * 6 + j = k * 6 + j by omega, cell_of_row w g _ _ _ _ h3]
    rw [← h7, List.getElem?_take] at hu
    split at hu
    · rw [← Array.getElem?_toList]; exact hu
    · cases hu
theorem pusho_law {P : Program} (w : World) {ops : Array Oper} {rest : List Oper} {o : Oper} {a : Act} {Q : Exit → Act → World → Prop} (hgd : o.guard = none) (s x : Operand) (t : TypeId)
    (ho : o.op = .call { callee := .builtin .append, args := #[s, x], argTypes := #[t, t] })
    (B : Nat) (i : TypeInfo) (ht : P.underlying t = some (.slice 80)) (hI : P.info? 80 = some i ∧ i.zero = some (.agg #[.int .i64 0, .int .i64 0, .int .i64 0, .int .i64 0, .int .i64 0, .int .i64 0]) ∧ i.size = 6 ∧ i.bytes = 48)
    (v : Value) (L : List (List Int)) (p : List Int) (hs : a.eval s = v) (hx : a.eval x = .slice (some ⟨w.heap.size, 0, none⟩) 1 1) (hown : Owo w B v L) (hn : L.length ≤ 1099511627776) (hB : B ≤ w.heap.size)
    (h : ∀ v' w', Owo w' B v' (L ++ [p]) → w.grownBy w' v.ownBlock → wpList P ops Q rest (a.put o.dst v') w') :
    wpList P ops Q (o :: rest) a (w.alloc (.cells (oC p) 80)) := by
  obtain ⟨h1, h2, h3, h4⟩ := hI
  refine wpList_append_own_at _ hgd s x t ho B 80 i _ 6 48 ht h1 h2 h3 h4 rfl (by decide) v L.length (odC L) hs (hown.alloc _) ⟨w.heap.size, 0, none⟩ 1 1 (oL p) hx rfl ?_ ?_ (by unfold maxLen; omega) (by omega) (by simp; omega) ?_
  · intro j u hu
    match j, hu with
    | 0, hu => simp [oL] at hu; subst hu; simp [Addr.add]
    | 1, hu => simp [oL] at hu; subst hu; simp [Addr.add]
    | 2, hu => simp [oL] at hu; subst hu; simp [Addr.add]
    | 3, hu => simp [oL] at hu; subst hu; simp [Addr.add]
    | 4, hu => simp [oL] at hu; subst hu; simp [Addr.add]
    | 5, hu => simp [oL] at hu; subst hu; simp [Addr.add]
  · intro u hu
    simp [oL] at hu
    rcases hu with rfl | rfl | rfl | rfl | rfl | rfl <;> rfl
  · intro v' w' ho' hg' _ hat
    refine h v' w' ?_ (grown_alloc hg')
    unfold Owo
    rw [List.length_append, show odC (L ++ [p]) = odC L ++ oL p from by simp [odC]]
    exact ho'
theorem Try.infoOr : (Try.prog.info? 80).map (fun i => (i.zero, i.size, i.bytes)) = some (some (.agg #[.int .i64 0, .int .i64 0, .int .i64 0, .int .i64 0, .int .i64 0, .int .i64 0]), 6, 48) := by kernel_rfl
/-- The first k choices. -/
def choL (o : List Int) (p k : Nat) : List (List Int) := (List.range k).map fun t => movedL o p t
theorem choL_succ (o : List Int) (p k : Nat) : choL o p (k + 1) = choL o p k ++ [movedL o p k] := by unfold choL; rw [List.range_succ, List.map_append]; rfl
theorem choL_len (o : List Int) (p k : Nat) : (choL o p k).length = k := by simp [choL]
set_option maxRecDepth 100000 in
set_option maxHeartbeats 6400000 in
theorem choices_any (o : List Int) (r p : Nat) (w : World) (hl : o.length = 6) (hp : ixI o (r : Int) = (p : Int)) (hp6 : p < 6) :
    Calls Try.prog 70 #[oV o, .int .i64 (r : Int)] w fun e w' => (∃ v, e = .returned v ∧ Owo w' (w.heap.size + 1) v (choL o p (p + 1))) ∧ Below w.heap.size w w' := by
  obtain ⟨i0, hi, hz0, hz1, hz2⟩ := info_parts Try.infoOr
  have HI : Hid (Try.prog.info? 80 = some i0 ∧ i0.zero = some (.agg #[.int .i64 0, .int .i64 0, .int .i64 0, .int .i64 0, .int .i64 0, .int .i64 0]) ∧ i0.size = 6 ∧ i0.bytes = 48) := ⟨hi, hz0, hz1, hz2⟩
  clear hi hz0 hz1 hz2
  obtain ⟨W, hW⟩ : ∃ W, W = w.alloc (.cells (oC o) 80) := ⟨_, rfl⟩
  have hb : Below w.heap.size w W := by rw [hW]; exact (Below.refl _ w).alloc (Nat.le_refl _) _
  have hr0 : W.heap[w.heap.size]? = some (.cells (oC o) 80 (0, 0)) := by rw [hW]; exact heap_alloc_new _ _
  have hz : W.heap.size = w.heap.size + 1 := by rw [hW]; simp
  have HXC : Hid (∀ V, Below (w.heap.size + 1) W V → V.heap[w.heap.size]? = some (.cells (oC o) 80 (0, 0))) := fun V hV => (hV.block _ (by omega)).trans hr0
  have HPL : Hid (∀ V, Calls Try.prog 58 #[oV o, .int .i64 (r : Int)] V fun e w' => e = .returned (.int .i64 (p : Int)) ∧ Below V.heap.size V w') := fun V => by
    have := place_any o (r : Int) V hl
    rw [hp] at this
    exact this
  have HMV : Hid (∀ t : Nat, t ≤ p → ∀ V, Calls Try.prog 59 #[oV o, .int .i64 (p : Int), .int .i64 (t : Int)] V fun e w' => e = .returned (oV (movedL o p t)) ∧ Below V.heap.size V w') := fun t ht V => movedP_any o p t V hl hp6 ht
  have HB := Lib.hid hb
  have HW := Lib.hid hW
  have HZ := Lib.hid hz
  have HR0 := Lib.hid hr0
  have d0 := cell_in hr0 (i := 0) rfl
  have d1 := cell_in hr0 (i := 1) rfl
  have d2 := cell_in hr0 (i := 2) rfl
  have d3 := cell_in hr0 (i := 3) rfl
  have d4 := cell_in hr0 (i := 4) rfl
  have d5 := cell_in hr0 (i := 5) rfl
  have v1 : IntKind.i64.wrap ((p : Int) + 1) = (p : Int) + 1 := IntWalk.i64_in _ (by omega)
  clear hW hb hr0 hz hl hp
  go_enter Try.func70, Try.ntmps70
  go_upto_region 2 with (fail)
  rw [← HW.out]
  go_upto_region 3 with (go_at_call 58; refine (HPL.out _).mono ?_; rintro e V1 ⟨rfl, hb⟩; have HV := Lib.hid hb; clear hb)
  have HE : Hid (Below (w.heap.size + 1) W V1) := by have := HV.out; rw [HZ.out] at this; exact this
  clear d0 d1 d2 d3 d4 d5 HV
  go_wp2
  go_loopw [5, 13] (fun v i w' => ∃ k : Nat, k ≤ p + 1 ∧ i = .int .i64 (k : Int) ∧ Hid (Owo w' (w.heap.size + 1) v (choL o p k)) ∧ Hid (Below (w.heap.size + 1) W w')) (fun _ i _ => p + 1 - (intOf i).toNat)
  case atStart => exact ⟨0, Nat.zero_le _, by go_num, Owo.nil _ _, HE.out⟩
  case round =>
    obtain ⟨k, hk, rfl, HO, HD⟩ := hrel
    obtain ⟨wo, rfl⟩ : ∃ wo : World, wo = wr := ⟨_, rfl⟩
    by_cases hlt : k ≤ p
    · have i1 : (k : Int) < (p : Int) + 1 := by omega
      have hx := HXC.out wo HD.out
      have d0 := cell_in hx (i := 0) rfl
      have d1 := cell_in hx (i := 1) rfl
      have d2 := cell_in hx (i := 2) rfl
      have d3 := cell_in hx (i := 3) rfl
      have d4 := cell_in hx (i := 4) rfl
      have d5 := cell_in hx (i := 5) rfl
      have HM := Lib.hid (HMV.out k hlt)
      have HS : Hid (choL o p (k + 1) = choL o p k ++ [movedL o p k]) := choL_succ o p k
      have HL : Hid ((choL o p k).length ≤ 1099511627776) := by rw [Hid, choL_len]; omega
      have HDZ : Hid (w.heap.size + 1 ≤ wo.heap.size) := by have := HD.out.size; rw [HZ.out] at this; exact this
      clear hx HMV HXC
      obtain ⟨ms, hms⟩ : ∃ ms, ms = movedL o p k := ⟨_, rfl⟩
      rw [← hms] at HM HS
      clear hms
      go_wp2_with (first
        | (go_at_call 59; refine (HM.out _).mono ?_; rintro e V2 ⟨rfl, hb⟩; have HO2 := Lib.hid (HO.out.below hb (Nat.le_refl _)); have HD2 := Lib.hid (HD.out.trans (hb.mono HDZ.out)); have HZ2 : Hid (w.heap.size + 1 ≤ V2.heap.size) := (Nat.le_trans HDZ.out hb.size); clear hb)
        | (at_builtin; go_must (refine pusho_law _ rfl (.tmp 16) (.tmp 21) 89 rfl (w.heap.size + 1) i0 Try.underlying89 HI.out _ (choL o p k) ms rfl rfl HO2.out HL.out HZ2.out ?_); intro v3 w3 hown hg; have HO3 := Lib.hid hown; have HD3 := Lib.hid (HD2.out.grown hg HZ2.out (fun j e => (HO2.out.lt e).1)); clear hown hg))
      exact ⟨⟨k + 1, by omega, by go_num, by rw [HS.out]; exact HO3.out, HD3.out⟩, by simp [intOf]; omega⟩
    · have hkp : k = p + 1 := by omega
      subst hkp
      have i1 : ¬ (((p + 1 : Nat) : Int) < (p : Int) + 1) := by omega
      have i2 : ¬ ((p : Int) + 1 < (p : Int) + 1) := by omega
      go_wp2
      go_ret
      exact ⟨⟨_, rfl, HO.out⟩, HB.out.trans (HD.out.mono (Nat.le_succ _))⟩
end Go.Proofs.Ytcnjkdkkflpgnaa
