import Derived.Test.YtcnjkdkkflpgnaaT05
/- Layer 8: isRow; orders that hold every roll; what a row does when each requested roll goes to the front. -/
namespace Go.Proofs.Ytcnjkdkkflpgnaa
open Go.RowKit
set_option linter.unusedVariables false

def isRowB (m : Int) (zs : List Int) : Bool := decide (1 ≤ m) && decide (m ≤ 6) && decide ((zs.length : Int) ≤ 60) && belB zs m
/-- Every roll stands in the order. -/
def FullO (o : List Int) : Prop := List.Perm o o6
theorem FullO.len {o : List Int} (h : FullO o) : o.length = 6 := h.length_eq
theorem fullO_o6 : FullO o6 := List.Perm.refl _
theorem FullO.place {o : List Int} (h : FullO o) {r : Nat} (hr : r < 6) : ∃ k : Nat, ixI o (r : Int) = (k : Int) ∧ k < 6 := by
  have hm : ((r : Nat) : Int) ∈ o := (List.Perm.mem_iff h).2 (by
    rcases (show r = 0 ∨ r = 1 ∨ r = 2 ∨ r = 3 ∨ r = 4 ∨ r = 5 by omega) with rfl | rfl | rfl | rfl | rfl | rfl <;> decide)
  have hs := plI_mem (zs := o) (x := (r : Int))
  rw [decide_eq_true hm] at hs
  unfold ixI
  cases hp : plI o (r : Int) with
  | none => rw [hp] at hs; cases hs
  | some k => exact ⟨k, rfl, by have := plI_lt hp; rw [h.len] at this; exact this⟩
theorem moved_perm {o : List Int} {p q : Nat} (hp : p < o.length) : List.Perm (movedL o p q) o := by
  unfold movedL
  have e : atI o p = o[p] := by unfold atI; rw [List.getElem?_eq_getElem hp]; rfl
  have h1 : List.Perm ((witho o p).take q ++ [atI o p] ++ (witho o p).drop q) (atI o p :: ((witho o p).take q ++ (witho o p).drop q)) := by
    rw [List.append_assoc]
    exact List.perm_middle
  refine h1.trans ?_
  rw [List.take_append_drop, e]
  unfold witho
  refine (List.perm_middle (l₁ := o.take p) (l₂ := o.drop (p + 1)) (a := o[p])).symm.trans ?_
  rw [← List.drop_eq_getElem_cons hp, List.take_append_drop]
theorem FullO.moved {o : List Int} (h : FullO o) {p : Nat} (hp : p < 6) (q : Nat) : FullO (movedL o p q) := (moved_perm (by rw [h.len]; exact hp)).trans h
/-- The order after k requests, and what they have cost. -/
def frO (zs o : List Int) : Nat → List Int
  | 0 => o
  | k + 1 => movedL (frO zs o k) (ixI (frO zs o k) (atI zs k)).toNat 0
def frC (zs o : List Int) : Nat → Int
  | 0 => 0
  | k + 1 => frC zs o k + (ixI (frO zs o k) (atI zs k) + 1)
theorem frO_full {zs o : List Int} (h : FullO o) (hz : ∀ k, k < zs.length → ∃ r : Nat, atI zs k = (r : Int) ∧ r < 6) : ∀ k, k ≤ zs.length → FullO (frO zs o k)
  | 0, _ => h
  | k + 1, hk => by
    have ih := frO_full h hz k (by omega)
    obtain ⟨r, e, hr⟩ := hz k (by omega)
    obtain ⟨p, e2, hp⟩ := ih.place hr
    show FullO (movedL (frO zs o k) (ixI (frO zs o k) (atI zs k)).toNat 0)
    rw [e, e2]
    exact ih.moved (by simpa using hp) 0
theorem frC_le {zs o : List Int} (h : FullO o) (hz : ∀ k, k < zs.length → ∃ r : Nat, atI zs k = (r : Int) ∧ r < 6) : ∀ k : Nat, k ≤ zs.length → 0 ≤ frC zs o k ∧ frC zs o k ≤ 6 * (k : Int)
  | 0, _ => ⟨Int.le_refl _, Int.le_refl _⟩
  | k + 1, hk => by
    have ih := frC_le h hz k (by omega)
    obtain ⟨r, e, hr⟩ := hz k (by omega)
    obtain ⟨p, e2, hp⟩ := (frO_full h hz k (by omega)).place hr
    show 0 ≤ frC zs o k + (ixI (frO zs o k) (atI zs k) + 1) ∧ frC zs o k + (ixI (frO zs o k) (atI zs k) + 1) ≤ _
    rw [e, e2]
    omega
set_option maxRecDepth 100000 in
set_option maxHeartbeats 1600000 in
theorem isRow_any (m : Int) (zs : List Int) (A : Option Addr) (n c : Nat) (w : World) (h : Sl w A n c zs) :
    Calls Try.prog 56 #[.int .i64 m, .slice A n c] w fun e w' => e = .returned (.bool (isRowB m zs)) ∧ Below w.heap.size w w' := by
  have HL : Hid (zs.length = n) := h.len
  have HA := Lib.hid (allBelow_any zs m A n c w h)
  have HR := Lib.hid (isRolls_any m w)
  have hbig := h.big
  have HX : Hid (isRowB m zs = (decide (1 ≤ m) && decide (m ≤ 6) && decide ((n : Int) ≤ 60) && belB zs m)) := by unfold isRowB; rw [Hid, HL.out]
  clear h
  rw [HX.out]
  generalize belB zs m = bb at *
  obtain ⟨d, hd⟩ : ∃ d, d = decide ((n : Int) ≤ 60) := ⟨_, rfl⟩
  have d1 : decide ((n : Int) ≤ 60) = d := hd.symm
  obtain ⟨f, hf⟩ : ∃ f, f = (decide (1 ≤ m) && decide (m ≤ 6)) := ⟨_, rfl⟩
  rw [← hf] at HR
  rw [← hf, d1]
  clear hd hf HX
  cases f
  · go_enter Try.func56, Try.ntmps56
    go_wp2_with (go_at_call 71; refine HR.out.mono ?_; rintro e w1 ⟨rfl, rfl⟩)
    go_ret
    exact ⟨rfl, Below.refl _ _⟩
  · cases d
    · go_enter Try.func56, Try.ntmps56
      go_wp2_with (go_at_call 71; refine HR.out.mono ?_; rintro e w1 ⟨rfl, rfl⟩)
      go_ret
      exact ⟨rfl, Below.refl _ _⟩
    · go_enter Try.func56, Try.ntmps56
      go_wp2_with (first
        | (go_at_call 71; refine HR.out.mono ?_; rintro e w1 ⟨rfl, rfl⟩)
        | (go_at_call 72; refine HA.out.mono ?_; rintro e w2 ⟨rfl, hb⟩; have HB := Lib.hid hb; clear hb))
      go_ret
      exact ⟨by simp, HB.out⟩
end Go.Proofs.Ytcnjkdkkflpgnaa
/- Layer 8: Front of the program. -/
namespace Go.Proofs.Ytcnjkdkkflpgnaa
open Go.RowKit
set_option linter.unusedVariables false

theorem isRowB_parts {m : Int} {zs : List Int} (h : isRowB m zs = true) : ∃ mm : Nat, m = (mm : Int) ∧ 1 ≤ mm ∧ mm ≤ 6 ∧ zs.length ≤ 60 ∧ ∀ k, k < zs.length → ∃ r : Nat, atI zs k = (r : Int) ∧ r < mm := by
  unfold isRowB at h
  rw [Bool.and_eq_true, Bool.and_eq_true, Bool.and_eq_true, decide_eq_true_iff, decide_eq_true_iff, decide_eq_true_iff] at h
  obtain ⟨⟨⟨h1, h2⟩, h3⟩, hb⟩ := h
  refine ⟨m.toNat, by omega, by omega, by omega, by omega, fun k hk => ?_⟩
  have := allB_iff.1 (show allB (fun j => lowB m (atI zs j)) zs.length = true from hb) k hk
  unfold lowB at this
  rw [Bool.and_eq_true, decide_eq_true_iff, decide_eq_true_iff] at this
  exact ⟨(atI zs k).toNat, by omega, by omega⟩
set_option maxRecDepth 100000 in
set_option maxHeartbeats 6400000 in
theorem frontP_any (m : Int) (zs : List Int) (A : Option Addr) (n c : Nat) (w : World) (h : Sl w A n c zs) :
    Calls Try.prog 29 #[.int .i64 m, .slice A n c] w fun e w' => ((isRowB m zs = true ∧ ∃ v, e = .returned (.tuple #[.int .i64 (frC zs o6 n), v, .int .i64 0]) ∧ Ow w' w.heap.size 3 v ((frO zs o6 n).take m.toNat)) ∨ (isRowB m zs = false ∧ e = .returned (.tuple #[.int .i64 0, .slice none 0 0, .int .i64 2]))) ∧ Below w.heap.size w w' := by
  have hbig := h.big
  have HIS := Lib.hid (isRow_any m zs A n c w h)
  have HL : Hid (zs.length = n) := h.len
  cases hrb : isRowB m zs
  · have HRB := Lib.hid hrb
    rw [hrb] at HIS
    clear h hrb
    go_enter Try.func29, Try.ntmps29
    go_wp2_with (go_at_call 56; refine HIS.out.mono ?_; rintro e w1 ⟨rfl, hb1⟩; have HB1 := Lib.hid hb1; clear hb1)
    go_ret3
    exact ⟨.inr ⟨by simp, rfl⟩, HB1.out⟩
  · obtain ⟨mm, rfl, hm1, hm6, hn60, hzz⟩ := isRowB_parts hrb
    have hz6 : ∀ k, k < zs.length → ∃ r : Nat, atI zs k = (r : Int) ∧ r < 6 := fun k hk => by obtain ⟨r, e, hr⟩ := hzz k hk; exact ⟨r, e, by omega⟩
    have HRB := Lib.hid hrb
    have HZ6 := Lib.hid hz6
    have HSL := Lib.hid (fun V (hV : Below w.heap.size w V) => h.below hV (Nat.le_refl _))
    have HFU : Hid (∀ k, k ≤ n → FullO (frO zs o6 k)) := fun k hk => frO_full fullO_o6 hz6 k (by rw [HL.out]; exact hk)
    have HFC : Hid (∀ k : Nat, k ≤ n → 0 ≤ frC zs o6 k ∧ frC zs o6 k ≤ 6 * (k : Int)) := fun k hk => frC_le fullO_o6 hz6 k (by rw [HL.out]; exact hk)
    have HN6 : Hid (n ≤ 60) := by rw [Hid, ← HL.out]; exact hn60
    have HFO := Lib.hid (fun V => firstOrder_any V)
    have HMM : Hid (mm ≤ 6) := hm6
    rw [hrb] at HIS
    clear h hrb hz6 hzz hn60
    go_enter Try.func29, Try.ntmps29
    go_upto_region 5 with (first
      | (go_at_call 56; refine HIS.out.mono ?_; rintro e w1 ⟨rfl, hb1⟩; have HB1 := Lib.hid hb1; clear hb1)
      | (go_at_call 57; refine (HFO.out _).mono ?_; rintro e w2 ⟨rfl, hb2⟩; have HB2 := Lib.hid (HB1.out.trans (hb2.mono HB1.out.size)); clear hb2))
    obtain ⟨W3, hW3⟩ : ∃ v, v = w2.alloc (.cells (oC o6) 80) := ⟨_, rfl⟩
    rw [show w2.alloc (.cells (oC o6) 80) = W3 from hW3.symm]
    have hb3 : Below w2.heap.size w2 W3 := by rw [hW3]; exact (Below.refl _ w2).alloc (Nat.le_refl _) _
    have hro : W3.heap[w2.heap.size]? = some (.cells (oC (frO zs o6 0)) 80 (0, 0)) := by rw [hW3]; exact heap_alloc_new _ _
    have HG : Hid (w.heap.size ≤ w2.heap.size) := HB2.out.size
    have HB3 : Hid (Below w.heap.size w W3) := HB2.out.trans (hb3.mono HG.out)
    have HR3 := Lib.hid hro
    clear hW3 hb3 hro
    generalize w2.heap.size = g at *
    go_wp2
    go_loopw [7, 19] (fun s i w' => ∃ k : Nat, k ≤ n ∧ i = .int .i64 (k : Int) ∧ s = .int .i64 (frC zs o6 k) ∧ Hid (w'.heap[g]? = some (.cells (oC (frO zs o6 k)) 80 (0, 0))) ∧ Hid (Below w.heap.size w w')) (fun _ i _ => n - (intOf i).toNat)
    case atStart => exact ⟨0, Nat.zero_le _, by go_num, rfl, HR3.out, HB3.out⟩
    case round =>
      obtain ⟨k, hk, rfl, rfl, HR, HB⟩ := hrel
      obtain ⟨wo, rfl⟩ : ∃ wo : World, wo = wr := ⟨_, rfl⟩
      clear HR3 HB3 HB1 HB2
      have d0 := cell_in HR.out (i := 0) rfl
      have d1 := cell_in HR.out (i := 1) rfl
      have d2 := cell_in HR.out (i := 2) rfl
      have d3 := cell_in HR.out (i := 3) rfl
      have d4 := cell_in HR.out (i := 4) rfl
      have d5 := cell_in HR.out (i := 5) rfl
      by_cases hlt : k < n
      · have i1 : (k : Int) < (n : Int) := by omega
        have hso := HSL.out wo HB.out
        obtain ⟨b, off, rfl, hc⟩ := hso.at_ hlt
        obtain ⟨r, hr, hr6⟩ := HZ6.out k (by rw [HL.out]; exact hlt)
        rw [show zs[k]?.getD 0 = (r : Int) from hr] at hc
        obtain ⟨p, hp, hp6⟩ := (HFU.out k hk).place hr6
        have hfc := HFC.out k hk
        have hn6 := HN6.out
        have v1 : IntKind.i64.wrap ((p : Int) + 1) = (p : Int) + 1 := IntWalk.i64_in _ (by omega)
        have v2 : IntKind.i64.wrap (frC zs o6 k + ((p : Int) + 1)) = frC zs o6 k + ((p : Int) + 1) := IntWalk.i64_in _ (by omega)
        have HSC : Hid (frC zs o6 (k + 1) = frC zs o6 k + ((p : Int) + 1)) := by
          show frC zs o6 k + (ixI (frO zs o6 k) (atI zs k) + 1) = _
          rw [hr, hp]
        have HSO : Hid (frO zs o6 (k + 1) = movedL (frO zs o6 k) p 0) := by
          show movedL (frO zs o6 k) (ixI (frO zs o6 k) (atI zs k)).toNat 0 = _
          rw [hr, hp]; rfl
        have hol := (HFU.out k hk).len
        have HPL : Hid (∀ V, Calls Try.prog 58 #[oV (frO zs o6 k), .int .i64 (r : Int)] V fun e w' => e = .returned (.int .i64 (p : Int)) ∧ Below V.heap.size V w') := fun V => by
          have := place_any (frO zs o6 k) (r : Int) V hol
          rw [hp] at this
          exact this
        have HMV : Hid (∀ V, Calls Try.prog 59 #[oV (frO zs o6 k), .int .i64 (p : Int), .int .i64 0] V fun e w' => e = .returned (oV (movedL (frO zs o6 k) p 0)) ∧ Below V.heap.size V w') := fun V => movedP_any (frO zs o6 k) p 0 V hol hp6 (Nat.zero_le _)
        have HGO : Hid (g < wo.heap.size) := (Array.getElem?_eq_some_iff.1 HR.out).1
        clear hso hr hp hfc hn6 hol HFU HFC HZ6 HSL
        obtain ⟨ms, hms⟩ : ∃ ms, ms = movedL (frO zs o6 k) p 0 := ⟨_, rfl⟩
        rw [← hms] at HMV HSO
        have HSZ : Hid ((Try.prog.info? 80).map (·.size) = some (oC ms).size) := Try.sizeOrd
        clear hms
        generalize frC zs o6 k = fc at *
        generalize frO zs o6 k = o at *
        generalize atI o 0 = a0 at *
        generalize atI o 1 = a1 at *
        generalize atI o 2 = a2 at *
        generalize atI o 3 = a3 at *
        generalize atI o 4 = a4 at *
        generalize atI o 5 = a5 at *
        go_upto_region 9 with (go_at_call 58; refine (HPL.out _).mono ?_; rintro e V1 ⟨rfl, hb⟩; have HE1 := Lib.hid hb; clear hb)
        have HX1 : Hid (V1.heap[g]? = _) := (HE1.out.block _ HGO.out).trans HR.out
        have HB1 : Hid (Below w.heap.size w V1) := HB.out.trans (HE1.out.mono HB.out.size)
        have HG1 : Hid (g < V1.heap.size) := Nat.lt_of_lt_of_le HGO.out HE1.out.size
        clear d0 d1 d2 d3 d4 d5 HR HB HE1 HGO hc
        have d0 := cell_in HX1.out (i := 0) rfl
        have d1 := cell_in HX1.out (i := 1) rfl
        have d2 := cell_in HX1.out (i := 2) rfl
        have d3 := cell_in HX1.out (i := 3) rfl
        have d4 := cell_in HX1.out (i := 4) rfl
        have d5 := cell_in HX1.out (i := 5) rfl
        go_wp2_with (first
          | (go_at_call 59; refine (HMV.out _).mono ?_; rintro e V2 ⟨rfl, hb⟩; have HX2 := Lib.hid ((hb.block _ HG1.out).trans HX1.out); have HB2 := Lib.hid (HB1.out.trans (hb.mono HB1.out.size)); clear hb)
          | (refine wpList_store_row (by rfl) 80 (.tmp 8) (.tmp 32) (by rfl) g (oC ms) (by rfl) (by rfl) 80 _ HX2.out HSZ.out (by rfl) (by simp [Value.oneCell']) ?_))
        exact ⟨⟨k + 1, by omega, by go_num, by rw [HSC.out], by rw [HSO.out]; exact setRow_heap _ _ _ _ _ _ HX2.out, below_setRow HB2.out HG.out _⟩, by simp [intOf]; omega⟩
      · have hkn : k = n := by omega
        subst hkn
        have i1 : ¬ (k : Int) < (k : Int) := by omega
        have HLO := Lib.hid (list_ord (frO zs o6 k) mm wo (HFU.out k hk).len HMM.out)
        obtain ⟨o, ho⟩ : ∃ o, o = frO zs o6 k := ⟨_, rfl⟩
        rw [← ho] at HLO d0 d1 d2 d3 d4 d5
        have HO := Lib.hid ho
        clear ho HR HFU HFC HZ6 HSL
        go_wp2_with (go_at_call 60; refine HLO.out.mono ?_; rintro e V1 ⟨⟨v, rfl, hv⟩, hb⟩; have HV := Lib.hid hv; have HE := Lib.hid (HB.out.trans (hb.mono HB.out.size)); have HZZ := Lib.hid HB.out.size; clear hv hb)
        go_ret3
        refine ⟨.inl ⟨by simp, v, rfl, ?_⟩, HE.out⟩
        rw [← HO.out]
        exact HV.out.base (Nat.le_trans HZZ.out (Nat.le_succ _))
end Go.Proofs.Ytcnjkdkkflpgnaa
