import Derived.Test.YtcnjkdkkflpgnaaT34
import Derived.Test.YtcnjkdkkflpgnaaT30
/- Layer 8: all results in one list of lists, overwritten. -/
namespace Go.Proofs.Ytcnjkdkkflpgnaa
open Go.RowKit Go.Maps
set_option linter.unusedVariables false

/-- Append of an owned slice of slices. -/
theorem appv_law {P : Program} (w : World) {ops : Array Oper} {rest : List Oper} {o : Oper} {a : Act} {Q : Exit → Act → World → Prop} (hgd : o.guard = none) (s x : Operand) (t : TypeId)
    (ho : o.op = .call { callee := .builtin .append, args := #[s, x], argTypes := #[t, t] })
    (B : Nat) (i : TypeInfo) (ht : P.underlying t = some (.slice 22)) (hI : P.info? 22 = some i ∧ i.zero = some (.slice none 0 0) ∧ i.size = 1 ∧ i.bytes = 24)
    (v : Value) (vs : List Value) (hs : a.eval s = v) (hown : Owv w B v vs) (B2 : Nat) (u : Value) (us : List Value) (hx : a.eval x = u) (hu : Owv w B2 u us) (hsl : ∀ z ∈ us, ∃ A n c, z = .slice A n c) (hn : vs.length + us.length ≤ 1000000) (hB : B ≤ w.heap.size)
    (h : ∀ v' w', Owv w' B v' (vs ++ us) → w.grownBy w' v.ownBlock → wpList P ops Q rest (a.put o.dst v') w') : wpList P ops Q (o :: rest) a w := by
  obtain ⟨h1, h2, h3, h4⟩ := hI
  rcases id hu.2 with ⟨e1, e2⟩ | ⟨g, cap, cur, e1, _, e3, _⟩
  · have hus : us = [] := List.eq_nil_of_length_eq_zero (by omega)
    subst hus
    rw [e1] at hx
    exact wpList_append_own_none hgd s x t ho B 22 i 1 ht h1 v vs.length vs hs hown hx (h v w (by simpa using hown) (World.grownBy.refl w _))
  · rw [e1] at hx hu
    refine wpList_append_own w hgd s x t ho B 22 i _ 1 24 ht h1 h2 h3 h4 rfl (by decide) v vs.length vs hs hown ⟨g, 0, none⟩ us.length cap us hx (by simp) (fun j y hy => ?_) (fun y hy => ?_) (by unfold maxLen; omega) (by omega) hB (fun v' w' h5 h6 _ => h v' w' ?_ h6)
    · have hj := (List.getElem?_eq_some_iff.1 hy).1
      have hc := World.ownsRow.cellAt hu j (by omega)
      have : (⟨g, 0, none⟩ : Addr).add j = ⟨g, j, none⟩ := by unfold Addr.add; split <;> simp_all
      rw [this, hc]; exact hy
    · obtain ⟨A, n, c, rfl⟩ := hsl y hy
      rfl
    · unfold Owv
      rw [List.length_append]
      exact h5
/-- A list of rows that the call owns. -/
def Rws (V : World) (B : Nat) (v : Value) (us : List Value) : Prop := Owv V B v us ∧ ∀ u ∈ us, ∃ zs, Ow V B 3 u zs ∧ zs.length ≤ 1000
theorem Ow.slf {w : World} {B e : Nat} {v : Value} {zs : List Int} (h : Ow w B e v zs) (hn : zs.length ≤ 1000) : ∃ A n c, v = .slice A n c := by
  obtain ⟨A, c, rfl, _⟩ := h.sl_len rfl (by omega)
  exact ⟨_, _, _, rfl⟩
theorem Rws.below {w w' : World} {B b : Nat} {v : Value} {us : List Value} (h : Rws w B v us) (hb : Below b w w') (hs : w.heap.size ≤ b) : Rws w' B v us :=
  ⟨h.1.below hb hs, fun u hu => by obtain ⟨zs, ho, hl⟩ := h.2 u hu; exact ⟨zs, ho.below hb hs, hl⟩⟩
theorem Rws.set {w : World} {B g k n c : Nat} {v : Value} {us : List Value} (h : Rws w B v us) (hu : (.slice (some ⟨g, 0, none⟩) n c : Value) ∈ us) (x : Int) : Rws (w.setCell ⟨g, k, none⟩ (.int .i64 x)) B v us := by
  obtain ⟨zs, ho, hl⟩ := h.2 _ hu
  obtain ⟨cur, hg⟩ := ho.blk
  refine ⟨own_same h.1 fun j cur e _ => set_oth (ty_ne e hg (by decide)), fun u' hu' => ?_⟩
  obtain ⟨zs', ho', hl'⟩ := h.2 u' hu'
  by_cases e : u'.ownBlock = some g
  · rcases id ho'.2 with ⟨e1, _⟩ | ⟨g', cap, cur', e1, _, e3, _⟩
    · rw [e1] at e; cases e
    · rw [e1] at e
      have e := Option.some.inj e
      subst e
      rw [e1] at ho' ⊢
      refine ⟨zs'.set k x, ?_, by rw [List.length_set]; exact hl'⟩
      exact ho'.put rfl k x
  · exact ⟨zs', own_same ho' fun j cur e1 e2 => set_oth (fun e3 => e (by rw [e2, e3])), hl'⟩
end Go.Proofs.Ytcnjkdkkflpgnaa
/- Layer 8: the walk of ShelfOwn. -/
namespace Go.Proofs.Ytcnjkdkkflpgnaa
open Go.RowKit Go.Maps
set_option linter.unusedVariables false

theorem isRow_of {m : Nat} {zs : List Int} (h1 : 1 ≤ m) (h2 : m ≤ 6) (h3 : zs.length ≤ 60) (hz : ∀ i, i < zs.length → ∃ r : Nat, atI zs i = (r : Int) ∧ r < m) : isRowB (m : Int) zs = true := by
  unfold isRowB
  rw [Bool.and_eq_true, Bool.and_eq_true, Bool.and_eq_true, decide_eq_true_iff, decide_eq_true_iff, decide_eq_true_iff]
  refine ⟨⟨⟨by omega, by omega⟩, by omega⟩, ?_⟩
  show allB (fun j => lowB (m : Int) (atI zs j)) zs.length = true
  refine allB_iff.2 fun j hj => ?_
  obtain ⟨r, e, hr⟩ := hz j hj
  unfold lowB
  rw [Bool.and_eq_true, decide_eq_true_iff, decide_eq_true_iff]
  omega
theorem front_sl (mm n c : Nat) (zs : List Int) (A : Option Addr) (V : World) (h : Sl V A n c zs) (h1 : 1 ≤ mm) (h2 : mm ≤ 6) (hn : n ≤ 60) (hz : ∀ i, i < zs.length → ∃ r : Nat, atI zs i = (r : Int) ∧ r < mm) :
    Calls Try.prog 29 #[.int .i64 (mm : Int), .slice A n c] V fun e w' => (∃ v, e = .returned (.tuple #[.int .i64 (frC zs (startL mm) n), v, .int .i64 0]) ∧ Ow w' V.heap.size 3 v (frO zs (startL mm) n)) ∧ Below V.heap.size V w' := by
  have hl := h.len
  have hr := isRow_of h1 h2 (by omega) hz
  obtain ⟨f1, f2⟩ := fr_same h2 hz
  rw [hl] at f1 f2
  refine (frontP_any (mm : Int) zs A n c V h).mono ?_
  rintro e w' ⟨⟨_, v, rfl, ho⟩ | ⟨e1, _⟩, hb⟩
  · rw [Int.toNat_natCast, f1] at ho
    rw [f2]
    exact ⟨⟨v, rfl, ho⟩, hb⟩
  · rw [hr] at e1; cases e1
theorem ideal_hst (mm n c : Nat) (zs : List Int) (A : Option Addr) (V : World) (h : Sl V A n c zs) (h1 : 1 ≤ mm) (h2 : mm ≤ 6) (hn : n ≤ 60) (hz : ∀ i, i < zs.length → ∃ r : Nat, atI zs i = (r : Int) ∧ r < mm) :
    Calls Try.prog 30 #[.int .i64 (mm : Int), .slice A n c] V fun e w' => (∃ v, e = .returned (.tuple #[.int .i64 (idN mm zs), v, .int .i64 0]) ∧ Hst w' V.heap.size v (idL mm zs n)) ∧ Below V.heap.size V w' := by
  have hl := h.len
  have hr := isRow_of h1 h2 (by omega) hz
  refine (ideal_any (mm : Int) zs A n c V h).mono ?_
  rintro e w' ⟨⟨_, v, rfl, ho⟩ | ⟨e1, _⟩, hb⟩
  · rw [Int.toNat_natCast] at ho ⊢
    exact ⟨⟨v, rfl, ho⟩, hb⟩
  · rw [hr] at e1; cases e1
theorem idL_small (m : Nat) (zs : List Int) (n k : Nat) (hm : m ≤ 6) : (ordAt (idL m zs n) k).length ≤ 6 := by
  unfold ordAt
  by_cases e : k < (idL m zs n).length
  · rw [List.getElem?_eq_getElem e, Option.getD_some]
    have hall : ∀ o ∈ idL m zs n, o.length ≤ 6 := fun o ho => by
      unfold idL at ho
      obtain ⟨j, _, rfl⟩ := List.mem_map.1 ho
      rw [List.length_take]; omega
    exact hall _ (List.getElem_mem e)
  · rw [List.getElem?_eq_none (by omega)]
    simp
set_option maxRecDepth 100000 in
set_option maxHeartbeats 12800000 in
theorem own_walk (A : Option Addr) (n0 c0 : Nat) (xs0 : List Int) (x : Int) (w : World) (hx : Sl w A n0 c0 xs0) :
    Calls Try.prog 15 #[.slice A n0 c0, .int .i64 x] w fun e w' => e = .returned (.bool true) ∧ Below w.heap.size w w' := by
  obtain ⟨iS, hi2, hz02, hz12, hz22⟩ := info_parts Try.infoRowS
  have HI2 : Hid (Try.prog.info? 22 = some iS ∧ iS.zero = some (.slice none 0 0) ∧ iS.size = 1 ∧ iS.bytes = 24) := ⟨hi2, hz02, hz12, hz22⟩
  clear hi2 hz02 hz12 hz22
  have HM4 := Lib.hid (fun V => mod_any x 4 V (by omega) (by omega))
  have HTA := Lib.hid (fun (mm : Nat) (h1 : 1 ≤ mm) (h2 : mm ≤ 4) => tame_any A n0 c0 20 mm xs0 w hx (by omega) h1 (by omega))
  have HLI := Lib.hid (fun A n c zs V (h : Sl V A n c zs) => list_sl A n c zs V h)
  clear hx
  go_enter Try.func15, Try.ntmps15
  go_upto_region 2 with (go_at_call 40; (with_reducible refine (HM4.out _).mono ?_); rintro e v1 ⟨⟨r0, rfl, hr⟩, rfl⟩; have HR0 := Lib.hid hr; have v0 : IntKind.i64.wrap (1 + (r0 : Int)) = 1 + (r0 : Int) := IntWalk.i64_in _ (by omega); clear hr)
  rw [show (1 + (r0 : Int)) = ((1 + r0 : Nat) : Int) from by omega]
  clear v0
  have HMM : Hid (1 ≤ 1 + r0 ∧ 1 + r0 ≤ 4) := by have := HR0.out; rw [Hid]; omega
  clear HR0
  generalize 1 + r0 = mm at *
  have HTA := Lib.hid (HTA.out mm HMM.out.1 HMM.out.2)
  rw [show ((20 : Nat) : Int) = 20 from rfl] at HTA
  go_upto_region 3 with (go_at_call 39; go_must (refine HTA.out.mono ?_); rintro e w2 ⟨⟨v, zs, rfl, ho, hl, hz⟩, hb⟩; obtain ⟨A1, c1, rfl, hs⟩ := ho.sl_of rfl (by omega); have HBw2 := Lib.hid hb; have SL := Lib.hid hs; have HZL := Lib.hid hl; have HZ := Lib.hid hz; clear ho hl hz hs hb)
  obtain ⟨n, hn⟩ : ∃ n, n = zs.length := ⟨_, rfl⟩
  have HNL := Lib.hid hn.symm
  rw [← hn] at SL ⊢
  have HN1 : Hid (n ≤ 1000) := by have := HZL.out; rw [Hid]; omega
  have hn20 : n ≤ 20 := by rw [hn]; exact HZL.out
  have htk : zs.take 201 = zs := List.take_of_length_le (by omega)
  clear hn HTA HM4
  go_upto_region 4 with (go_at_call 16; (with_reducible refine (HLI.out _ _ _ _ _ SL.out).mono ?_); rintro e w3 ⟨⟨A2, n2, c2, rfl, _, hs⟩, hb⟩; have HB3 := Lib.hid (HBw2.out.trans (hb.mono HBw2.out.size)); have SL := Lib.hid (SL.out.below hb (Nat.le_refl _)); rw [htk] at hs; have SC := Lib.hid hs; clear hb hs)
  have hn2 : n2 = n := by have := SC.out.len; have := HNL.out; omega
  subst hn2
  have HBw3 := Lib.hid (Below.refl w3.heap.size w3)
  have HSL3 := Lib.hid (fun V (hV : Below w3.heap.size w3 V) => SL.out.below hV (Nat.le_refl _))
  have HSC3 := Lib.hid (fun V (hV : Below w3.heap.size w3 V) => SC.out.below hV (Nat.le_refl _))
  have hz16 : ∀ j, j < zs.length → 0 ≤ atI zs j ∧ atI zs j < 16 := fun j hj => by obtain ⟨r, e, h⟩ := HZ.out j hj; have := HMM.out; omega
  have hq1 := req_of (by have := HNL.out; omega) hz16
  have hpk : placesB 2 = true := by decide
  have HRE : Hid (∀ V, Sl V A1 n2 c1 zs → Calls Try.prog 17 #[.slice A1 n2 c1, .int .i64 2] V fun e w' => (∃ v, e = .returned (.tuple #[.int .i64 (svC 0 2 zs n2), v, .int .i64 0]) ∧ Ow w' V.heap.size 3 v (svP 0 2 zs n2)) ∧ Below V.heap.size V w') := fun V hV => by
    refine (recent_any 2 zs A1 n2 c1 V hV).mono ?_
    rintro e w' ⟨⟨_, _, v, rfl, ho⟩ | ⟨e1 | e1, _⟩, hb⟩
    · obtain ⟨s1, s2⟩ := way_same (st := 0) (rk := rkLast) (.inl ⟨rfl, rfl⟩) (k := 2) (by decide) hz16
      rw [HNL.out] at s1 s2
      rw [s1]
      rw [s2] at ho
      exact ⟨⟨v, rfl, ho⟩, hb⟩
    · rw [hq1] at e1; cases e1
    · rw [hpk] at e1; cases e1
  have HCU : Hid (∀ V, Sl V A1 n2 c1 zs → Calls Try.prog 26 #[.slice A1 n2 c1] V fun e w' => (∃ v, e = .returned (.tuple #[v, .int .i64 0]) ∧ Ow w' V.heap.size 3 v (cvL zs 8)) ∧ Below V.heap.size V w') := fun V hV => by
    refine (curve_any zs A1 n2 c1 V hV).mono ?_
    rintro e w' ⟨⟨_, v, rfl, ho⟩ | ⟨e1, _⟩, hb⟩
    · exact ⟨⟨v, rfl, ho⟩, hb⟩
    · rw [hq1] at e1; cases e1
  have HFR := Lib.hid (fun V (hV : Sl V A1 n2 c1 zs) => front_sl mm n2 c1 zs A1 V hV HMM.out.1 (by have := HMM.out; omega) (by omega) HZ.out)
  have HID := Lib.hid (fun V (hV : Sl V A1 n2 c1 zs) => ideal_hst mm n2 c1 zs A1 V hV HMM.out.1 (by have := HMM.out; omega) (by omega) HZ.out)
  have HSV := Lib.hid (fun V (hV : Sl V A2 n2 c2 zs) => serves_ref 2 zs A2 n2 c2 V hV 0 (by omega) hq1 hpk)
  rw [show ((0 : Nat) : Int) = 0 from rfl] at HSV
  have HRF := Lib.hid (fun V (hV : Sl V A2 n2 c2 zs) => frontR_any mm zs A2 n2 c2 V hV (by have := HMM.out; omega) (by omega) (by rw [← HNL.out]; exact HZ.out))
  have HIS := Lib.hid (fun k => idL_small mm zs n2 k (by have := HMM.out; omega))
  have HFL : Hid ((frO zs (startL mm) n2).length = mm) := by
    have hp := frM_full (List.Perm.refl _ : FullM mm (startL mm)) HZ.out n2 (by rw [HNL.out]; exact Nat.le_refl _)
    have := hp.length_eq
    rw [startL_len] at this
    exact this
  have HIL : Hid ((idL mm zs n2).length ≤ 60) := by rw [Hid]; unfold idL; simp; omega
  clear hz16 hq1 hpk HLI HZL HZ htk
  go_upto_region 8 with (first
    | (go_at_call 17; (with_reducible refine (HRE.out _ SL.out).mono ?_); rintro e w4 ⟨⟨v4, rfl, ho⟩, hb⟩;  have SL := Lib.hid (SL.out.below hb (Nat.le_refl _)); have SC := Lib.hid (SC.out.below hb (Nat.le_refl _)); have SP := Lib.hid (ho.base HBw3.out.size); have HBw4 := Lib.hid (HBw3.out.trans (hb.mono HBw3.out.size)); clear hb ho)
    | (go_at_call 26; (with_reducible refine (HCU.out _ SL.out).mono ?_); rintro e w5 ⟨⟨v5, rfl, ho⟩, hb⟩;  have SL := Lib.hid (SL.out.below hb (Nat.le_refl _)); have SC := Lib.hid (SC.out.below hb (Nat.le_refl _)); have SP := Lib.hid (SP.out.below hb (Nat.le_refl _)); have SQ := Lib.hid (ho.base HBw4.out.size); have HBw5 := Lib.hid (HBw4.out.trans (hb.mono HBw4.out.size)); clear hb ho)
    | (go_at_call 29; (with_reducible refine (HFR.out _ SL.out).mono ?_); rintro e w6 ⟨⟨v6, rfl, ho⟩, hb⟩;  have SL := Lib.hid (SL.out.below hb (Nat.le_refl _)); have SC := Lib.hid (SC.out.below hb (Nat.le_refl _)); have SP := Lib.hid (SP.out.below hb (Nat.le_refl _)); have SQ := Lib.hid (SQ.out.below hb (Nat.le_refl _)); have SO := Lib.hid (ho.base HBw5.out.size); have HBw6 := Lib.hid (HBw5.out.trans (hb.mono HBw5.out.size)); clear hb ho)
    | (go_at_call 30; (with_reducible refine (HID.out _ SL.out).mono ?_); rintro e w7 ⟨⟨v7, rfl, ho⟩, hb⟩;  have SL := Lib.hid (SL.out.below hb (Nat.le_refl _)); have SC := Lib.hid (SC.out.below hb (Nat.le_refl _)); have SP := Lib.hid (SP.out.below hb (Nat.le_refl _)); have SQ := Lib.hid (SQ.out.below hb (Nat.le_refl _)); have SO := Lib.hid (SO.out.below hb (Nat.le_refl _)); have SH := Lib.hid (ho.base HBw6.out.size); have HBw7 := Lib.hid (HBw6.out.trans (hb.mono HBw6.out.size)); clear hb ho))
  have hlp : (svP 0 2 zs n2).length ≤ 1000 := by rw [svP_len]; exact HN1.out
  have hlo : (frO zs (startL mm) n2).length ≤ 1000 := by rw [HFL.out]; have := HMM.out; omega
  have hlc : (cvL zs 8).length ≤ 1000 := by rw [cvL_len]; omega
  obtain ⟨Ap, np, cp, rfl⟩ := SP.out.slf hlp
  obtain ⟨Aq, nq, cq, rfl⟩ := SQ.out.slf hlc
  obtain ⟨Ao, no, co, rfl⟩ := SO.out.slf hlo
  obtain ⟨us, hu1, hu2, hu3⟩ := SH.out
  have HU1 := Lib.hid hu1
  have hus : ∀ z ∈ us, ∃ A n c, z = .slice A n c := fun z hz => by
    obtain ⟨k, hk, e⟩ := List.getElem_of_mem hz
    obtain ⟨u, h1, h2⟩ := hu3 k (by omega)
    rw [List.getElem?_eq_getElem hk, e] at h1
    have h1 := Option.some.inj h1
    subst h1
    exact h2.slf (by have := HIS.out k; omega)
  have HUS := Lib.hid hus
  have HRR : Hid (∀ z ∈ us, ∃ zs', Ow w7 w3.heap.size 3 z zs' ∧ zs'.length ≤ 1000) := fun z hz => by
    obtain ⟨k, hk, e⟩ := List.getElem_of_mem hz
    obtain ⟨u, h1, h2⟩ := hu3 k (by omega)
    rw [List.getElem?_eq_getElem hk, e] at h1
    have h1 := Option.some.inj h1
    subst h1
    exact ⟨_, h2, by have := HIS.out k; omega⟩
  have HUL : Hid (us.length ≤ 60) := by have := HIL.out; rw [Hid]; omega
  obtain ⟨W8, hW8⟩ : ∃ X, X = w7.alloc (.cells #[.slice Ap np cp, .slice Aq nq cq, .slice Ao no co] 22) := ⟨_, rfl⟩
  have hb8 : Below w7.heap.size w7 W8 := by rw [hW8]; exact (Below.refl _ w7).alloc (Nat.le_refl _) _
  have HV8 : Hid (Owv W8 w3.heap.size (.slice (some ⟨w7.heap.size, 0, none⟩) 3 3) [.slice Ap np cp, .slice Aq nq cq, .slice Ao no co]) := by
    rw [Hid, hW8]
    exact World.ownsRow_lit (base := w3.heap.size) (e := 22) (size := 1) w7 #[.slice Ap np cp, .slice Aq nq cq, .slice Ao no co] 3 HBw7.out.size (by unfold maxLen; omega) rfl
  have HU8 := Lib.hid (HU1.out.below hb8 (Nat.le_refl _))
  have HR8 : Hid (∀ z ∈ [.slice Ap np cp, .slice Aq nq cq, .slice Ao no co] ++ us, ∃ zs', Ow W8 w3.heap.size 3 z zs' ∧ zs'.length ≤ 1000) := fun z hz => by
    rw [List.mem_append] at hz
    rcases hz with hz | hz
    · simp at hz
      rcases hz with rfl | rfl | rfl
      · exact ⟨_, SP.out.below hb8 (Nat.le_refl _), hlp⟩
      · exact ⟨_, SQ.out.below hb8 (Nat.le_refl _), hlc⟩
      · exact ⟨_, SO.out.below hb8 (Nat.le_refl _), hlo⟩
    · obtain ⟨zs', h1, h2⟩ := HRR.out z hz
      exact ⟨zs', h1.below hb8 (Nat.le_refl _), h2⟩
  have HBw8 := Lib.hid (HBw7.out.trans (hb8.mono HBw7.out.size))
  have HG7 : Hid (w3.heap.size ≤ W8.heap.size) := HBw8.out.size
  have HW8 := Lib.hid hW8
  obtain ⟨g8, hg8⟩ : ∃ g, g = w7.heap.size := ⟨_, rfl⟩
  clear hlp hlo hlc hu1 hu2 hu3 hus hb8 HU1 HRR SP SQ SO SH HID HCU SL SC
  go_wp2_with (at_builtin; go_must (rw [show w7.alloc (Obj.cells #[.slice Ap np cp, .slice Aq nq cq, .slice Ao no co] 22) = W8 from HW8.out.symm]; refine appv_law _ rfl (.tmp 67) (.tmp 68) 43 rfl w3.heap.size iS Try.underlying43 HI2.out _ [.slice Ap np cp, .slice Aq nq cq, .slice Ao no co] rfl HV8.out w3.heap.size _ us rfl HU8.out HUS.out (by have := HUL.out; simp; omega) HG7.out ?_); intro v9 w9 hown hg; have HW9 := Lib.hid hown; have HG9 := Lib.hid hg; clear hown hg)
  have HR9 : Hid (Rws w9 w3.heap.size v9 ([.slice Ap np cp, .slice Aq nq cq, .slice Ao no co] ++ us)) := ⟨HW9.out, fun z hz => by
    obtain ⟨zs', h1, h2⟩ := HR8.out z hz
    exact ⟨zs', own_same h1 fun k cur e _ => HG9.out.block k (Array.getElem?_eq_some_iff.1 e).1 (fun e2 => by
      obtain ⟨c2, h3⟩ := own_ty HV8.out e2.symm
      exact ty_ne e h3 (by decide) rfl), h2⟩⟩
  have HB9 := Lib.hid (HBw8.out.grown HG9.out HG7.out (fun j e => (World.ownsRow.lt HV8.out j e).1))
  obtain ⟨vs, hvs⟩ : ∃ vs, vs = [.slice Ap np cp, .slice Aq nq cq, .slice Ao no co] ++ us := ⟨_, rfl⟩
  rw [← hvs] at HR9
  have HVN : Hid (vs.length ≤ 63) := by rw [Hid, hvs, List.length_append]; have := HUL.out; simp; omega
  have HVF : Hid (∀ z ∈ vs, ∃ A n c, z = .slice A n c) := fun z hz => by
    rw [hvs, List.mem_append] at hz
    rcases hz with hz | hz
    · simp at hz
      rcases hz with rfl | rfl | rfl <;> exact ⟨_, _, _, rfl⟩
    · exact HUS.out z hz
  have HV0 : Hid (0 < vs.length) := by rw [Hid, hvs]; simp
  clear hvs HW9 HG9 HV8 HU8 HR8 HUS HUL HW8 hW8 hg8
  obtain ⟨N, hN⟩ : ∃ N, N = vs.length := ⟨_, rfl⟩
  have HNN := Lib.hid hN
  obtain ⟨g9, c9, rfl⟩ : ∃ g c, v9 = .slice (some ⟨g, 0, none⟩) N c := by
    rcases HR9.out.1.2 with ⟨_, e⟩ | ⟨g, cap, cur, e1, _⟩
    · have := HV0.out; omega
    · exact ⟨g, cap, by rw [hN]; exact e1⟩
  have hN63 : N ≤ 63 := by rw [hN]; exact HVN.out
  clear hN HVN HV0
  go_wp2
  go_loopw [19] (fun r w' => ∃ i : Nat, i ≤ N ∧ r = .int .i64 (i : Int) ∧ Hid (Rws w' w3.heap.size (.slice (some ⟨g9, 0, none⟩) N c9) vs) ∧ Hid (Below w3.heap.size w3 w')) (fun r _ => N - (intOf r).toNat)
  case atStart => exact ⟨0, Nat.zero_le _, by go_num, HR9.out, HB9.out⟩
  case round =>
    obtain ⟨i, hi, rfl, HR, HB⟩ := hrel
    obtain ⟨wo, rfl⟩ : ∃ wo : World, wo = wr := ⟨_, rfl⟩
    clear HR9 HB9
    by_cases hlt : i < N
    · have i1 : (i : Int) < (N : Int) := by omega
      have hiv : i < vs.length := by rw [← HNN.out]; exact hlt
      have hzm : vs[i] ∈ vs := List.getElem_mem hiv
      obtain ⟨Az, nz, cz, ez⟩ := HVF.out _ hzm
      have HMZ : Hid ((.slice Az nz cz : Value) ∈ vs) := by rw [Hid, ← ez]; exact hzm
      have HCE : Hid (∀ V, Rws V w3.heap.size (.slice (some ⟨g9, 0, none⟩) N c9) vs → V.cell? ⟨g9, i, none⟩ = some (.slice Az nz cz)) := fun V hV => by
        have h1 := hV.1
        unfold Owv at h1
        rw [← HNN.out] at h1
        rw [World.ownsRow.cellAt h1 i (by omega), List.getElem?_eq_getElem hiv, ez]
      have hnz : nz ≤ 1000 := by
        obtain ⟨zs', ho, hl⟩ := HR.out.2 _ HMZ.out
        obtain ⟨A', c', e, _⟩ := ho.sl_len rfl (by omega)
        injection e with _ e _
        omega
      clear hzm ez hiv HVF
      go_wp2
      go_loopw [20] (fun r w' => ∃ j : Nat, j ≤ nz ∧ r = .int .i64 (j : Int) ∧ Hid (Rws w' w3.heap.size (.slice (some ⟨g9, 0, none⟩) N c9) vs) ∧ Hid (Below w3.heap.size w3 w')) (fun r _ => nz - (intOf r).toNat)
      case atStart => exact ⟨0, Nat.zero_le _, by go_num, HR.out, HB.out⟩
      case round =>
        clear HR HB
        obtain ⟨j, hj, rfl, HR, HB⟩ := hrel
        obtain ⟨wi, rfl⟩ : ∃ wi : World, wi = wr := ⟨_, rfl⟩
        have hce := HCE.out wi HR.out
        by_cases hjl : j < nz
        · have j1 : (j : Int) < (nz : Int) := by omega
          obtain ⟨zs', hoz, _⟩ := HR.out.2 _ HMZ.out
          obtain ⟨gr, hgr, hln⟩ : ∃ g, Az = some ⟨g, 0, none⟩ ∧ zs'.length = nz := by
            rcases id hoz.2 with ⟨e, _⟩ | ⟨g, cap, cur, e, _⟩
            · injection e with _ e _
              omega
            · injection e with e1 e2 e3
              exact ⟨g, e1, e2.symm⟩
          subst hgr
          have c1' := hoz.cellAt hln hjl
          have f1' := hoz.free hln j
          have hgl := (hoz.lt (k := gr) rfl).1
          generalize zs'[j]?.getD 0 = zj at c1'
          have HR2 := Lib.hid (HR.out.set (k := j) HMZ.out (-7))
          have HB2 := Lib.hid (HB.out.setCell (p := ⟨gr, j, none⟩) hgl (.int .i64 (-7)))
          clear hoz hln hgl
          go_wp2
          exact ⟨⟨j + 1, by omega, by go_num, HR2.out, HB2.out⟩, by simp [intOf]; omega⟩
        · have hjn : j = nz := by omega
          subst hjn
          have j1 : ¬ (j : Int) < (j : Int) := by omega
          go_wp2
          exact ⟨⟨i + 1, by omega, by go_num, HR.out, HB.out⟩, by simp [intOf]; omega⟩
    · have hin : i = N := by omega
      subst hin
      have i1 : ¬ (i : Int) < (i : Int) := by omega
      have HBwo := HB
      have SL := Lib.hid (HSL3.out wo HB.out)
      have SC := Lib.hid (HSC3.out wo HB.out)
      clear HR HB HVF HSL3 HSC3
      go_wp2_with (first
          | (go_at_call 17; (with_reducible refine (HRE.out _ SL.out).mono ?_); rintro e w10 ⟨⟨v10, rfl, ho⟩, hb⟩;  have SL := Lib.hid (SL.out.below hb (Nat.le_refl _)); have SC := Lib.hid (SC.out.below hb (Nat.le_refl _)); obtain ⟨A10, c10, rfl, hs⟩ := ho.sl_of (svP_len _ _ _ _) HN1.out; have SX := Lib.hid hs; have HBw10 := Lib.hid (HBwo.out.trans (hb.mono HBwo.out.size)); clear hb ho hs)
          | (go_at_call 29; (with_reducible refine (HFR.out _ SL.out).mono ?_); rintro e w11 ⟨⟨v11, rfl, ho⟩, hb⟩;  have SL := Lib.hid (SL.out.below hb (Nat.le_refl _)); have SC := Lib.hid (SC.out.below hb (Nat.le_refl _)); have SX := Lib.hid (SX.out.below hb (Nat.le_refl _)); obtain ⟨A11, c11, rfl, hs⟩ := ho.sl_of HFL.out (by have := HMM.out; omega); have SY := Lib.hid hs; have HBw11 := Lib.hid (HBw10.out.trans (hb.mono HBw10.out.size)); clear hb ho hs)
          | (go_at_call 22; (with_reducible refine (HSV.out _ SC.out).mono ?_); rintro e w12 ⟨⟨A12, c12, rfl, hs⟩, hb⟩;  have SL := Lib.hid (SL.out.below hb (Nat.le_refl _)); have SC := Lib.hid (SC.out.below hb (Nat.le_refl _)); have SX := Lib.hid (SX.out.below hb (Nat.le_refl _)); have SY := Lib.hid (SY.out.below hb (Nat.le_refl _)); have SV := Lib.hid hs; have HBw12 := Lib.hid (HBw11.out.trans (hb.mono HBw11.out.size)); clear hb hs)
          | (go_at_call 31; (with_reducible refine (HRF.out _ SC.out).mono ?_); rintro e w13 ⟨⟨v13, rfl, ho⟩, hb⟩;  have SL := Lib.hid (SL.out.below hb (Nat.le_refl _)); have SC := Lib.hid (SC.out.below hb (Nat.le_refl _)); have SX := Lib.hid (SX.out.below hb (Nat.le_refl _)); have SY := Lib.hid (SY.out.below hb (Nat.le_refl _)); have SV := Lib.hid (SV.out.below hb (Nat.le_refl _)); obtain ⟨A13, c13, rfl, hs⟩ := ho.sl_of HFL.out (by have := HMM.out; omega); have SZ := Lib.hid hs; have HBw13 := Lib.hid (HBw12.out.trans (hb.mono HBw12.out.size)); clear hb ho hs)
          | (go_at_call 24; (with_reducible refine (ints_same _ _ _ n2 _ _ _ HNL.out (by have := HN1.out; omega) SL.out.rd SC.out.rd).mono ?_); rintro e w14 ⟨rfl, hd⟩; have hb := hd.below w13.heap.size; have SX := Lib.hid (SX.out.below hb (Nat.le_refl _)); have SV := Lib.hid (SV.out.below hb (Nat.le_refl _)); have SY := Lib.hid (SY.out.below hb (Nat.le_refl _)); have SZ := Lib.hid (SZ.out.below hb (Nat.le_refl _)); have HBw14 := Lib.hid (HBw13.out.trans (hd.below _)); clear hb hd)
          | (go_at_call 24; (with_reducible refine (ints_same _ _ _ n2 _ _ _ (svP_len _ _ _ _) (by have := HN1.out; omega) SX.out.rd SV.out.rd).mono ?_); rintro e w15 ⟨rfl, hd⟩; have hb := hd.below w14.heap.size; have SY := Lib.hid (SY.out.below hb (Nat.le_refl _)); have SZ := Lib.hid (SZ.out.below hb (Nat.le_refl _)); have HBw15 := Lib.hid (HBw14.out.trans (hd.below _)); clear hb hd)
          | (go_at_call 24; (with_reducible refine (ints_same _ _ _ mm _ _ _ HFL.out (by have := HMM.out; omega) SY.out.rd SZ.out.rd).mono ?_); rintro e w16 ⟨rfl, hd⟩; have hb := hd.below w15.heap.size;  have HBw16 := Lib.hid (HBw15.out.trans (hd.below _)); clear hb hd)
          | (go_at_call 21; (with_reducible refine (awake_here _).mono ?_); rintro e w17 ⟨rfl, hb17⟩))
      go_ret
      exact ⟨rfl, HB3.out.trans ((HBw16.out.trans (hb17.mono HBw16.out.size)).mono HB3.out.size)⟩
end Go.Proofs.Ytcnjkdkkflpgnaa
