import Derived.Test.YtcnjkdkkflpgnaaT29
/- Layer 8: tame; renaming the pages. -/
namespace Go.Proofs.Ytcnjkdkkflpgnaa
open Go.RowKit Go.Maps
set_option linter.unusedVariables false

set_option maxRecDepth 100000 in
set_option maxHeartbeats 6400000 in
theorem tame_any (A : Option Addr) (n c most nn : Nat) (zs : List Int) (w : World) (hs : Sl w A n c zs) (hm : most ≤ 1000) (h1 : 1 ≤ nn) (h2 : nn ≤ 1000000) :
    Calls Try.prog 39 #[.slice A n c, .int .i64 (most : Int), .int .i64 (nn : Int)] w fun e w' => (∃ v ys, e = .returned v ∧ Ow w' w.heap.size 3 v ys ∧ ys.length ≤ most ∧ ∀ i, i < ys.length → ∃ r : Nat, atI ys i = (r : Int) ∧ r < nn) ∧ Below w.heap.size w w' := by
  obtain ⟨i0, hi, hz0, hz1, hz2⟩ := info_parts Try.infoInt
  have HI : Hid (Try.prog.info? 3 = some i0 ∧ i0.zero = some (.int .i64 0) ∧ i0.size = 1 ∧ i0.bytes = 8) := ⟨hi, hz0, hz1, hz2⟩
  have HSL := Lib.hid (fun V (hV : Below w.heap.size w V) => hs.below hV (Nat.le_refl _))
  have hbig := hs.big
  have HNN : Hid ((1 : Int) ≤ (nn : Int) ∧ (nn : Int) ≤ 1000000) := by rw [Hid]; omega
  have HMO := Lib.hid hm
  clear hi hz0 hz1 hz2 hs h1 h2 hm
  go_enter Try.func39, Try.ntmps39
  go_wp2
  go_loopw [7, 8] (fun v r w' => ∃ (i : Nat) (ys : List Int), i ≤ n ∧ i ≤ most ∧ r = .int .i64 (i : Int) ∧ Hid (Ow w' w.heap.size 3 v ys) ∧ Hid (ys.length = i) ∧ Hid (∀ j, j < ys.length → ∃ r : Nat, atI ys j = (r : Int) ∧ r < nn) ∧ Hid (Below w.heap.size w w')) (fun _ r _ => n - (intOf r).toNat)
  case atStart => exact ⟨0, [], Nat.zero_le _, Nat.zero_le _, by go_num, Ow.nil _ _ _, rfl, fun j hj => absurd hj (Nat.not_lt_zero _), Below.refl _ _⟩
  case round =>
    obtain ⟨i, ys, hi, him, rfl, HO, HL, HR, HB⟩ := hrel
    obtain ⟨wo, rfl⟩ : ∃ wo : World, wo = wr := ⟨_, rfl⟩
    by_cases hlt : i < n
    · have i1 : (i : Int) < (n : Int) := by omega
      by_cases hlm : i < most
      · have i2 : (i : Int) < (most : Int) := by omega
        obtain ⟨b1, o1, rfl, hc1⟩ := (HSL.out wo HB.out).at_ hlt
        generalize zs[i]?.getD 0 = z at hc1
        have HMD := Lib.hid (mod_any z (nn : Int) wo HNN.out.1 HNN.out.2)
        have HLL : Hid (ys.length ≤ 1099511627776) := by rw [Hid, HL.out]; have := HMO.out; omega
        have HBZ : Hid (w.heap.size ≤ wo.heap.size) := HB.out.size
        have HLI := Lib.hid hlm
        clear hlm
        have hmo := HMO.out
        have hln : i < 1000 := by have := HLI.out; omega
        go_wp2_with (first
          | (go_at_call 40; go_must (refine HMD.out.mono ?_); rintro e w2 ⟨⟨r, rfl, hr⟩, rfl⟩; have HRN := Lib.hid hr; clear hr)
          | (at_builtin; go_must (refine push_law _ rfl (.tmp 20) (.tmp 27) 22 rfl w.heap.size 3 i0 Try.underlying22 HI.out _ ys (r : Int) rfl rfl HO.out HLL.out HBZ.out ?_); intro v6 w6 hv6 hg6 _; have HO6 := Lib.hid hv6; have HB6 := Lib.hid (HB.out.grown hg6 HBZ.out (fun j e => (HO.out.lt e).1)); clear hv6 hg6))
        have hli := HLI.out
        refine ⟨⟨i + 1, ys ++ [(r : Int)], by omega, by omega, by go_num, HO6.out, by rw [Hid, List.length_append, HL.out]; rfl, fun j hj => ?_, HB6.out⟩, by simp [intOf]; omega⟩
        rw [List.length_append, List.length_singleton] at hj
        unfold atI
        by_cases e : j < ys.length
        · rw [List.getElem?_append_left e]; exact HR.out j e
        · have e : j = ys.length := by omega
          rw [e, List.getElem?_append_right (Nat.le_refl _), Nat.sub_self]
          exact ⟨r, rfl, by have := HRN.out; omega⟩
      · have i2 : ¬ (i : Int) < (most : Int) := by omega
        go_wp2
        go_ret
        exact ⟨⟨_, rfl, ys, HO.out, by rw [HL.out]; exact him, HR.out⟩, HB.out⟩
    · have i1 : ¬ (i : Int) < (n : Int) := by omega
      go_wp2
      go_ret
      exact ⟨⟨_, rfl, ys, HO.out, by rw [HL.out]; exact him, HR.out⟩, HB.out⟩
/-- A page's other name. -/
def sgN (b : Nat) (x : Int) : Int := ((5 * x.toNat + b) % 16 : Nat)
theorem sgN_inj {b : Nat} {x y : Int} (hx : 0 ≤ x ∧ x < 16) (hy : 0 ≤ y ∧ y < 16) (h : sgN b x = sgN b y) : x = y := by
  unfold sgN at h
  omega
theorem sgN_lo (b : Nat) (x : Int) : 0 ≤ sgN b x ∧ sgN b x < 16 := by unfold sgN; omega
def Lo (l : List Int) : Prop := ∀ x ∈ l, 0 ≤ x ∧ x < 16
theorem plI_map (f : Int → Int) (x : Int) : ∀ l : List Int, (∀ y ∈ l, f y = f x → y = x) → plI (l.map f) (f x) = plI l x
  | [], _ => rfl
  | z :: l, h => by
    have h1 : plI ((z :: l).map f) (f x) = if f z = f x then some 0 else (plI (l.map f) (f x)).map (· + 1) := rfl
    have h2 : plI (z :: l) x = if z = x then some 0 else (plI l x).map (· + 1) := rfl
    rw [h1, h2, plI_map f x l (fun y hy => h y (List.mem_cons_of_mem _ hy))]
    by_cases e : z = x
    · rw [if_pos e, if_pos (by rw [e])]
    · rw [if_neg e, if_neg (fun e2 => e (h z List.mem_cons_self e2))]
theorem ixI_ren {b : Nat} {l : List Int} {x : Int} (hl : Lo l) (hx : 0 ≤ x ∧ x < 16) : ixI (l.map (sgN b)) (sgN b x) = ixI l x := by
  unfold ixI
  rw [plI_map (sgN b) x l (fun y hy e => sgN_inj (hl y hy) hx e)]
theorem atI_ren {f : Int → Int} {l : List Int} {i : Nat} (h : i < l.length) : atI (l.map f) i = f (atI l i) := by
  unfold atI
  rw [List.getElem?_map, List.getElem?_eq_getElem h]
  rfl
theorem witho_ren (f : Int → Int) (l : List Int) (q : Nat) : witho (l.map f) q = (witho l q).map f := by
  unfold witho
  rw [← List.map_take, ← List.map_drop, List.map_append]
theorem Lo.at_ {l : List Int} (h : Lo l) {i : Nat} (hi : i < l.length) : 0 ≤ atI l i ∧ atI l i < 16 := h _ (atI_mem hi)
theorem latF_ren {b : Nat} {S rs : List Int} (hS : Lo S) (hr : Lo rs) : ∀ f i best far, i + f = S.length → latF (S.map (sgN b)) (rs.map (sgN b)) f i best far = latF S rs f i best far
  | 0, _, _, _, _ => rfl
  | f + 1, i, best, far, h => by
    unfold latF
    have e : ixI (rs.map (sgN b)) (atI (S.map (sgN b)) i) = ixI rs (atI S i) := by rw [atI_ren (by omega), ixI_ren hr (hS.at_ (by omega))]
    rw [e, latF_ren hS hr f (i + 1) i _ (by omega), latF_ren hS hr f (i + 1) best _ (by omega)]
theorem latL_ren {b : Nat} {S rs : List Int} (hS : Lo S) (hr : Lo rs) : latL (S.map (sgN b)) (rs.map (sgN b)) = latL S rs := by
  unfold latL
  rw [List.length_map]
  exact latF_ren hS hr _ 0 0 _ (by omega)
theorem Lo.witho {l : List Int} (h : Lo l) (q : Nat) : Lo (witho l q) := fun x hx => h x ((witho_sub l q).subset hx)
theorem svN_lo {st : Nat} {k page : Int} {S rs : List Int} (hS : Lo S) (hp : 0 ≤ page ∧ page < 16) : Lo (svN st k page S rs) := by
  unfold svN
  have h1 : ∀ T : List Int, Lo T → Lo (T ++ [page]) := fun T hT x hx => by
    rw [List.mem_append, List.mem_singleton] at hx
    rcases hx with hx | rfl
    · exact hT x hx
    · exact hp
  split
  · split
    · exact h1 _ (hS.witho _)
    · exact h1 _ hS
  · split
    · exact h1 _ (hS.witho _)
    · exact hS
theorem svS_lo {st : Nat} {k : Int} {zs : List Int} (hz : ∀ i, i < zs.length → 0 ≤ atI zs i ∧ atI zs i < 16) : ∀ i, i ≤ zs.length → Lo (svS st k zs i)
  | 0, _ => fun x hx => by cases hx
  | i + 1, hi => svN_lo (svS_lo hz i (by omega)) (hz i (by omega))
theorem lo_of {zs : List Int} (hz : ∀ i, i < zs.length → 0 ≤ atI zs i ∧ atI zs i < 16) : Lo zs := fun x hx => by
  obtain ⟨j, hj, e⟩ := List.getElem_of_mem hx
  have := hz j hj
  unfold atI at this
  rw [List.getElem?_eq_getElem hj, Option.getD_some, e] at this
  exact this
theorem Lo.drop {l : List Int} (h : Lo l) (q : Nat) : Lo (l.drop q) := fun x hx => h x (List.mem_of_mem_drop hx)
/-- A plan's entry under the other names. -/
def tuN (b : Nat) (g : Int) : Int := if g = -1 then -1 else sgN b g
theorem svN_ren {b st : Nat} {k page : Int} {S rs : List Int} (hS : Lo S) (hr : Lo rs) (hp : 0 ≤ page ∧ page < 16) (hk : 1 ≤ k) :
    svN st k (sgN b page) (S.map (sgN b)) (rs.map (sgN b)) = (svN st k page S rs).map (sgN b) ∧ svE st k (sgN b page) (S.map (sgN b)) (rs.map (sgN b)) = tuN b (svE st k page S rs) := by
  have hO : svO st (S.map (sgN b)) (rs.map (sgN b)) = svO st S rs := by
    unfold svO
    rw [latL_ren hS hr]
  unfold svN svE
  rw [ixI_ren hS hp, hO, List.length_map]
  constructor
  · split
    · split
      · rw [witho_ren, List.map_append]; rfl
      · rw [List.map_append]; rfl
    · split
      · rw [witho_ren, List.map_append]; rfl
      · rfl
  · split
    · rename_i h
      have h0 : 0 < S.length := by omega
      have hol : svO st S rs < S.length := by
        unfold svO
        split
        · exact latL_lt h0
        · exact h0
      rw [atI_ren hol]
      unfold tuN
      rw [if_neg (by have := hS.at_ hol; omega)]
    · rfl
theorem run_ren {b st : Nat} {k : Int} {zs : List Int} (hk : 1 ≤ k) (hz : ∀ i, i < zs.length → 0 ≤ atI zs i ∧ atI zs i < 16) : ∀ i, i ≤ zs.length → svS st k (zs.map (sgN b)) i = (svS st k zs i).map (sgN b) ∧ svC st k (zs.map (sgN b)) i = svC st k zs i ∧ ∀ j, j < i → svG st k (zs.map (sgN b)) j = tuN b (svG st k zs j)
  | 0, _ => ⟨rfl, rfl, fun j hj => absurd hj (Nat.not_lt_zero _)⟩
  | i + 1, hi => by
    obtain ⟨h1, h2, h3⟩ := run_ren (b := b) (st := st) hk hz i (by omega)
    have hS := svS_lo (st := st) (k := k) hz i (by omega)
    have hp := hz i (by omega)
    obtain ⟨h4, h5⟩ := svN_ren (b := b) (st := st) (k := k) hS ((lo_of hz).drop i) hp hk
    have e1 : atI (zs.map (sgN b)) i = sgN b (atI zs i) := atI_ren (by omega)
    refine ⟨?_, ?_, fun j hj => ?_⟩
    · show svN st k (atI (zs.map (sgN b)) i) (svS st k (zs.map (sgN b)) i) ((zs.map (sgN b)).drop i) = _
      rw [e1, h1, ← List.map_drop, h4]; rfl
    · show (if ixI (svS st k (zs.map (sgN b)) i) (atI (zs.map (sgN b)) i) < 0 then _ else _) = if ixI (svS st k zs i) (atI zs i) < 0 then _ else _
      rw [e1, h1, h2, ixI_ren hS hp]
    · rcases Nat.lt_succ_iff_lt_or_eq.1 hj with e | e
      · exact h3 j e
      · rw [e]
        show svE st k (atI (zs.map (sgN b)) i) (svS st k (zs.map (sgN b)) i) ((zs.map (sgN b)).drop i) = _
        rw [e1, h1, ← List.map_drop, h5]; rfl
theorem phT_lo {k : Int} {zs : List Int} (hz : ∀ i, i < zs.length → 0 ≤ atI zs i ∧ atI zs i < 16) : ∀ i, i ≤ zs.length → Lo (phT k zs i)
  | 0, _ => fun x hx => by cases hx
  | i + 1, hi => by
    have h := phT_lo (k := k) hz i (by omega)
    unfold phT phN
    split
    · exact h
    · intro x hx
      rw [List.mem_append, List.mem_singleton] at hx
      rcases hx with hx | rfl
      · split at hx
        · cases hx
        · exact h x hx
      · exact hz i (by omega)
theorem phases_ren {b : Nat} {k : Int} {zs : List Int} (hz : ∀ i, i < zs.length → 0 ≤ atI zs i ∧ atI zs i < 16) : ∀ i, i ≤ zs.length → phT k (zs.map (sgN b)) i = (phT k zs i).map (sgN b) ∧ phS k (zs.map (sgN b)) i = phS k zs i
  | 0, _ => ⟨rfl, rfl⟩
  | i + 1, hi => by
    obtain ⟨h1, h2⟩ := phases_ren (b := b) (k := k) hz i (by omega)
    have hT := phT_lo (k := k) hz i (by omega)
    have hp := hz i (by omega)
    have e1 : atI (zs.map (sgN b)) i = sgN b (atI zs i) := atI_ren (by omega)
    have hm : (sgN b (atI zs i) ∈ (phT k zs i).map (sgN b)) ↔ atI zs i ∈ phT k zs i := by
      rw [List.mem_map]
      exact ⟨fun ⟨y, hy, e⟩ => (sgN_inj (hT y hy) hp e) ▸ hy, fun h => ⟨_, h, rfl⟩⟩
    constructor
    · show phN k i (atI (zs.map (sgN b)) i) (phT k (zs.map (sgN b)) i) = (phN k i (atI zs i) (phT k zs i)).map (sgN b)
      rw [e1, h1]
      unfold phN
      rw [List.length_map]
      by_cases hin : atI zs i ∈ phT k zs i
      · rw [if_pos (hm.2 hin), if_pos hin]
      · rw [if_neg (fun e => hin (hm.1 e)), if_neg hin, List.map_append]
        split <;> rfl
    · show (if atI (zs.map (sgN b)) i ∉ phT k (zs.map (sgN b)) i ∧ (i = 0 ∨ ((phT k (zs.map (sgN b)) i).length : Int) = k) then _ else _) = if atI zs i ∉ phT k zs i ∧ (i = 0 ∨ ((phT k zs i).length : Int) = k) then _ else _
      rw [e1, h1, h2, List.length_map]
      by_cases hin : atI zs i ∈ phT k zs i
      · rw [if_neg (fun e => e.1 (hm.2 hin)), if_neg (fun e => e.1 hin)]
      · by_cases hc : i = 0 ∨ ((phT k zs i).length : Int) = k
        · rw [if_pos ⟨fun e => hin (hm.1 e), hc⟩, if_pos ⟨hin, hc⟩]
        · rw [if_neg (fun e => hc e.2), if_neg (fun e => hc e.2)]
end Go.Proofs.Ytcnjkdkkflpgnaa
/- Layer 8: the walk of ShelfNames. -/
namespace Go.Proofs.Ytcnjkdkkflpgnaa
open Go.RowKit Go.Maps
set_option linter.unusedVariables false

def otL (b : Nat) (zs : List Int) (i : Nat) : List Int := (List.range i).map fun j => sgN b (atI zs j)
theorem otL_succ (b : Nat) (zs : List Int) (i : Nat) : otL b zs (i + 1) = otL b zs i ++ [sgN b (atI zs i)] := by unfold otL; rw [List.range_succ, List.map_append]; rfl
theorem otL_len (b : Nat) (zs : List Int) (i : Nat) : (otL b zs i).length = i := by simp [otL]
theorem otL_all (b : Nat) (zs : List Int) : otL b zs zs.length = zs.map (sgN b) := by
  refine List.ext_getElem (by simp [otL]) fun i h1 h2 => ?_
  simp only [otL, List.getElem_map, List.getElem_range]
  rw [otL_len] at h1
  unfold atI
  rw [List.getElem?_eq_getElem h1]
  rfl
theorem phases_sl (k : Int) (zs : List Int) (A : Option Addr) (n c nH : Nat) (V : World) (h : Sl V A n c zs) (h1 : reqB zs 200 15 = true) (h2 : placesB k = true) (H : List Int) (hH : phS k zs n = H) (hn : H.length = nH) :
    Calls Try.prog 27 #[.slice A n c, .int .i64 k] V fun e w' => (∃ A' c', e = .returned (.tuple #[.slice A' nH c', .int .i64 0]) ∧ Sl w' A' nH c' H) ∧ Below V.heap.size V w' := by
  obtain ⟨hl, _⟩ := reqB_parts h1
  have hlen := h.len
  have hp := phS_len k zs n
  rw [hH] at hp
  refine (phasesP_any k zs A n c V h).mono ?_
  rintro e w' ⟨⟨_, _, v, rfl, ho⟩ | ⟨e1 | e1, _⟩, hb⟩
  · rw [hH] at ho
    obtain ⟨A', c', rfl, hs⟩ := ho.sl_of hn (by omega)
    exact ⟨⟨A', c', rfl, hs⟩, hb⟩
  · rw [h1] at e1; cases e1
  · rw [h2] at e1; cases e1
theorem req_of {zs : List Int} (hl : zs.length ≤ 200) (hz : ∀ i, i < zs.length → 0 ≤ atI zs i ∧ atI zs i < 16) : reqB zs 200 15 = true := by
  unfold reqB
  rw [Bool.and_eq_true, decide_eq_true_iff, allB_iff]
  refine ⟨fun j hj => ?_, by omega⟩
  have := hz j hj
  unfold atI at this
  rw [Bool.and_eq_true, decide_eq_true_iff, decide_eq_true_iff]
  omega
theorem svG_lo {st : Nat} {k : Int} {zs : List Int} (hk : 1 ≤ k) (hz : ∀ i, i < zs.length → 0 ≤ atI zs i ∧ atI zs i < 16) {i : Nat} (hi : i < zs.length) : svG st k zs i = -1 ∨ (0 ≤ svG st k zs i ∧ svG st k zs i < 16) := by
  unfold svG svE
  split
  · rename_i h
    right
    have h0 : 0 < (svS st k zs i).length := by omega
    refine (svS_lo hz i (by omega)).at_ ?_
    unfold svO
    split
    · exact latL_lt h0
    · exact h0
  · exact .inl rfl
set_option maxRecDepth 100000 in
set_option maxHeartbeats 12800000 in
theorem names_walk (A : Option Addr) (n0 c0 : Nat) (xs0 : List Int) (x0 x1 : Int) (w : World) (hx : Sl w A n0 c0 xs0) :
    Calls Try.prog 11 #[.slice A n0 c0, .agg #[.int .i64 x0, .int .i64 x1]] w fun e w' => e = .returned (.bool true) ∧ Below w.heap.size w w' := by
  obtain ⟨i0, hi, hz0, hz1, hz2⟩ := info_parts Try.infoInt
  have HI : Hid (Try.prog.info? 3 = some i0 ∧ i0.zero = some (.int .i64 0) ∧ i0.size = 1 ∧ i0.bytes = 8) := ⟨hi, hz0, hz1, hz2⟩
  clear hi hz0 hz1 hz2
  obtain ⟨W, hW⟩ : ∃ W, W = w.alloc (.cells #[.int .i64 x0, .int .i64 x1] 59) := ⟨_, rfl⟩
  have hb : Below w.heap.size w W := by rw [hW]; exact (Below.refl _ w).alloc (Nat.le_refl _) _
  have hr0 : W.heap[w.heap.size]? = some (.cells #[.int .i64 x0, .int .i64 x1] 59 (0, 0)) := by rw [hW]; exact heap_alloc_new _ _
  have hz : w.heap.size < W.heap.size := by rw [hW]; simp
  have HBX : Hid (∀ V, Below W.heap.size W V → V.cell? ⟨w.heap.size, 0, none⟩ = some (.int .i64 x0) ∧ V.cell? ⟨w.heap.size, 1, none⟩ = some (.int .i64 x1)) := fun V hV => ⟨cell_in ((hV.block _ hz).trans hr0) rfl, cell_in ((hV.block _ hz).trans hr0) rfl⟩
  have HW := Lib.hid hW
  have HBW := Lib.hid hb
  have HTA := Lib.hid (tame_any A n0 c0 60 16 xs0 W (hx.below hb (Nat.le_refl _)) (by omega) (by omega) (by omega))
  rw [show ((60 : Nat) : Int) = 60 from rfl, show ((16 : Nat) : Int) = 16 from rfl] at HTA
  have HM8 := Lib.hid (fun V => mod_any x0 8 V (by omega) (by omega))
  have HM16 := Lib.hid (fun V => mod_any x1 16 V (by omega) (by omega))
  clear hW hb hr0 hz hx
  go_enter Try.func11, Try.ntmps11
  go_upto_region 1 with (fail)
  rw [← HW.out]
  go_upto_region 2 with (go_at_call 39; go_must (refine HTA.out.mono ?_); rintro e w1 ⟨⟨v, zs, rfl, ho, hl, hz⟩, hb⟩; obtain ⟨A1, c1, rfl, hs⟩ := ho.sl_of rfl (by omega); have HBw1 := Lib.hid hb; have SL := Lib.hid hs; have HZL := Lib.hid hl; have HZ := Lib.hid hz; clear ho hl hz hs hb)
  have d0 := (HBX.out w1 HBw1.out).1
  have d1 := (HBX.out w1 HBw1.out).2
  obtain ⟨n, hn⟩ : ∃ n, n = zs.length := ⟨_, rfl⟩
  have HN := Lib.hid hn
  rw [← hn] at SL ⊢
  have hn60 : n ≤ 60 := by rw [hn]; exact HZL.out
  clear hn
  go_upto_region 5 with (first
    | (go_at_call 40; (with_reducible refine (HM8.out _).mono ?_); rintro e v1 ⟨⟨r0, rfl, hr⟩, rfl⟩; have HR0 := Lib.hid hr; have v0 : IntKind.i64.wrap (1 + (r0 : Int)) = 1 + (r0 : Int) := IntWalk.i64_in _ (by omega); clear hr)
    | (go_at_call 40; (with_reducible refine (HM16.out _).mono ?_); rintro e v2 ⟨⟨b, rfl, hr⟩, rfl⟩; have HR1 := Lib.hid hr; clear hr))
  have hb16 : (b : Int) < 16 := HR1.out
  go_wp2
  go_loopw [8, 9] (fun v r w' => ∃ i : Nat, i ≤ n ∧ r = .int .i64 (i : Int) ∧ Hid (Ow w' w1.heap.size 3 v (otL b zs i)) ∧ Hid (Below w1.heap.size w1 w')) (fun _ r _ => n - (intOf r).toNat)
  case atStart => exact ⟨0, Nat.zero_le _, by go_num, Ow.nil _ _ _, Below.refl _ _⟩
  case round =>
    obtain ⟨i, hi, rfl, HO, HB⟩ := hrel
    obtain ⟨wo, rfl⟩ : ∃ wo : World, wo = wr := ⟨_, rfl⟩
    by_cases hlt : i < n
    · have i1 : (i : Int) < (n : Int) := by omega
      obtain ⟨b1, o1, rfl, hc1⟩ := (SL.out.below HB.out (Nat.le_refl _)).at_ hlt
      obtain ⟨r, hr, hr16⟩ := HZ.out i (by rw [← HN.out]; exact hlt)
      rw [show zs[i]?.getD 0 = atI zs i from rfl, hr] at hc1
      have HOS : Hid (otL b zs (i + 1) = otL b zs i ++ [(((5 * r + b) % 16 : Nat) : Int)]) := by rw [Hid, otL_succ, hr]; rfl
      have HLL : Hid ((otL b zs i).length ≤ 1099511627776) := by rw [Hid, otL_len]; omega
      have HBZ : Hid (w1.heap.size ≤ wo.heap.size) := HB.out.size
      have v1 : IntKind.i64.wrap (5 * (r : Int)) = 5 * (r : Int) := IntWalk.i64_in _ (by omega)
      have v2 : IntKind.i64.wrap (5 * (r : Int) + (b : Int)) = 5 * (r : Int) + (b : Int) := IntWalk.i64_in _ (by omega)
      have v3 : (5 * (r : Int) + (b : Int)).tmod 16 = (((5 * r + b) % 16 : Nat) : Int) := by rw [Int.tmod_eq_emod_of_nonneg (by omega)]; omega
      have v4 : IntKind.i64.wrap (((5 * r + b) % 16 : Nat) : Int) = (((5 * r + b) % 16 : Nat) : Int) := IntWalk.i64_in _ (by omega)
      clear hr
      go_wp2_with (at_builtin; go_must (refine push_law _ rfl (.tmp 43) (.tmp 52) 22 rfl w1.heap.size 3 i0 Try.underlying22 HI.out _ (otL b zs i) _ rfl rfl HO.out HLL.out HBZ.out ?_); intro v6 w6 hv6 hg6 _; have HO6 := Lib.hid hv6; have HB6 := Lib.hid (HB.out.grown hg6 HBZ.out (fun j e => (HO.out.lt e).1)); clear hv6 hg6)
      exact ⟨⟨i + 1, by omega, by go_num, by rw [HOS.out]; exact HO6.out, HB6.out⟩, by simp [intOf]; omega⟩
    · have hin : i = n := by omega
      subst hin
      have i1 : ¬ (i : Int) < (i : Int) := by omega
      have HMA : Hid (otL b zs i = zs.map (sgN b)) := by rw [Hid, HN.out]; exact otL_all b zs
      rw [HMA.out] at HO
      have hz16 : ∀ j, j < zs.length → 0 ≤ atI zs j ∧ atI zs j < 16 := fun j hj => by obtain ⟨r, e, h⟩ := HZ.out j hj; omega
      have hz2 : ∀ j, j < (zs.map (sgN b)).length → 0 ≤ atI (zs.map (sgN b)) j ∧ atI (zs.map (sgN b)) j < 16 := fun j hj => by
        rw [List.length_map] at hj
        rw [atI_ren hj]; exact sgN_lo b _
      have hq1 := req_of (by rw [← HN.out]; omega) hz16
      have hq2 := req_of (zs := zs.map (sgN b)) (by rw [List.length_map, ← HN.out]; omega) hz2
      have hk1 : (1 : Int) ≤ 1 + (r0 : Int) := by omega
      have hpk : placesB (1 + (r0 : Int)) = true := by
        have := HR0.out
        unfold placesB
        rw [decide_eq_true (by omega), decide_eq_true (by omega)]; rfl
      obtain ⟨A2, c2, rfl, hs2⟩ := HO.out.sl_of (n := i) (by rw [List.length_map, ← HN.out]) (by omega)
      obtain ⟨e0, e1, e2⟩ := run_ren (b := b) (st := 0) hk1 hz16 zs.length (Nat.le_refl _)
      obtain ⟨_, e4, _⟩ := run_ren (b := b) (st := 2) hk1 hz16 zs.length (Nat.le_refl _)
      have e5 := (phases_ren (b := b) (k := 1 + (r0 : Int)) hz16 zs.length (Nat.le_refl _)).2
      have hlo := fun j (hj : j < zs.length) => svG_lo (st := 0) hk1 hz16 hj
      rw [← HN.out] at e1 e2 e4 e5 hlo
      have SL := Lib.hid (SL.out.below HB.out (Nat.le_refl _))
      have SO := Lib.hid hs2
      have HR1x := Lib.hid (fun V (hV : Sl V A1 i c1 zs) => serves_recent (1 + (r0 : Int)) zs A1 i c1 V hV hq1 hpk)
      have HR2x := Lib.hid (fun V (hV : Sl V A2 i c2 (zs.map (sgN b))) => serves_recent (1 + (r0 : Int)) _ A2 i c2 V hV hq2 hpk)
      have HT1 : Hid (∀ V, Sl V A1 i c1 zs → Calls Try.prog 19 #[.slice A1 i c1, .int .i64 (1 + (r0 : Int))] V fun e w' => (∃ v, e = .returned (.tuple #[.int .i64 (svC 2 (1 + (r0 : Int)) zs i), v, .int .i64 0])) ∧ Below V.heap.size V w') := fun V hV => (serves_best (1 + (r0 : Int)) zs A1 i c1 V hV hq1 hpk).mono fun e w' ⟨⟨A', c', h, _⟩, hb⟩ => ⟨⟨_, h⟩, hb⟩
      have HT2 : Hid (∀ V, Sl V A2 i c2 (zs.map (sgN b)) → Calls Try.prog 19 #[.slice A2 i c2, .int .i64 (1 + (r0 : Int))] V fun e w' => (∃ v, e = .returned (.tuple #[.int .i64 (svC 2 (1 + (r0 : Int)) zs i), v, .int .i64 0])) ∧ Below V.heap.size V w') := fun V hV => (serves_best (1 + (r0 : Int)) _ A2 i c2 V hV hq2 hpk).mono fun e w' ⟨⟨A', c', h, _⟩, hb⟩ => ⟨⟨_, by rw [e4] at h; exact h⟩, hb⟩
      obtain ⟨H, hH⟩ : ∃ H, H = phS (1 + (r0 : Int)) zs i := ⟨_, rfl⟩
      have hHl : H.length ≤ 1000 := by rw [hH]; have := phS_len (1 + (r0 : Int)) zs i; omega
      obtain ⟨nH, hnH⟩ : ∃ q, q = H.length := ⟨_, rfl⟩
      have HH1 := Lib.hid (fun V (hV : Sl V A1 i c1 zs) => phases_sl (1 + (r0 : Int)) zs A1 i c1 nH V hV hq1 hpk H hH.symm hnH.symm)
      have HH2 := Lib.hid (fun V (hV : Sl V A2 i c2 (zs.map (sgN b))) => phases_sl (1 + (r0 : Int)) _ A2 i c2 nH V hV hq2 hpk H (by rw [e5, hH]) hnH.symm)
      have HNH := Lib.hid hnH.symm
      have HHN : Hid (nH ≤ 1000) := by rw [Hid, hnH]; exact hHl
      rw [e1] at HR2x
      obtain ⟨P, hP⟩ : ∃ P, P = svP 0 (1 + (r0 : Int)) zs i := ⟨_, rfl⟩
      obtain ⟨Q, hQ⟩ : ∃ P, P = svP 0 (1 + (r0 : Int)) (zs.map (sgN b)) i := ⟨_, rfl⟩
      have HPQ : Hid (∀ j, j < i → (atI P j = -1 ∧ atI Q j = -1) ∨ ∃ g : Nat, g < 16 ∧ atI P j = (g : Int) ∧ atI Q j = (((5 * g + b) % 16 : Nat) : Int)) := fun j hj => by
        have h1 : atI P j = svG 0 (1 + (r0 : Int)) zs j := by rw [hP]; unfold svP; rw [atI_mapN hj]
        have h2 : atI Q j = tuN b (svG 0 (1 + (r0 : Int)) zs j) := by rw [hQ]; unfold svP; rw [atI_mapN hj]; exact e2 j hj
        rcases hlo j hj with h | h
        · left
          rw [h1, h2, h]
          exact ⟨rfl, rfl⟩
        · right
          refine ⟨(svG 0 (1 + (r0 : Int)) zs j).toNat, by omega, by rw [h1]; omega, ?_⟩
          rw [h2]
          unfold tuN
          rw [if_neg (by omega)]
          rfl
      have HR1 : Hid (∀ V, Sl V A1 i c1 zs → _) := HR1x.out
      have HR2 : Hid (∀ V, Sl V A2 i c2 (zs.map (sgN b)) → _) := HR2x.out
      rw [← hP] at HR1
      rw [← hQ] at HR2
      have HBw3 : Hid (Below w1.heap.size w1 wo) := HB.out
      clear HR1x HR2x e0 e1 e2 e4 e5 hlo hq1 hq2 hz16 hz2 hs2 HO HMA hpk hk1 hP hQ hH hnH hHl HB HM8 HM16 HTA HZ HZL HN d0 d1
      generalize zs.map (sgN b) = os at *
      generalize svC 0 (1 + (r0 : Int)) zs i = C0 at *
      generalize svC 2 (1 + (r0 : Int)) zs i = C2 at *
      obtain ⟨w3, rfl⟩ : ∃ x : World, x = wo := ⟨_, rfl⟩
      go_wp2_with (first
        | (go_at_call 17; (with_reducible refine (HR1.out _ SL.out).mono ?_); rintro e w4 ⟨⟨A4, c4, rfl, hs⟩, hb⟩; have SL := Lib.hid (SL.out.below hb (Nat.le_refl _)); have SO := Lib.hid (SO.out.below hb (Nat.le_refl _)); have SP := Lib.hid hs; have HBw4 := Lib.hid (HBw3.out.trans (hb.mono HBw3.out.size)); clear hb hs)
        | (go_at_call 17; (with_reducible refine (HR2.out _ SO.out).mono ?_); rintro e w5 ⟨⟨A5, c5, rfl, hs⟩, hb⟩; have SL := Lib.hid (SL.out.below hb (Nat.le_refl _)); have SO := Lib.hid (SO.out.below hb (Nat.le_refl _)); have SP := Lib.hid (SP.out.below hb (Nat.le_refl _)); have SQ := Lib.hid hs; have HBw5 := Lib.hid (HBw4.out.trans (hb.mono HBw4.out.size)); clear hb hs)
        | (go_at_call 19; (with_reducible refine (HT1.out _ SL.out).mono ?_); rintro e w6 ⟨⟨v6, rfl⟩, hb⟩; have SL := Lib.hid (SL.out.below hb (Nat.le_refl _)); have SO := Lib.hid (SO.out.below hb (Nat.le_refl _)); have SP := Lib.hid (SP.out.below hb (Nat.le_refl _)); have SQ := Lib.hid (SQ.out.below hb (Nat.le_refl _));  have HBw6 := Lib.hid (HBw5.out.trans (hb.mono HBw5.out.size)); clear hb )
        | (go_at_call 19; (with_reducible refine (HT2.out _ SO.out).mono ?_); rintro e w7 ⟨⟨v7, rfl⟩, hb⟩; have SL := Lib.hid (SL.out.below hb (Nat.le_refl _)); have SO := Lib.hid (SO.out.below hb (Nat.le_refl _)); have SP := Lib.hid (SP.out.below hb (Nat.le_refl _)); have SQ := Lib.hid (SQ.out.below hb (Nat.le_refl _));  have HBw7 := Lib.hid (HBw6.out.trans (hb.mono HBw6.out.size)); clear hb )
        | (go_at_call 27; (with_reducible refine (HH1.out _ SL.out).mono ?_); rintro e w8 ⟨⟨A8, c8, rfl, hs⟩, hb⟩; have SL := Lib.hid (SL.out.below hb (Nat.le_refl _)); have SO := Lib.hid (SO.out.below hb (Nat.le_refl _)); have SP := Lib.hid (SP.out.below hb (Nat.le_refl _)); have SQ := Lib.hid (SQ.out.below hb (Nat.le_refl _)); have SX := Lib.hid hs; have HBw8 := Lib.hid (HBw7.out.trans (hb.mono HBw7.out.size)); clear hb hs)
        | (go_at_call 27; (with_reducible refine (HH2.out _ SO.out).mono ?_); rintro e w9 ⟨⟨A9, c9, rfl, hs⟩, hb⟩; have SL := Lib.hid (SL.out.below hb (Nat.le_refl _)); have SO := Lib.hid (SO.out.below hb (Nat.le_refl _)); have SP := Lib.hid (SP.out.below hb (Nat.le_refl _)); have SQ := Lib.hid (SQ.out.below hb (Nat.le_refl _)); have SX := Lib.hid (SX.out.below hb (Nat.le_refl _)); have SY := Lib.hid hs; have HBw9 := Lib.hid (HBw8.out.trans (hb.mono HBw8.out.size)); clear hb hs)
        | (go_at_call 24; (with_reducible refine (ints_same _ _ _ nH _ _ _ HNH.out (by have := HHN.out; omega) SX.out.rd SY.out.rd).mono ?_); rintro e w10 ⟨rfl, hd⟩; have hb := hd.below w9.heap.size; have SP := Lib.hid (SP.out.below hb (Nat.le_refl _)); have SQ := Lib.hid (SQ.out.below hb (Nat.le_refl _)); have HBw10 := Lib.hid (HBw9.out.trans (hd.below _)); clear hb hd))
      obtain ⟨n, hn⟩ : ∃ n, n = i := ⟨_, rfl⟩
      have HSP := Lib.hid (fun V (hV : Below w10.heap.size w10 V) => SP.out.below hV (Nat.le_refl _))
      have HSQ := Lib.hid (fun V (hV : Below w10.heap.size w10 V) => SQ.out.below hV (Nat.le_refl _))
      go_loopw [26] (fun r w' => ∃ j : Nat, j ≤ i ∧ r = .int .i64 (j : Int) ∧ Hid (Below w10.heap.size w10 w')) (fun r _ => i - (intOf r).toNat)
      case atStart => exact ⟨0, Nat.zero_le _, by go_num, Below.refl _ _⟩
      case round =>
        obtain ⟨j, hj, rfl, HB⟩ := hrel
        obtain ⟨wo, rfl⟩ : ∃ wo : World, wo = wr := ⟨_, rfl⟩
        by_cases hlt : j < i
        · have j1 : (j : Int) < (i : Int) := by omega
          obtain ⟨b4, o4, rfl, hc4⟩ := (HSP.out wo HB.out).at_ hlt
          obtain ⟨b5, o5, rfl, hc5⟩ := (HSQ.out wo HB.out).at_ hlt
          rw [show P[j]?.getD 0 = atI P j from rfl] at hc4
          rw [show Q[j]?.getD 0 = atI Q j from rfl] at hc5
          have hcase := HPQ.out j hlt
          clear SP SQ HSP HSQ
          rcases hcase with ⟨h4, h5⟩ | ⟨g, hg, h4, h5⟩
          · rw [h4] at hc4
            rw [h5] at hc5
            clear h4 h5
            go_wp2
            exact ⟨⟨j + 1, by omega, by go_num, HB.out⟩, by simp [intOf]; omega⟩
          · rw [h4] at hc4
            rw [h5] at hc5
            have u0 : (g : Int) ≥ 0 := by omega
            have u1 : (g : Int).tmod 16 = (g : Int) := by rw [Int.tmod_eq_emod_of_nonneg (by omega)]; omega
            have v5 : IntKind.i64.wrap (g : Int) = (g : Int) := IntWalk.i64_in _ (by omega)
            have v1 : IntKind.i64.wrap (5 * (g : Int)) = 5 * (g : Int) := IntWalk.i64_in _ (by omega)
            have v2 : IntKind.i64.wrap (5 * (g : Int) + (b : Int)) = 5 * (g : Int) + (b : Int) := IntWalk.i64_in _ (by omega)
            have v3 : (5 * (g : Int) + (b : Int)).tmod 16 = (((5 * g + b) % 16 : Nat) : Int) := by rw [Int.tmod_eq_emod_of_nonneg (by omega)]; omega
            have v4 : IntKind.i64.wrap (((5 * g + b) % 16 : Nat) : Int) = (((5 * g + b) % 16 : Nat) : Int) := IntWalk.i64_in _ (by omega)
            clear h4 h5 hg
            go_wp2
            exact ⟨⟨j + 1, by omega, by go_num, HB.out⟩, by simp [intOf]; omega⟩
        · have hji : j = i := by omega
          subst hji
          have j1 : ¬ (j : Int) < (j : Int) := by omega
          go_wp2_with (go_at_call 21; (with_reducible refine (awake_here _).mono ?_); rintro e w11 ⟨rfl, hb11⟩)
          go_ret
          have k1 := HBw10.out.trans (HB.out.mono HBw10.out.size)
          have k2 := k1.trans (hb11.mono k1.size)
          exact ⟨rfl, HBW.out.trans ((HBw1.out.trans (k2.mono HBw1.out.size)).mono HBW.out.size)⟩
end Go.Proofs.Ytcnjkdkkflpgnaa
