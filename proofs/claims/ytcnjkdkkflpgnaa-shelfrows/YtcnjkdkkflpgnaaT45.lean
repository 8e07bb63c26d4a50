import Derived.Test.YtcnjkdkkflpgnaaT41
import Derived.Test.YtcnjkdkkflpgnaaT35
import Derived.Test.YtcnjkdkkflpgnaaT21
/- Layer 8: what staying and moving to the front cost; two histories that grow side by side. -/
namespace Go.Proofs.Ytcnjkdkkflpgnaa
open Go.RowKit Go.Maps
set_option linter.unusedVariables false

def smC (zs : List Int) : Nat → Int
  | 0 => 0
  | k + 1 => smC zs k + atI zs k + 1
def styL (m k : Nat) : List (List Int) := (List.range k).map fun _ => startL m
def mvL (zs : List Int) (m k : Nat) : List (List Int) := (List.range k).map fun j => frO zs (startL m) j
theorem styL_succ (m k : Nat) : styL m (k + 1) = styL m k ++ [startL m] := by unfold styL; rw [List.range_succ, List.map_append]; rfl
theorem mvL_succ (zs : List Int) (m k : Nat) : mvL zs m (k + 1) = mvL zs m k ++ [frO zs (startL m) k] := by unfold mvL; rw [List.range_succ, List.map_append]; rfl
theorem styL_len (m k : Nat) : (styL m k).length = k := by simp [styL]
theorem mvL_len (zs : List Int) (m k : Nat) : (mvL zs m k).length = k := by simp [mvL]
theorem styL_at {m n i : Nat} (hi : i < n) : ordAt (styL m n) i = startL m := by unfold ordAt styL; rw [List.getElem?_map, List.getElem?_range hi]; rfl
theorem mvL_at {zs : List Int} {m n i : Nat} (hi : i < n) : ordAt (mvL zs m n) i = frO zs (startL m) i := by unfold ordAt mvL; rw [List.getElem?_map, List.getElem?_range hi]; rfl
theorem few_zero {o : List Int} (h0 : turnN o o = 0) : ∀ {L : List (List Int)} {f : Nat}, o ∈ L → fewT o L f = 0
  | x :: xs, f, h => by
    rcases List.mem_cons.1 h with e | e
    · show fewT o xs (min f (turnN x o)) = 0
      rw [← e, h0, Nat.min_zero]
      have := fewT_le o xs 0
      omega
    · show fewT o xs (min f (turnN x o)) = 0
      exact few_zero h0 e
theorem choL_mem {o : List Int} {p q : Nat} (hq : q ≤ p) : movedL o p q ∈ choL o p (p + 1) := List.mem_map.2 ⟨q, List.mem_range.2 (by omega), rfl⟩
theorem pad_nodup {zs : List Int} {m : Nat} (h : okO zs m = true) (hm : m ≤ 6) : (padO zs).Nodup := (okO_full h hm).nodup_iff.2 (by decide)
theorem start_ok (m : Nat) : okO (startL m) m = true := perm_okO (List.Perm.refl _)
theorem stay_cost {m n : Nat} {zs : List Int} (hm : m ≤ 6) (hz : ∀ k, k < n → ∃ r : Nat, atI zs k = (r : Int) ∧ r < m) : ∀ k, k ≤ n → cstF zs (styL m n) k = smC zs k
  | 0, _ => rfl
  | i + 1, hi => by
    obtain ⟨r, e, hr⟩ := hz i (by omega)
    have h0 : turnN o6 o6 = 0 := by decide
    have hp : ∀ j, j < n → ∃ p : Nat, exP zs (styL m n) j = p ∧ p < 6 := fun j hj => by
      obtain ⟨r, e, hr⟩ := hz j hj
      obtain ⟨p, e2, hp⟩ := ok_place (start_ok m) hr
      refine ⟨p, ?_, by omega⟩
      unfold exP
      rw [styL_at hj, e, ixI_padlt (startL_len m) hm hr, e2, Int.toNat_natCast]
    have hmem : o6 ∈ preO zs (styL m n) i := by
      cases i with
      | zero => exact List.mem_singleton.2 rfl
      | succ j =>
        obtain ⟨p, e3, hp6⟩ := hp j (by omega)
        show o6 ∈ choL (padO (ordAt (styL m n) j)) (exP zs (styL m n) j) (exP zs (styL m n) j + 1)
        rw [styL_at (by omega), startL_pad m hm, e3]
        have := choL_mem (o := o6) (Nat.le_refl p)
        rwa [moved_self (o := o6) (by show p < 6; exact hp6)] at this
    show cstF zs (styL m n) i + ((fewT (padO (ordAt (styL m n) i)) (preO zs (styL m n) i) 36 : Int) + ixI (padO (ordAt (styL m n) i)) (atI zs i) + 1) = smC zs i + atI zs i + 1
    rw [stay_cost hm hz i (by omega), styL_at (by omega), startL_pad m hm, few_zero h0 hmem, e]
    have hx : ixI o6 (r : Int) = (r : Int) := by
      have := ixI_of (zs := o6) (by decide) (i := r) (by show r < 6; omega)
      rwa [o6_at r (by omega)] at this
    rw [hx]
    omega
theorem frM_ok {zs : List Int} {m : Nat} (hm : m ≤ 6) (hz : ∀ k, k < zs.length → ∃ r : Nat, atI zs k = (r : Int) ∧ r < m) {k : Nat} (hk : k ≤ zs.length) : okO (frO zs (startL m) k) m = true :=
  perm_okO (frM_full (List.Perm.refl _) hz k hk)
theorem move_cost {m : Nat} {zs : List Int} (hm : m ≤ 6) (hz : ∀ k, k < zs.length → ∃ r : Nat, atI zs k = (r : Int) ∧ r < m) : ∀ k, k ≤ zs.length → cstF zs (mvL zs m zs.length) k = frC zs (startL m) k
  | 0, _ => rfl
  | i + 1, hi => by
    obtain ⟨r, e, hr⟩ := hz i (by omega)
    have hoi := frM_ok hm hz (k := i) (by omega)
    have hmem : padO (frO zs (startL m) i) ∈ preO zs (mvL zs m zs.length) i := by
      cases i with
      | zero => exact List.mem_singleton.2 (startL_pad m hm)
      | succ j =>
        obtain ⟨r, e, hr⟩ := hz j (by omega)
        have hoj := frM_ok hm hz (k := j) (by omega)
        obtain ⟨p, e2, hp⟩ := ok_place hoj hr
        have hl := (okO_rolls hoj).1
        show padO (frO zs (startL m) (j + 1)) ∈ choL (padO (ordAt (mvL zs m zs.length) j)) (exP zs (mvL zs m zs.length) j) (exP zs (mvL zs m zs.length) j + 1)
        have hx : exP zs (mvL zs m zs.length) j = p := by
          unfold exP
          rw [mvL_at (by omega), e, ixI_padlt hl hm hr, e2, Int.toNat_natCast]
        have hf : frO zs (startL m) (j + 1) = movedL (frO zs (startL m) j) p 0 := by
          show movedL (frO zs (startL m) j) (ixI (frO zs (startL m) j) (atI zs j)).toNat 0 = _
          rw [e, e2, Int.toNat_natCast]
        rw [hx, mvL_at (by omega), hf, ← moved_padk hl hp (Nat.zero_le _)]
        exact choL_mem (Nat.zero_le _)
    show cstF zs (mvL zs m zs.length) i + ((fewT (padO (ordAt (mvL zs m zs.length) i)) (preO zs (mvL zs m zs.length) i) 36 : Int) + ixI (padO (ordAt (mvL zs m zs.length) i)) (atI zs i) + 1) = frC zs (startL m) i + (ixI (frO zs (startL m) i) (atI zs i) + 1)
    rw [move_cost hm hz i (by omega), mvL_at (by omega), few_zero (turn_self (pad_nodup hoi hm)) hmem, e, ixI_padlt (okO_rolls hoi).1 hm hr]
    omega
theorem stay_his {m n : Nat} : hisB m (styL m n) n = true := hisB_good (styL_len m n) fun k hk => by rw [styL_at hk]; exact start_ok m
theorem move_his {m : Nat} {zs : List Int} (hm : m ≤ 6) (hz : ∀ k, k < zs.length → ∃ r : Nat, atI zs k = (r : Int) ∧ r < m) : hisB m (mvL zs m zs.length) zs.length = true := hisB_good (mvL_len zs m _) fun k hk => by rw [mvL_at hk]; exact frM_ok hm hz (by omega)
theorem smC_bd {m n : Nat} {zs : List Int} (hm : m ≤ 6) (hz : ∀ k, k < n → ∃ r : Nat, atI zs k = (r : Int) ∧ r < m) : ∀ k : Nat, k ≤ n → 0 ≤ smC zs k ∧ smC zs k ≤ 6 * (k : Int)
  | 0, _ => ⟨Int.le_refl _, Int.le_refl _⟩
  | i + 1, hi => by
    obtain ⟨r, e, hr⟩ := hz i (by omega)
    have ih := smC_bd hm hz i (by omega)
    show 0 ≤ smC zs i + atI zs i + 1 ∧ smC zs i + atI zs i + 1 ≤ _
    rw [e]
    omega
/-- The row under way: the requested roll, then the others of the first x. -/
def nxR (o : List Int) (r : Int) (x : Nat) : List Int := r :: (o.take x).filter fun y => y != r
theorem nxR_same {o : List Int} {r : Int} {x : Nat} (hx : x < o.length) (h : atI o x = r) : nxR o r (x + 1) = nxR o r x := by
  unfold nxR
  rw [takeI hx, List.filter_append, h]
  simp
theorem nxR_add {o : List Int} {r : Int} {x : Nat} (hx : x < o.length) (h : ¬ atI o x = r) : nxR o r (x + 1) = nxR o r x ++ [atI o x] := by
  unfold nxR
  rw [takeI hx, List.filter_append, List.filter_cons_of_pos (by simpa using h), List.filter_nil]; rfl
theorem nxR_len (o : List Int) (r : Int) (x : Nat) : (nxR o r x).length ≤ x + 1 := by
  have := List.length_filter_le (fun y => y != r) (o.take x)
  rw [List.length_take] at this
  show ((o.take x).filter _).length + 1 ≤ _
  omega
theorem nxR_end {o : List Int} {p : Nat} (hn : o.Nodup) (hp : p < o.length) : nxR o (atI o p) o.length = movedL o p 0 := by
  unfold nxR movedL
  rw [List.take_length, List.take_zero, List.drop_zero]
  show atI o p :: _ = atI o p :: witho o p
  congr 1
  have e : atI o p = o[p] := by unfold atI; rw [List.getElem?_eq_getElem hp]; rfl
  have hsplit : o = o.take p ++ atI o p :: o.drop (p + 1) := by rw [e, ← List.drop_eq_getElem_cons hp, List.take_append_drop]
  have hd : ∀ y, y ∈ o.take p ∨ y ∈ o.drop (p + 1) → y ≠ atI o p := by
    have h2 := hn
    rw [hsplit, List.nodup_append] at h2
    obtain ⟨_, h3, h4⟩ := h2
    obtain ⟨h5, _⟩ := List.nodup_cons.1 h3
    intro y hy e2
    rcases hy with hy | hy
    · exact h4 y hy _ List.mem_cons_self e2
    · exact h5 (e2 ▸ hy)
  unfold witho
  generalize atI o p = r at *
  rw [show (o.filter fun y => y != r) = ((o.take p ++ r :: o.drop (p + 1)).filter fun y => y != r) from congrArg _ hsplit, List.filter_append, List.filter_cons_of_neg (by simp), List.filter_eq_self.2 (fun y hy => by simpa using hd y (.inl hy)), List.filter_eq_self.2 (fun y hy => by simpa using hd y (.inr hy))]
theorem pushv_at {P : Program} (w : World) {ops : Array Oper} {rest : List Oper} {o : Oper} {a : Act} {Q : Exit → Act → World → Prop} (hgd : o.guard = none) (s x : Operand) (t : TypeId)
    (ho : o.op = .call { callee := .builtin .append, args := #[s, x], argTypes := #[t, t] })
    (B : Nat) (i : TypeInfo) (ht : P.underlying t = some (.slice 22)) (hI : P.info? 22 = some i ∧ i.zero = some (.slice none 0 0) ∧ i.size = 1 ∧ i.bytes = 24)
    (v : Value) (vs : List Value) (A : Option Addr) (n c : Nat) (hs : a.eval s = v) (hx : a.eval x = .slice (some ⟨w.heap.size, 0, none⟩) 1 1) (hown : Owv w B v vs) (hn : vs.length ≤ 1000000) (hB : B ≤ w.heap.size)
    (h : ∀ v' w', Owv w' B v' (vs ++ [.slice A n c]) → w.grownBy w' v.ownBlock → (v'.ownBlock = v.ownBlock ∨ ∃ g, v'.ownBlock = some g ∧ w.heap.size ≤ g) → wpList P ops Q rest (a.put o.dst v') w') :
    wpList P ops Q (o :: rest) a (w.alloc (.cells #[.slice A n c] 22)) := by
  obtain ⟨h1, h2, h3, h4⟩ := hI
  refine wpList_append_own_at _ hgd s x t ho B 22 i _ 1 24 ht h1 h2 h3 h4 rfl (by decide) v vs.length vs hs (hown.alloc _) ⟨w.heap.size, 0, none⟩ 1 1 [.slice A n c] hx rfl ?_ ?_ (by unfold maxLen; omega) (by omega) (by simp; omega) ?_
  · intro j u hu
    match j, hu with
    | 0, hu => simp at hu; subst hu; simp [Addr.add]
  · intro u hu
    simp at hu
    subst hu
    rfl
  · intro v' w' ho' hg' _ hat
    refine h v' w' ?_ (grown_alloc hg') ?_
    · unfold Owv
      rw [List.length_append]
      exact ho'
    · rcases hat with e1 | e1
      · exact .inl e1
      · exact .inr ⟨_, e1, by simp⟩
/-- A row of ints stays when a slice of slices grows. -/
theorem Ow.byv {w w' : World} {B B2 : Nat} {v u : Value} {zs : List Int} {vs : List Value} (h : Ow w B 3 v zs) (hu : Owv w B2 u vs) (hg : w.grownBy w' u.ownBlock) : Ow w' B 3 v zs :=
  own_same h fun k cur e _ => hg.block k (Array.getElem?_eq_some_iff.1 e).1 (fun e2 => by
    obtain ⟨c2, h2⟩ := own_ty hu e2.symm
    exact ty_ne e h2 (by decide) rfl)
theorem Hst.byv {w w' : World} {B B2 : Nat} {v u : Value} {rows : List (List Int)} {vs : List Value} (h : Hst w B v rows) (hu : Owv w B2 u vs) (hg : w.grownBy w' u.ownBlock) (ha : Apart v u) : Hst w' B v rows := by
  obtain ⟨us, h1, h2, h3⟩ := h
  exact ⟨us, World.ownsRow.kept h1 hg ha, h2, fun k hk => by obtain ⟨x, hx, ho⟩ := h3 k hk; exact ⟨x, hx, ho.byv hu hg⟩⟩
theorem Apart.pushv {w : World} {B : Nat} {v v' u : Value} {us : List Value} (h : Apart v u) (hu : Owv w B u us) (hat : v'.ownBlock = v.ownBlock ∨ ∃ g, v'.ownBlock = some g ∧ w.heap.size ≤ g) : Apart v' u := by
  rcases hat with e | ⟨g, e, hg⟩
  · unfold Apart at *
    rw [e]; exact h
  · right
    intro e2
    have := (World.ownsRow.lt hu g (by rw [← e2, e])).2
    omega
theorem lit_ow {w : World} {B : Nat} (hB : B ≤ w.heap.size) (z : Int) : Ow (w.alloc (.cells #[.int .i64 z] 3)) B 3 (.slice (some ⟨w.heap.size, 0, none⟩) 1 1) [z] :=
  World.ownsRow_lit w #[.int .i64 z] 1 hB (by unfold maxLen; omega) rfl
end Go.Proofs.Ytcnjkdkkflpgnaa
/- Layer 8: the walk of ShelfStays. -/
namespace Go.Proofs.Ytcnjkdkkflpgnaa
open Go.RowKit Go.Maps
set_option linter.unusedVariables false

theorem cost_his (m : Nat) (zs : List Int) (hs : List (List Int)) (A B : Option Addr) (n c c2 : Nat) (w : World) (h : Sl w A n c zs) (h2 : Sll w B n c2 hs) (hm1 : 1 ≤ m) (hm6 : m ≤ 6) (hn : n ≤ 60) (hz : ∀ i, i < n → ∃ r : Nat, atI zs i = (r : Int) ∧ r < m) (hh : hisB m hs n = true) :
    Calls Try.prog 35 #[.int .i64 (m : Int), .slice A n c, .slice B n c2] w fun e w' => e = .returned (.tuple #[.int .i64 (cstF zs hs n), .int .i64 0]) ∧ Below w.heap.size w w' := by
  have hr : isRowB (m : Int) zs = true := isRow_of hm1 hm6 (by rw [h.len]; exact hn) (by rw [h.len]; exact hz)
  refine (costP_any (m : Int) zs hs A B n c n c2 w h h2).mono ?_
  rw [Int.toNat_natCast]
  rintro e w' ⟨⟨h1, _⟩ | ⟨_, h1, _⟩ | ⟨_, _, h1⟩, hb⟩
  · rw [hr] at h1; cases h1
  · rw [hh] at h1; cases h1
  · exact ⟨h1, hb⟩
set_option maxRecDepth 100000 in
set_option maxHeartbeats 12800000 in
theorem stays_walk (x : Int) (A : Option Addr) (n0 c0 : Nat) (xs0 : List Int) (w : World) (hx : Sl w A n0 c0 xs0) :
    Calls Try.prog 13 #[.int .i64 x, .slice A n0 c0] w fun e w' => e = .returned (.bool true) ∧ Below w.heap.size w w' := by
  obtain ⟨i0, hi, hz0, hz1, hz2⟩ := info_parts Try.infoInt
  have HI : Hid (Try.prog.info? 3 = some i0 ∧ i0.zero = some (.int .i64 0) ∧ i0.size = 1 ∧ i0.bytes = 8) := ⟨hi, hz0, hz1, hz2⟩
  obtain ⟨iS, hi2, hz02, hz12, hz22⟩ := info_parts Try.infoRowS
  have HI2 : Hid (Try.prog.info? 22 = some iS ∧ iS.zero = some (.slice none 0 0) ∧ iS.size = 1 ∧ iS.bytes = 24) := ⟨hi2, hz02, hz12, hz22⟩
  have HM6 := Lib.hid (fun V => mod_any x 6 V (by omega) (by omega))
  have HX := Lib.hid hx
  clear hi hz0 hz1 hz2 hi2 hz02 hz12 hz22 hx
  go_enter Try.func13, Try.ntmps13
  go_upto_region 2 with (go_at_call 40; go_must (with_reducible refine (HM6.out _).mono ?_); rintro e v1 ⟨⟨r, rfl, hr⟩, rfl⟩; have HR := Lib.hid hr; have v0 : IntKind.i64.wrap (1 + (r : Int)) = 1 + (r : Int) := IntWalk.i64_in _ (by omega); clear hr)
  obtain ⟨m, hm⟩ : ∃ m : Nat, m = 1 + r := ⟨_, rfl⟩
  have hm1 : 1 ≤ m := by omega
  have hm6 : m ≤ 6 := by have := HR.out; omega
  rw [show 1 + (r : Int) = (m : Int) by omega]
  clear hm v0 HR HM6
  have HTA := Lib.hid (tame_any A n0 c0 40 m xs0 w HX.out (by omega) (by omega) (by omega))
  rw [show ((40 : Nat) : Int) = 40 from rfl] at HTA
  go_upto_region 3 with (go_at_call 39; go_must (refine HTA.out.mono ?_); rintro e w1 ⟨⟨v, zs, rfl, ho, hl, hz⟩, hb⟩; obtain ⟨A1, c1, rfl, hs⟩ := ho.sl_of rfl (by omega); have HB1 := Lib.hid hb; have HZL := Lib.hid hl; have HZ := Lib.hid hz; have HS1 := Lib.hid hs; clear ho hl hz hs hb)
  obtain ⟨n, hn⟩ : ∃ n, n = zs.length := ⟨_, rfl⟩
  have HN := Lib.hid hn
  rw [← hn] at HS1 ⊢
  have hn40 : n ≤ 40 := by rw [hn]; exact HZL.out
  have HZZ : Hid (∀ i, i < n → ∃ r : Nat, atI zs i = (r : Int) ∧ r < m) := fun i hi => HZ.out i (by rw [← HN.out]; exact hi)
  have HSL := Lib.hid (fun V (hV : Below w1.heap.size w1 V) => HS1.out.below hV (Nat.le_refl _))
  clear hn HTA HX HZ HZL
  go_wp2
  go_loopw [8, 9] (fun v r w' => ∃ k : Nat, k ≤ m ∧ r = .int .i64 (k : Int) ∧ Hid (Ow w' w1.heap.size 3 v (startL k)) ∧ Hid (Below w1.heap.size w1 w')) (fun _ r _ => m - (intOf r).toNat)
  case atStart => exact ⟨0, Nat.zero_le _, by go_num, Ow.nil _ _ _, Below.refl _ _⟩
  case round =>
    obtain ⟨k, hk, rfl, HO, HB⟩ := hrel
    obtain ⟨wo, rfl⟩ : ∃ wo : World, wo = wr := ⟨_, rfl⟩
    by_cases hlt : k < m
    · have i1 : (k : Int) < (m : Int) := by omega
      have HZ2 : Hid (w1.heap.size ≤ wo.heap.size) := HB.out.size
      have HLS : Hid ((startL k).length ≤ 1099511627776) := by rw [Hid, startL_len]; omega
      go_wp2_with (at_builtin; go_must (refine push_law _ rfl (.tmp 33) (.tmp 35) 22 rfl w1.heap.size 3 i0 Try.underlying22 HI.out _ (startL k) (k : Int) rfl rfl HO.out HLS.out HZ2.out ?_); intro v6 w6 hv6 hg6 _; have HO6 := Lib.hid hv6; have HB6 := Lib.hid (HB.out.grown hg6 HZ2.out (fun j e => (HO.out.lt e).1)); clear hv6 hg6)
      exact ⟨⟨k + 1, by omega, by go_num, by rw [startL_succ]; exact HO6.out, HB6.out⟩, by simp [intOf]; omega⟩
    · have hkm : k = m := by omega
      subst hkm
      have i1 : ¬ (k : Int) < (k : Int) := by omega
      have HOF := HO
      obtain ⟨A2, c2, rfl, hs2⟩ := HO.out.sl_len (startL_len k) (by omega)
      clear hs2 HO
      have hfz : ∀ j, j ≤ n → okO (frO zs (startL k) j) k = true := fun j hj => frM_ok hm6 (by rw [← HN.out]; exact HZZ.out) (by rw [← HN.out]; exact hj)
      have HFZ := Lib.hid hfz
      clear hfz
      go_wp2
      go_loopw [6, 7, 10, 11, 12] (fun st mv now s r w' => ∃ j : Nat, j ≤ n ∧ r = .int .i64 (j : Int) ∧ s = .int .i64 (smC zs j) ∧ Hid (Hst w' w1.heap.size st (styL k j)) ∧ Hid (Hst w' w1.heap.size mv (mvL zs k j)) ∧ Hid (Apart st mv) ∧ Hid (Ow w' w1.heap.size 3 now (frO zs (startL k) j)) ∧ Hid (Ow w' w1.heap.size 3 (.slice A2 k c2) (startL k)) ∧ Hid (Below w1.heap.size w1 w')) (fun _ _ _ _ r _ => n - (intOf r).toNat)
      case atStart => exact ⟨0, Nat.zero_le _, by go_num, rfl, Hst.nil _ _, Hst.nil _ _, Or.inl rfl, HOF.out, HOF.out, HB.out⟩
      case round =>
        clear HOF HB
        obtain ⟨j, hj, rfl, rfl, HST, HMV, HAP, HNO, HFI, HB⟩ := hrel
        obtain ⟨wp, rfl⟩ : ∃ wp : World, wp = wr := ⟨_, rfl⟩
        by_cases hjl : j < n
        · have j1 : (j : Int) < (n : Int) := by omega
          have HZ0 : Hid (w1.heap.size ≤ wp.heap.size) := HB.out.size
          obtain ⟨r, er, hr⟩ := HZZ.out j hjl
          obtain ⟨p, ep, hp⟩ := ok_place (HFZ.out j hj) hr
          have hol := (okO_rolls (HFZ.out j hj)).1
          have HFR : Hid (frO zs (startL k) (j + 1) = nxR (frO zs (startL k) j) (r : Int) k) := by
            show movedL (frO zs (startL k) j) (ixI (frO zs (startL k) j) (atI zs j)).toNat 0 = _
            have hnd : (frO zs (startL k) j).Nodup := (okO_perm (HFZ.out j hj)).nodup_iff.2 (startL_nodup k)
            have := nxR_end hnd (p := p) (by rw [hol]; exact hp)
            rw [hol, ixI_atI ep] at this
            rw [er, ep, Int.toNat_natCast, ← this]
          have HSU : Hid (smC zs (j + 1) = smC zs j + (r : Int) + 1) := by show smC zs j + atI zs j + 1 = _; rw [er]
          have hsb := smC_bd hm6 HZZ.out j hj
          have v1 : IntKind.i64.wrap (smC zs j + (r : Int)) = smC zs j + (r : Int) := IntWalk.i64_in _ (by omega)
          have v2 : IntKind.i64.wrap (smC zs j + (r : Int) + 1) = smC zs j + (r : Int) + 1 := IntWalk.i64_in _ (by omega)
          have HCL : Hid (∃ b o, A1 = some ⟨b, o, none⟩ ∧ ∀ V, Below w1.heap.size w1 V → V.cell? ⟨b, o + j, none⟩ = some (.int .i64 (r : Int))) := by
            obtain ⟨b, o, e, hc⟩ := (HSL.out wp HB.out).at_ hjl
            refine ⟨b, o, e, fun V hV => ?_⟩
            obtain ⟨b', o', e', hc'⟩ := (HSL.out V hV).at_ hjl
            rw [e] at e'
            have e' := Option.some.inj e'
            injection e' with e1 e2 _
            rw [← e1, ← e2, show zs[j]?.getD 0 = atI zs j from rfl, er] at hc'
            exact hc'
          obtain ⟨b1, o1, rfl, hcl⟩ := HCL.out
          have HCL2 := Lib.hid hcl
          clear HCL hcl er ep hp hsb
          have HMS := Lib.hid (mvL_succ zs k j)
          generalize frO zs (startL k) j = o at *
          have HOL := Lib.hid hol
          generalize smC zs j = s at *
          obtain ⟨vs, hov, hvl, hvr⟩ := HST.out
          obtain ⟨us, hou, hul, hur⟩ := HMV.out
          have HOV := Lib.hid hov
          have HVL := Lib.hid hvl
          have HVR := Lib.hid hvr
          have HOU := Lib.hid hou
          have HLS : Hid (vs.length ≤ 1000000) := by rw [Hid, hvl, styL_len]; omega
          clear hov hvl hvr hou hul hur hol
          obtain ⟨A4, c4, rfl, hs4⟩ := HNO.out.sl_len HOL.out (by omega)
          clear hs4
          go_upto_region 15 with (at_builtin; go_must (refine pushv_at _ rfl (.tmp 44) (.tmp 46) 43 rfl w1.heap.size iS Try.underlying43 HI2.out _ vs _ _ _ rfl rfl HOV.out HLS.out HZ0.out ?_); intro v3 w3 hown hg hat; have HST3 := Lib.hid (Hst.push HOV.out HVL.out HVR.out HFI.out hown hg); have HMV3 := Lib.hid (HMV.out.byv HOV.out hg HAP.out.symm); have HNO3 := Lib.hid (HNO.out.byv HOV.out hg); have HFI3 := Lib.hid (HFI.out.byv HOV.out hg); have HAP3 := Lib.hid (HAP.out.pushv HOU.out hat); have HB3 := Lib.hid (HB.out.grown hg HZ0.out (fun j e => (World.ownsRow.lt HOV.out j e).1)); clear hown hg hat)
          clear HST HMV HNO HFI HAP HB HOV HVL HVR HOU HLS
          obtain ⟨us2, hou, hul, hur⟩ := HMV3.out
          obtain ⟨vs2, hov, _, _⟩ := HST3.out
          have HOV := Lib.hid hov
          have HOU := Lib.hid hou
          have HUL := Lib.hid hul
          have HUR := Lib.hid hur
          have HLS : Hid (us2.length ≤ 1000000) := by rw [Hid, hul, mvL_len]; omega
          have HZ3 : Hid (w1.heap.size ≤ w3.heap.size) := HB3.out.size
          clear hov hou hul hur
          go_upto_region 16 with (at_builtin; go_must (refine pushv_at _ rfl (.tmp 48) (.tmp 50) 43 rfl w1.heap.size iS Try.underlying43 HI2.out _ us2 _ _ _ rfl rfl HOU.out HLS.out HZ3.out ?_); intro v5 w5 hown hg hat; have HMV5 := Lib.hid (Hst.push HOU.out HUL.out HUR.out HNO3.out hown hg); have HST5 := Lib.hid (HST3.out.byv HOU.out hg HAP3.out); have HNO5 := Lib.hid (HNO3.out.byv HOU.out hg); have HFI5 := Lib.hid (HFI3.out.byv HOU.out hg); have HAP5 := Lib.hid ((HAP3.out.symm.pushv HOV.out hat).symm); have HB5 := Lib.hid (HB3.out.grown hg HZ3.out (fun j e => (World.ownsRow.lt HOU.out j e).1)); clear hown hg hat)
          rw [← styL_succ] at HST5
          rw [← HMS.out] at HMV5
          clear HST3 HMV3 HNO3 HFI3 HAP3 HB3 HOV HOU HUL HUR HLS HZ3
          have hcl5 := HCL2.out _ HB5.out
          go_upto_region 18 with (fail)
          obtain ⟨W6, hW6⟩ : ∃ X, X = w5.alloc (.cells #[.int .i64 (r : Int)] 3) := ⟨_, rfl⟩
          rw [← hW6]
          have HN6 : Hid (Ow W6 w5.heap.size 3 (.slice (some ⟨w5.heap.size, 0, none⟩) 1 1) [(r : Int)]) := by rw [hW6]; exact lit_ow (Nat.le_refl _) _
          have HE6 : Hid (Below w5.heap.size w5 W6) := by rw [hW6]; exact (Below.refl _ _).alloc (Nat.le_refl _) _
          have HALL : Hid (∀ V, Below w5.heap.size w5 V → Hst V w1.heap.size v3 (styL k (j + 1)) ∧ Hst V w1.heap.size v5 (mvL zs k (j + 1)) ∧ Ow V w1.heap.size 3 (.slice A2 k c2) (startL k) ∧ Below w1.heap.size w1 V) := fun V hV => ⟨HST5.out.below hV (Nat.le_refl _), HMV5.out.below hV (Nat.le_refl _), HFI5.out.below hV (Nat.le_refl _), HB5.out.trans (hV.mono HB5.out.size)⟩
          have HSN : Hid (∀ V, Below w5.heap.size w5 V → Sl V A4 k c4 o) := fun V hV => by
            obtain ⟨A8, c8, e8, hs8⟩ := (HNO5.out.below hV (Nat.le_refl _)).sl_len HOL.out (by omega)
            injection e8 with e8 _ e9
            rw [e8, e9]; exact hs8
          have HZ5 : Hid (w1.heap.size ≤ w5.heap.size) := HB5.out.size
          clear hW6 HST5 HMV5 HFI5 HNO5 HB5 hcl5
          go_wp2
          go_loopw [13, 14] (fun nx q w' => ∃ x : Nat, x ≤ k ∧ q = .int .i64 (x : Int) ∧ Hid (Ow w' w5.heap.size 3 nx (nxR o (r : Int) x)) ∧ Hid (Below w5.heap.size w5 w')) (fun _ q _ => k - (intOf q).toNat)
          case atStart => exact ⟨0, Nat.zero_le _, by go_num, HN6.out, HE6.out⟩
          case round =>
            clear HN6 HE6
            obtain ⟨x, hx, rfl, HNX, HE⟩ := hrel
            obtain ⟨wi, rfl⟩ : ∃ wi : World, wi = wr := ⟨_, rfl⟩
            by_cases hxl : x < k
            · have k1 : (x : Int) < (k : Int) := by omega
              obtain ⟨b4, o4, rfl, hcn⟩ := (HSN.out wi HE.out).at_ hxl
              rw [show o[x]?.getD 0 = atI o x from rfl] at hcn
              have hcl := HCL2.out wi (HALL.out wi HE.out).2.2.2
              have hlo : x < o.length := by rw [HOL.out]; exact hxl
              by_cases heq : atI o x = (r : Int)
              · have HNR := Lib.hid (nxR_same hlo heq)
                have g1 : (atI o x != (r : Int)) = false := by simp [heq]
                clear heq
                generalize atI o x = z at *
                go_wp2
                go_quiet (fail)
                go_wp2
                exact ⟨⟨x + 1, by omega, by go_num, by rw [HNR.out]; exact HNX.out, below_drewN HE.out⟩, by simp [intOf]; omega⟩
              · have HNR := Lib.hid (nxR_add hlo heq)
                have g1 : (atI o x != (r : Int)) = true := by simp [heq]
                have HLX : Hid ((nxR o (r : Int) x).length ≤ 1099511627776) := by have := nxR_len o (r : Int) x; rw [Hid]; omega
                have HZI : Hid (w5.heap.size ≤ wi.heap.size) := HE.out.size
                clear heq
                generalize atI o x = z at *
                go_wp2
                go_quiet (fail)
                go_wp2_with (at_builtin; go_must (refine push_law _ rfl (.tmp 78) (.tmp 83) 22 rfl w5.heap.size 3 i0 Try.underlying22 HI.out _ (nxR o (r : Int) x) z rfl rfl (HNX.out.drewN _) HLX.out HZI.out ?_); intro v6 w6 hv6 hg6 _; have HO6 := Lib.hid hv6; have HB6 := Lib.hid ((below_drewN HE.out).grown hg6 HZI.out (fun j e => (HNX.out.lt e).1)); clear hv6 hg6)
                exact ⟨⟨x + 1, by omega, by go_num, by rw [HNR.out]; exact HO6.out, HB6.out⟩, by simp [intOf]; omega⟩
            · have hxk : x = k := by omega
              subst hxk
              have k1 : ¬ (x : Int) < (x : Int) := by omega
              obtain ⟨a1, a2, a3, a4⟩ := HALL.out wi HE.out
              have HA1 := Lib.hid a1
              have HA2 := Lib.hid a2
              have HA3 := Lib.hid a3
              have HA4 := Lib.hid a4
              clear a1 a2 a3 a4
              go_wp2
              exact ⟨⟨j + 1, by omega, by go_num, by rw [HSU.out], HA1.out, HA2.out, HAP5.out, by rw [HFR.out]; exact HNX.out.base HZ5.out, HA3.out, HA4.out⟩, by simp [intOf]; omega⟩
        · have hjn : j = n := by omega
          subst hjn
          have j1 : ¬ (j : Int) < (j : Int) := by omega
          obtain ⟨A5, c5, rfl, hs5⟩ := HST.out.sll (styL_len k j) (by omega) (fun i hi => by rw [styL_at hi, startL_len]; omega)
          obtain ⟨A6, c6, rfl, hs6⟩ := HMV.out.sll (mvL_len zs k j) (by omega) (fun i hi => by rw [mvL_at hi, (okO_rolls (HFZ.out i (by omega))).1]; omega)
          obtain ⟨A7, c7, rfl, hs7⟩ := HNO.out.sl_len (n := k) (okO_rolls (HFZ.out j (Nat.le_refl _))).1 (by omega)
          have hzl : ∀ i, i < zs.length → ∃ r : Nat, atI zs i = (r : Int) ∧ r < k := by rw [← HN.out]; exact HZZ.out
          have HFN := Lib.hid (front_sl k j c1 zs A1 wp (HSL.out wp HB.out) hm1 hm6 (by omega) hzl)
          have hsc := stay_cost hm6 HZZ.out j (Nat.le_refl _)
          have hmc := move_cost hm6 hzl zs.length (Nat.le_refl _)
          have hmh := move_his hm6 hzl
          rw [← HN.out] at hmc hmh
          have HC1 : Hid (∀ V, Below wp.heap.size wp V → Calls Try.prog 35 #[.int .i64 (k : Int), .slice A1 j c1, .slice A5 j c5] V fun e w' => e = .returned (.tuple #[.int .i64 (smC zs j), .int .i64 0]) ∧ Below V.heap.size V w') := fun V hV => by
            have := cost_his k zs (styL k j) A1 A5 j c1 c5 V ((HSL.out wp HB.out).below hV (Nat.le_refl _)) (hs5.below hV (Nat.le_refl _)) hm1 hm6 (by omega) HZZ.out stay_his
            rw [hsc] at this
            exact this
          have HC2 : Hid (∀ V, Below wp.heap.size wp V → Calls Try.prog 35 #[.int .i64 (k : Int), .slice A1 j c1, .slice A6 j c6] V fun e w' => e = .returned (.tuple #[.int .i64 (frC zs (startL k) j), .int .i64 0]) ∧ Below V.heap.size V w') := fun V hV => by
            have := cost_his k zs (mvL zs k j) A1 A6 j c1 c6 V ((HSL.out wp HB.out).below hV (Nat.le_refl _)) (hs6.below hV (Nat.le_refl _)) hm1 hm6 (by omega) HZZ.out hmh
            rw [hmc] at this
            exact this
          have HFL : Hid ((frO zs (startL k) j).length = k) := (okO_rolls (HFZ.out j (Nat.le_refl _))).1
          have HS7 := Lib.hid hs7
          have g1 : (smC zs j == smC zs j) = true := by simp
          have g2 : (frC zs (startL k) j == frC zs (startL k) j) = true := by simp
          clear hs5 hs6 hs7 hzl hsc hmc hmh HST HMV HAP HFI
          go_wp2_with (first
            | (go_at_call 29; (with_reducible refine HFN.out.mono ?_); rintro e w3 ⟨⟨v, rfl, hv⟩, hb⟩; obtain ⟨A8, c8, rfl, hs8⟩ := hv.sl_len HFL.out (by omega); have HS8 := Lib.hid hs8; have HE3 := Lib.hid hb; clear hv hs8 hb)
            | (go_at_call 35; (with_reducible refine (HC1.out _ HE3.out).mono ?_); rintro e w4 ⟨rfl, hb⟩; have HE4 := Lib.hid (HE3.out.trans (hb.mono HE3.out.size)); have HS8 := Lib.hid (HS8.out.below hb (Nat.le_refl _)); clear hb)
            | (go_at_call 35; (with_reducible refine (HC2.out _ HE4.out).mono ?_); rintro e w5 ⟨rfl, hb⟩; have HE5 := Lib.hid (HE4.out.trans (hb.mono HE4.out.size)); have HS8 := Lib.hid (HS8.out.below hb (Nat.le_refl _)); clear hb)
            | (go_at_call 24; (refine (ints_same A8 A7 (frO zs (startL k) j) k c8 c7 w5 HFL.out (by omega) HS8.out.rd (HS7.out.below HE5.out (Nat.le_refl _)).rd).mono ?_); rintro e w6 ⟨rfl, hd⟩; have HE6 := Lib.hid (HE5.out.trans (hd.below _)); clear hd)
            | (go_at_call 21; (with_reducible refine (awake_here _).mono ?_); rintro e w7 ⟨rfl, hb⟩; have HE7 := Lib.hid (HE6.out.trans (hb.mono HE6.out.size)); clear hb))
          go_ret
          have k2 := HB.out.trans (HE7.out.mono HB.out.size)
          exact ⟨rfl, HB1.out.trans (k2.mono HB1.out.size)⟩
end Go.Proofs.Ytcnjkdkkflpgnaa
