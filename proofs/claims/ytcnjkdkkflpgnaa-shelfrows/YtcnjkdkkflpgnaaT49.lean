import Derived.Test.YtcnjkdkkflpgnaaT47
import Derived.Test.YtcnjkdkkflpgnaaT39
/- Layer 8: what the reference's Ideal relies on: the least cost from an order on, and costs that exchanges carry over. -/
namespace Go.Proofs.Ytcnjkdkkflpgnaa
open Go.RowKit Go.Maps
set_option linter.unusedVariables false

/-- The least cost of the last j requests from an order on. -/
def gN (m : Nat) (zs : List Int) (j : Nat) (o : List Int) : Int := atI (rjF (layF m).1 (layF m).2 (m - 1) zs j) ((layF m).1.idxOf o)
section
variable {m n : Nat} {zs : List Int}
theorem lay_in (hm : m ≤ 6) {o : List Int} (hf : FullO o) (ht : TailO m o) : (layF m).1.idxOf o < (layF m).1.length ∧ ordAt (layF m).1 ((layF m).1.idxOf o) = o := by
  obtain ⟨y, hy, ey⟩ := lay_has (layF_I hm) hm hf ht
  exact ordAt_idx (by rw [← ey]; exact ordAt_mem hy)
theorem gN_near (h1 : 1 ≤ m) (hm : m ≤ 6) (hz : ∀ i, i < zs.length → ∃ r : Nat, atI zs i = (r : Int) ∧ r < m) {j : Nat} (hj : j < zs.length) {a b : List Int} (fa : FullO a) (ta : TailO m a) (fb : FullO b) (tb : TailO m b) : gN m zs (j + 1) a ≤ gN m zs (j + 1) b + (turnN a b : Int) := by
  obtain ⟨h2, e2⟩ := lay_in hm fa ta
  obtain ⟨h3, e3⟩ := lay_in hm fb tb
  have := lay_near (layF_I hm) hm (rjF_len (layF m).1 (layF m).2 (m - 1) zs (j + 1)) (rj_closed (layF_I hm) h1 hm hz hj) h2 h3
  rw [e2, e3] at this
  exact this
theorem gN_serve (hm : m ≤ 6) {j r p t : Nat} {o : List Int} (hf : FullO o) (ht : TailO m o) (hj : j < zs.length) (er : atI zs (zs.length - 1 - j) = (r : Int)) (hp : p < m) (ep : ixI o (r : Int) = (p : Int)) (htp : t ≤ p) : gN m zs (j + 1) o ≤ (p : Int) + 1 + gN m zs j (movedL o p t) := by
  have H := layF_I hm
  obtain ⟨h2, e2⟩ := lay_in hm hf ht
  have hfm := hf.moved (by omega : p < 6) t
  have htm : TailO m (movedL o p t) := by
    have e := pad_take hf.len ht hm
    have hl : (o.take m).length = m := by rw [List.length_take, hf.len]; omega
    rw [← e, moved_padk hl hp htp]
    exact tail_pad ((moved_perm (by omega)).length_eq.trans hl)
  obtain ⟨h3, e3⟩ := lay_in hm hfm htm
  have hs := rj_serve (m := m) (zs := zs) H (j := j) h2
  rw [er, Int.toNat_natCast] at hs
  unfold srvV at hs
  obtain ⟨_, _, hfw⟩ := fwdF_le H hm (rjF (layF m).1 (layF m).2 (m - 1) zs j) h2 hp (by rw [e2]; exact ep)
  have := hfw _ t h3 htp (by rw [e3, e2])
  rw [e2, ep] at hs
  unfold gN
  omega
theorem gN_zero (o : List Int) : gN m zs 0 o = 0 := by
  show ((List.replicate (layF m).1.length (0 : Int))[_]?).getD 0 = 0
  rw [List.getElem?_replicate]
  split <;> rfl
theorem gN_all (hm : m ≤ 6) : gN m zs zs.length o6 = idN m zs := by
  have H := layF_I hm
  obtain ⟨h2, e2⟩ := lay_in hm fullO_o6 (tail_o6 m)
  have : (layF m).1.idxOf o6 = 0 := ordAt_inj H.nd h2 H.pos (e2.trans H.first.symm)
  unfold gN idN
  rw [this]
end
/-- Costs that an exchange raises by one at most are raised by as many as there are turned pairs. -/
theorem val_path {m : Nat} (hm : m ≤ 6) (V : List Int → Int) (hV : ∀ o p, FullO o → TailO m o → p + 1 < m → V (movedL o (p + 1) p) ≤ V o + 1) {b : List Int} (fb : FullO b) (tb : TailO m b) : ∀ d a, FullO a → TailO m a → turnN a b ≤ d → V b ≤ V a + (turnN a b : Int)
  | d, a, fa, ta, hd => by
    by_cases e : a = b
    · rw [e]; omega
    · obtain ⟨p, hp, hlt⟩ := adj fa fb ta tb hm e
      have hless := xch_less fa fb (by omega) hlt
      match d, hd with
      | 0, hd => omega
      | d + 1, hd =>
        have h1 := val_path hm V hV fb tb d _ (fa.moved (by omega) p) (ta.exch fa.len hm hp) (by omega)
        have h2 := hV a p fa ta hp
        omega
/-- The number of an order. -/
def codN : List Int → Int → Int
  | [], n => n
  | x :: l, n => codN l (n * 6 + x)
theorem codN_inj : ∀ {a b : List Int} {x y : Int}, a.length = b.length → (∀ u ∈ a, 0 ≤ u ∧ u < 6) → (∀ u ∈ b, 0 ≤ u ∧ u < 6) → codN a x = codN b y → x = y ∧ a = b
  | [], [], x, y, _, _, _, h => ⟨h, rfl⟩
  | u :: a, v :: b, x, y, hl, ha, hb, h => by
    obtain ⟨h1, h2⟩ := codN_inj (a := a) (b := b) (x := x * 6 + u) (y := y * 6 + v) (by simpa using hl) (fun z hz => ha z (List.mem_cons_of_mem _ hz)) (fun z hz => hb z (List.mem_cons_of_mem _ hz)) h
    have h3 := ha u List.mem_cons_self
    have h4 := hb v List.mem_cons_self
    refine ⟨by omega, ?_⟩
    rw [h2, show u = v by omega]
theorem codN_bd : ∀ {a : List Int} {x : Int} {c : Nat}, (∀ u ∈ a, 0 ≤ u ∧ u < 6) → 0 ≤ x → x < (c : Int) → 0 ≤ codN a x ∧ codN a x < ((c * 6 ^ a.length : Nat) : Int)
  | [], x, c, _, h0, h1 => ⟨h0, by show x < ((c * 6 ^ 0 : Nat) : Int); rw [Nat.pow_zero, Nat.mul_one]; exact h1⟩
  | u :: a, x, c, ha, h0, h1 => by
    have h3 := ha u List.mem_cons_self
    have := codN_bd (a := a) (x := x * 6 + u) (c := c * 6) (fun z hz => ha z (List.mem_cons_of_mem _ hz)) (by omega) (by omega)
    rw [List.length_cons, Nat.pow_succ, show c * (6 ^ a.length * 6) = c * 6 * 6 ^ a.length by rw [Nat.mul_comm (6 ^ a.length) 6, Nat.mul_assoc]]
    exact this
end Go.Proofs.Ytcnjkdkkflpgnaa
/- Layer 8: the reference's code of an order, and All. -/
namespace Go.Proofs.Ytcnjkdkkflpgnaa
open Go.RowKit Go.Maps
set_option linter.unusedVariables false

theorem codN_app (x : Int) : ∀ (a : List Int) (n : Int), codN (a ++ [x]) n = codN a n * 6 + x
  | [], n => rfl
  | y :: a, n => codN_app x a _
set_option maxRecDepth 100000 in
set_option maxHeartbeats 6400000 in
theorem code_any (zs : List Int) (A : Option Addr) (n c : Nat) (w : World) (h : Sl w A n c zs) (hn : n ≤ 6) (hz : ∀ u ∈ zs, 0 ≤ u ∧ u < 6) :
    Calls Try.prog 67 #[.slice A n c] w fun e w' => e = .returned (.int .i64 (codN zs 0)) ∧ Dr w w' := by
  have HL : Hid (zs.length = n) := h.len
  have HS := Lib.hid (fun V (hV : Dr w V) => h.below (hV.below w.heap.size) (Nat.le_refl _))
  have HBD : Hid (∀ k, k ≤ n → 0 ≤ codN (zs.take k) 0 ∧ codN (zs.take k) 0 < 46656) := fun k hk => by
    have h1 := codN_bd (a := zs.take k) (x := 0) (c := 1) (fun u hu => hz u (List.mem_of_mem_take hu)) (by omega) (by omega)
    have h2 : (zs.take k).length ≤ 6 := by rw [List.length_take]; omega
    have h3 : 6 ^ (zs.take k).length ≤ 6 ^ 6 := Nat.pow_le_pow_right (by omega) h2
    have h4 : (6 : Nat) ^ 6 = 46656 := rfl
    omega
  have HZ : Hid (∀ k, k < n → 0 ≤ atI zs k ∧ atI zs k < 6) := fun k hk => hz _ (atI_mem (by rw [HL.out]; exact hk))
  clear h hz
  go_enter Try.func67, Try.ntmps67
  go_wp2
  go_loopw [3, 4] (fun s i w' => ∃ k : Nat, k ≤ n ∧ i = .int .i64 (k : Int) ∧ s = .int .i64 (codN (zs.take k) 0) ∧ Hid (Dr w w')) (fun _ i _ => n - (intOf i).toNat)
  case atStart => exact ⟨0, Nat.zero_le _, by go_num, rfl, Dr.refl _⟩
  case round =>
    obtain ⟨k, hk, rfl, rfl, HD⟩ := hrel
    obtain ⟨wo, rfl⟩ : ∃ wo : World, wo = wr := ⟨_, rfl⟩
    by_cases hlt : k < n
    · have i1 : (k : Int) < (n : Int) := by omega
      obtain ⟨b, o, rfl, hc⟩ := (HS.out wo HD.out).at_ hlt
      rw [show zs[k]?.getD 0 = atI zs k from rfl] at hc
      have HST : Hid (codN (zs.take (k + 1)) 0 = codN (zs.take k) 0 * 6 + atI zs k) := by rw [Hid, takeI (by rw [HL.out]; exact hlt), codN_app]
      have h1 := HBD.out k hk
      have h2 := HZ.out k hlt
      generalize codN (zs.take k) 0 = s at *
      generalize atI zs k = z at *
      have v1 : IntKind.i64.wrap (s * 6) = s * 6 := IntWalk.i64_in _ (by omega)
      have v2 : IntKind.i64.wrap (s * 6 + z) = s * 6 + z := IntWalk.i64_in _ (by omega)
      go_wp2
      exact ⟨⟨k + 1, by omega, by go_num, by rw [HST.out], HD.out⟩, by simp [intOf]; omega⟩
    · have hkn : k = n := by omega
      have he : zs.take k = zs := List.take_of_length_le (by rw [HL.out]; omega)
      have i1 : ¬ (k : Int) < (n : Int) := by omega
      rw [he]
      clear hkn
      go_wp2
      go_ret
      exact ⟨rfl, HD.out⟩
def insL (x : Nat) (o : List Int) (t : Nat) : List Int := [] ++ o.take t ++ [(x : Int)] ++ o.drop t
def rowI (x : Nat) (o : List Int) (t : Nat) : List (List Int) := (List.range t).map (insL x o)
def nxL (x : Nat) (LL : List (List Int)) (i : Nat) : List (List Int) := (LL.take i).flatMap fun o => rowI x o (x + 1)
def allL : Nat → List (List Int)
  | 0 => [[]]
  | x + 1 => (allL x).flatMap fun o => rowI x o (x + 1)
theorem rowI_succ (x : Nat) (o : List Int) (t : Nat) : rowI x o (t + 1) = rowI x o t ++ [insL x o t] := by unfold rowI; rw [List.range_succ, List.map_append]; rfl
theorem rowI_len (x : Nat) (o : List Int) (t : Nat) : (rowI x o t).length = t := by simp [rowI]
theorem nxL_succ {x : Nat} {LL : List (List Int)} {i : Nat} (hi : i < LL.length) : nxL x LL (i + 1) = nxL x LL i ++ rowI x (ordAt LL i) (x + 1) := by
  unfold nxL
  rw [take_ord hi, List.flatMap_append]
  simp
theorem flat_len {x : Nat} : ∀ (LL : List (List Int)), (LL.flatMap fun o => rowI x o (x + 1)).length = LL.length * (x + 1)
  | [] => by simp
  | o :: LL => by rw [List.flatMap_cons, List.length_append, rowI_len, flat_len LL, List.length_cons, Nat.succ_mul]; omega
theorem allL_len : (allL 0).length = 1 ∧ (allL 1).length = 1 ∧ (allL 2).length = 2 ∧ (allL 3).length = 6 ∧ (allL 4).length = 24 ∧ (allL 5).length = 120 ∧ (allL 6).length = 720 := by
  have h := fun x => flat_len (x := x) (allL x)
  have h0 : (allL 0).length = 1 := rfl
  have h1 : (allL 1).length = 1 := by rw [show allL 1 = (allL 0).flatMap _ from rfl, h, h0]
  have h2 : (allL 2).length = 2 := by rw [show allL 2 = (allL 1).flatMap _ from rfl, h, h1]
  have h3 : (allL 3).length = 6 := by rw [show allL 3 = (allL 2).flatMap _ from rfl, h, h2]
  have h4 : (allL 4).length = 24 := by rw [show allL 4 = (allL 3).flatMap _ from rfl, h, h3]
  have h5 : (allL 5).length = 120 := by rw [show allL 5 = (allL 4).flatMap _ from rfl, h, h4]
  exact ⟨h0, h1, h2, h3, h4, h5, by rw [show allL 6 = (allL 5).flatMap _ from rfl, h, h5]⟩
theorem allL_le {x : Nat} (h : x ≤ 6) : 1 ≤ (allL x).length ∧ (allL x).length ≤ 720 := by
  obtain ⟨h0, h1, h2, h3, h4, h5, h6⟩ := allL_len
  rcases (by omega : x = 0 ∨ x = 1 ∨ x = 2 ∨ x = 3 ∨ x = 4 ∨ x = 5 ∨ x = 6) with rfl | rfl | rfl | rfl | rfl | rfl | rfl <;> omega
theorem allL_perm : ∀ x, ∀ o ∈ allL x, List.Perm o (startL x)
  | 0, o, h => by
    rw [show allL 0 = [[]] from rfl, List.mem_singleton] at h
    rw [h]; exact List.Perm.refl _
  | x + 1, o, h => by
    obtain ⟨p, hp, ho⟩ := List.mem_flatMap.1 h
    obtain ⟨t, _, e⟩ := List.mem_map.1 ho
    rw [← e]
    exact ins_perm t (allL_perm x p hp)
theorem allL_has : ∀ x, ∀ o, List.Perm o (startL x) → o ∈ allL x
  | 0, o, h => by
    rw [show allL 0 = [[]] from rfl, List.mem_singleton]
    exact List.Perm.eq_nil h
  | x + 1, o, h => by
    have hx : (x : Int) ∈ o := h.mem_iff.2 (startL_mem.2 ⟨x, rfl, Nat.lt_succ_self x⟩)
    obtain ⟨s, t, e⟩ := List.append_of_mem hx
    have hp : List.Perm (s ++ t) (startL x) := by
      rw [e] at h
      have h1 : List.Perm ((x : Int) :: (s ++ t)) ((x : Int) :: startL x) := List.perm_middle.symm.trans (h.trans (by rw [startL_succ]; exact List.perm_append_singleton _ _))
      exact h1.cons_inv
    have hlen : s.length ≤ x := by
      have := hp.length_eq
      rw [startL_len, List.length_append] at this
      omega
    refine List.mem_flatMap.2 ⟨s ++ t, allL_has x _ hp, List.mem_map.2 ⟨s.length, List.mem_range.2 (by omega), ?_⟩⟩
    unfold insL
    rw [List.take_left, List.drop_left, e]
    simp
theorem Hst.one {w : World} {B : Nat} (hB : B ≤ w.heap.size) : Hst (w.alloc (.cells #[.slice none 0 0] 22)) B (.slice (some ⟨w.heap.size, 0, none⟩) 1 1) [[]] :=
  ⟨[.slice none 0 0], World.ownsRow_lit w #[.slice none 0 0] 1 hB (by unfold maxLen; omega) rfl, rfl, fun k hk => ⟨.slice none 0 0, by
    have : k = 0 := by simpa using hk
    rw [this]; rfl, by
    have : k = 0 := by simpa using hk
    rw [this]; exact Ow.nil _ _ _⟩⟩
set_option maxRecDepth 100000 in
set_option maxHeartbeats 12800000 in
theorem all_any (m : Nat) (w : World) (hm : m ≤ 6) :
    Calls Try.prog 66 #[.int .i64 (m : Int)] w fun e w' => (∃ v, e = .returned v ∧ Hst w' w.heap.size v (allL m)) ∧ Below w.heap.size w w' := by
  obtain ⟨i0, hi, hz0, hz1, hz2⟩ := info_parts Try.infoInt
  have HI : Hid (Try.prog.info? 3 = some i0 ∧ i0.zero = some (.int .i64 0) ∧ i0.size = 1 ∧ i0.bytes = 8) := ⟨hi, hz0, hz1, hz2⟩
  obtain ⟨iS, hi2, hz02, hz12, hz22⟩ := info_parts Try.infoRowS
  have HI2 : Hid (Try.prog.info? 22 = some iS ∧ iS.zero = some (.slice none 0 0) ∧ iS.size = 1 ∧ iS.bytes = 24) := ⟨hi2, hz02, hz12, hz22⟩
  clear hi hz0 hz1 hz2 hi2 hz02 hz12 hz22
  obtain ⟨W1, hW1⟩ : ∃ X, X = w.alloc (.cells #[.slice none 0 0] 22) := ⟨_, rfl⟩
  have HH1 : Hid (Hst W1 w.heap.size (.slice (some ⟨w.heap.size, 0, none⟩) 1 1) (allL 0)) := by rw [hW1]; exact Hst.one (Nat.le_refl _)
  have HB1 : Hid (Below w.heap.size w W1) := by rw [hW1]; exact (Below.refl _ _).alloc (Nat.le_refl _) _
  go_enter Try.func66, Try.ntmps66
  go_upto_region 2 with (fail)
  rw [← hW1]
  clear hW1
  go_wp2
  go_loopw [3, 4] (fun v r w' => ∃ x : Nat, x ≤ m ∧ r = .int .i64 (x : Int) ∧ Hid (Hst w' w.heap.size v (allL x)) ∧ Hid (Below w.heap.size w w')) (fun _ r _ => m - (intOf r).toNat)
  case atStart => exact ⟨0, Nat.zero_le _, by go_num, HH1.out, HB1.out⟩
  case round =>
    clear HH1 HB1
    obtain ⟨x, hx, rfl, HH, HB⟩ := hrel
    obtain ⟨wo, rfl⟩ : ∃ wo : World, wo = wr := ⟨_, rfl⟩
    by_cases hlt : x < m
    · have i1 : (x : Int) < (m : Int) := by omega
      have HAL := Lib.hid (allL_le (x := x) (by omega))
      have HRL : Hid (∀ i, i < (allL x).length → (ordAt (allL x) i).length = x) := fun i hi => by rw [(allL_perm x _ (ordAt_mem hi)).length_eq, startL_len]
      have HNX : Hid (allL (x + 1) = nxL x (allL x) (allL x).length) := by
        unfold nxL
        rw [List.take_length]; rfl
      generalize allL x = LL at *
      obtain ⟨nL, hnL⟩ : ∃ q, q = LL.length := ⟨_, rfl⟩
      rw [← hnL] at HAL HRL HNX
      have HNL := Lib.hid hnL.symm
      have HBZ : Hid (w.heap.size ≤ wo.heap.size) := HB.out.size
      obtain ⟨A1, c1, rfl, hs1⟩ := HH.out.sll hnL.symm (by have := HAL.out; omega) (fun k hk => by rw [HRL.out k hk]; omega)
      have hnl : nL ≤ 720 := HAL.out.2
      clear hnL hs1
      go_wp2
      go_loopw [5, 6] (fun v r w' => ∃ i : Nat, i ≤ nL ∧ r = .int .i64 (i : Int) ∧ Hid (Hst w' wo.heap.size v (nxL x LL i)) ∧ Hid (Below wo.heap.size wo w')) (fun _ r _ => nL - (intOf r).toNat)
      case atStart => exact ⟨0, Nat.zero_le _, by go_num, Hst.nil _ _, Below.refl _ _⟩
      case round =>
        obtain ⟨i, hi, rfl, HN, HE⟩ := hrel
        obtain ⟨wp, rfl⟩ : ∃ wp : World, wp = wr := ⟨_, rfl⟩
        by_cases hil : i < nL
        · have j1 : (i : Int) < (nL : Int) := by omega
          have HNS := Lib.hid (nxL_succ (x := x) (LL := LL) (i := i) (by rw [HNL.out]; exact hil))
          have HNN : Hid ((nxL x LL i).length ≤ 720 * 7) := by
            unfold nxL
            rw [Hid, flat_len, List.length_take]
            have : min i LL.length ≤ 720 := by omega
            exact Nat.mul_le_mul this (by omega)
          go_wp2
          go_loopw [5, 7] (fun v r w' => ∃ t : Nat, t ≤ x + 1 ∧ r = .int .i64 (t : Int) ∧ Hid (Hst w' wo.heap.size v (nxL x LL i ++ rowI x (ordAt LL i) t)) ∧ Hid (Below wo.heap.size wo w')) (fun _ r _ => x + 1 - (intOf r).toNat)
          case atStart => exact ⟨0, Nat.zero_le _, by go_num, by rw [show rowI x (ordAt LL i) 0 = [] from rfl, List.append_nil]; exact HN.out, HE.out⟩
          case round =>
            clear HN HE
            obtain ⟨t, ht, rfl, HN, HE⟩ := hrel
            obtain ⟨wi, rfl⟩ : ∃ wi : World, wi = wr := ⟨_, rfl⟩
            by_cases htx : t ≤ x
            · have k1 : (t : Int) ≤ (x : Int) := by omega
              obtain ⟨A2, c2, e2, hs2⟩ := (HH.out.below HE.out (Nat.le_refl _)).sll HNL.out (by omega) (fun k hk => by rw [HRL.out k hk]; omega)
              injection e2 with e2 _ e3
              subst e2 e3
              obtain ⟨b5, o5, rfl, hb5, A4, n4, c4, hc4, hs4⟩ := hs2.rows i hil
              have hn4 : n4 = x := by rw [← hs4.len, HRL.out i hil]
              have HSR := Lib.hid (fun V (hV : Below wi.heap.size wi V) => (hV.cell (p := ⟨b5, o5 + i, none⟩) hb5).trans hc4)
              subst hn4
              have hcap := hs4.cap
              have hsl := fun W => slice_hd A4 n4 c4 (k := t) (by omega) hcap W
              have hst := fun W => slice_tl A4 n4 c4 (k := t) (by omega) hcap W
              have HT : Hid (Sl wi A4 t c4 ((ordAt LL i).take t)) := hs4.take (by omega)
              have HD : Hid (∀ W, Below wi.heap.size wi W → Sl W (tlA A4 c4 t) (n4 - t) (c4 - t) ((ordAt LL i).drop t)) := fun W hW => (hs4.below hW (Nat.le_refl _)).drop (by omega)
              have HLZ : Hid ((ordAt LL i).length = n4) := HRL.out i hil
              have HIL : Hid ((insL n4 (ordAt LL i) t).length = n4 + 1) := by
                have h := HLZ.out
                unfold insL
                simp [Hid]
                omega
              have HRS := Lib.hid (rowI_succ n4 (ordAt LL i) t)
              have HRN : Hid ((nxL n4 LL i ++ rowI n4 (ordAt LL i) t).length ≤ 1000000) := by rw [Hid, List.length_append, rowI_len]; have := HNN.out; omega
              have HZI : Hid (wo.heap.size ≤ wi.heap.size) := HE.out.size
              clear hs4 hs2 HNN
              go_upto_region 14 with (at_builtin; go_must (refine apps_law _ rfl (.tmp 26) (.tmp 32) 22 rfl wi.heap.size 3 i0 Try.underlying22 HI.out (.slice none 0 0) [] rfl (Ow.nil _ _ _) A4 t c4 ((ordAt LL i).take t) rfl HT.out (by simp <;> omega) (Nat.le_refl _) ?_); intro v2 w2 hown hg; have HO2 := Lib.hid hown; have HB2 := Lib.hid ((Below.refl wi.heap.size wi).grown hg (Nat.le_refl _) (by simp [Value.ownBlock])); clear hown hg)
              have HL2 : Hid (([] ++ (ordAt LL i).take t).length ≤ 1099511627776) := by rw [Hid, List.nil_append, List.length_take]; omega
              have HZ2 : Hid (wi.heap.size ≤ w2.heap.size) := HB2.out.size
              go_upto_region 15 with (at_builtin; go_must (refine push_law _ rfl (.tmp 34) (.tmp 36) 22 rfl wi.heap.size 3 i0 Try.underlying22 HI.out _ ([] ++ (ordAt LL i).take t) (n4 : Int) rfl rfl HO2.out HL2.out HZ2.out ?_); intro v3 w3 hown hg _; have HO3 := Lib.hid hown; have HB3 := Lib.hid (HB2.out.grown hg HB2.out.size (fun k e => (HO2.out.lt e).1)); clear hown hg)
              have HZ3 : Hid (wi.heap.size ≤ w3.heap.size) := HB3.out.size
              have hc4' := HSR.out _ HB3.out
              go_wp2_with (first
                | (at_builtin; (refine apps_law _ rfl (.tmp 39) (.tmp 45) 22 rfl wi.heap.size 3 i0 Try.underlying22 HI.out _ ([] ++ (ordAt LL i).take t ++ [(n4 : Int)]) rfl HO3.out (tlA A4 c4 t) (n4 - t) (c4 - t) ((ordAt LL i).drop t) rfl (HD.out _ HB3.out) (by have := HLZ.out; simp <;> omega) HZ3.out ?_); intro v4 w4 hown hg; have HB4 := Lib.hid (HB3.out.grown hg HB3.out.size (fun k e => (HO3.out.lt e).1)); obtain ⟨A9, c9, rfl, hs9⟩ := hown.sl_len HIL.out (by omega); have HO4 := Lib.hid (hown.base HZI.out); obtain ⟨vs, hov, hvl, hvr⟩ := HN.out.below HB4.out (Nat.le_refl _); have HOV := Lib.hid hov; have HVL := Lib.hid hvl; have HVR := Lib.hid hvr; have HLV : Hid (vs.length ≤ 1000000) := (show vs.length ≤ 1000000 from Nat.le_trans (Nat.le_of_eq hvl) HRN.out); have HE4 := Lib.hid (HE.out.trans (HB4.out.mono HZI.out)); have HZ4 : Hid (wo.heap.size ≤ w4.heap.size) := HE4.out.size; clear hown hg hs9 hov hvl hvr)
                | (at_builtin; go_must (refine pushv_law _ rfl (.tmp 38) (.tmp 47) 43 rfl wo.heap.size iS Try.underlying43 HI2.out _ vs _ _ _ rfl rfl HOV.out HLV.out HZ4.out ?_); intro v5 w5 hown hg; have HN5 := Lib.hid (Hst.push HOV.out HVL.out HVR.out HO4.out hown hg); have HE5 := Lib.hid (HE4.out.grown hg HZ4.out (fun j e => (World.ownsRow.lt HOV.out j e).1)); clear hown hg))
              exact ⟨⟨t + 1, by omega, by go_num, by rw [HRS.out, ← List.append_assoc]; exact HN5.out, HE5.out⟩, by simp [intOf]; omega⟩
            · have htt : t = x + 1 := by omega
              have k1 : ¬ (t : Int) ≤ (x : Int) := by omega
              rw [htt, ← HNS.out] at HN
              clear htt
              go_wp2
              exact ⟨⟨i + 1, by omega, by go_num, HN.out, HE.out⟩, by simp [intOf]; omega⟩
        · have hin : i = nL := by omega
          subst hin
          have j1 : ¬ (i : Int) < (i : Int) := by omega
          rw [← HNX.out] at HN
          go_wp2
          exact ⟨⟨x + 1, by omega, by go_num, HN.out.base HBZ.out, HB.out.trans (HE.out.mono HBZ.out)⟩, by simp [intOf]; omega⟩
    · have hxm : x = m := by omega
      subst hxm
      have i1 : ¬ (x : Int) < (x : Int) := by omega
      go_wp2
      go_ret
      exact ⟨⟨_, rfl, HH.out⟩, HB.out⟩
end Go.Proofs.Ytcnjkdkkflpgnaa
