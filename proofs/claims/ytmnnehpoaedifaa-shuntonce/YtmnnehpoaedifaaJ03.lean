import Derived.Test.YtmnnehpoaedifaaJ02
import Derived.RegionTactic
import Derived.BigRegion
/- Contracts: mod, tame. -/
namespace Go.Proofs.Ytmnnehpoaedifaa
open Go.RowKit

theorem wrap_u64_nonneg (x : Int) : 0 ≤ IntKind.u64.wrap x := by
  simp only [IntKind.wrap]
  exact Int.emod_nonneg _ (by decide)
theorem mod_val (x n : Int) (hn : 1 ≤ n) (hn' : n ≤ 1000000) : ∃ r : Nat, wrap64 ((IntKind.u64.wrap x).tmod n) = r ∧ (r : Int) < n := by
  have h0 := wrap_u64_nonneg x
  rw [Int.tmod_eq_emod_of_nonneg h0]
  have h1 := Int.emod_nonneg (IntKind.u64.wrap x) (show n ≠ 0 by omega)
  have h2 := Int.emod_lt_of_pos (IntKind.u64.wrap x) (show 0 < n by omega)
  rw [IntWalk.wrap64_in _ ⟨by omega, by omega⟩]
  exact ⟨((IntKind.u64.wrap x) % n).toNat, by omega, by omega⟩
theorem iend {k : IntKind} {a b : Int} (h : a = b) : Ending.returned (.int k a) = .returned (.int k b) := by rw [h]
theorem mod_any (x : Int) (n : Int) (w : World) (hn : 1 ≤ n) (hn' : n ≤ 1000000) :
    Calls Try.prog 49 #[.int .i64 x, .int .i64 n] w fun e w' => (∃ r : Nat, e = .returned (.int .i64 r) ∧ (r : Int) < n) ∧ w = w' := by
  have H := Lib.hid (mod_val x n hn hn')
  go_enter Try.func49, Try.ntmps49
  go_wp2
  go_ret
  obtain ⟨r, h1, h2⟩ := H.out
  exact ⟨⟨r, iend h1, h2⟩, rfl⟩

set_option maxHeartbeats 1600000 in
theorem tame_more (A : Option Addr) (n c : Nat) (zs : List Int) (most : Nat) (w : World) (hs : Sl w A n c zs) (hm : most ≤ 1000000) (hnm : most < n) :
    Calls Try.prog 48 #[.slice A n c, .int .i64 most] w fun e w' => ∃ v, e = .returned v ∧ Ow w' w.heap.size 3 v (tameOf zs most) ∧ Below w.heap.size w w' := by
  have hbig := hs.big
  have HS := Lib.hid hs; clear hs
  obtain ⟨i0, hi, hz0, hz1, hz2⟩ := info_parts Try.infoInt
  have HI : Hid (Try.prog.info? 3 = some i0 ∧ i0.zero = some (.int .i64 0) ∧ i0.size = 1 ∧ i0.bytes = 8) := ⟨hi, hz0, hz1, hz2⟩
  clear hi hz0 hz1 hz2
  go_enter Try.func48, Try.ntmps48
  go_wp2
  go_loopw [5, 7, 8, 9] (fun o i _ _ w' => ∃ k : Nat, k ≤ most ∧ i = .int .i64 k ∧ Hid (Ow w' w.heap.size 3 o ((tameOf zs most).take k)) ∧ Below w.heap.size w w') (fun _ i _ _ _ => most - (intOf i).toNat)
  case atStart => exact ⟨0, by omega, by go_num, Ow.nil _ _ _, Below.refl _ _⟩
  case round =>
    obtain ⟨i, hi, rfl, HO, hW⟩ := hrel
    have hsz := hW.size
    by_cases hlt : i < most
    · have hin : i < n := by omega
      obtain ⟨b0, off0, rfl, hcx⟩ := HS.out.cells (by omega)
      have hb0 := HS.out.old b0 off0 rfl (by omega)
      have HC := Lib.hid hcx; clear hcx
      obtain ⟨wo, rfl⟩ : ∃ wo : World, wo = wr := ⟨_, rfl⟩
      go_wp2
      go_loopw [8, 9] (fun r t w' => ∃ k rk : Nat, k ≤ most ∧ t = .int .i64 k ∧ r = .int .i64 rk ∧ rk ≤ k + 1 ∧ Hid (rk = rankTo zs i k) ∧ Dr wo w') (fun _ t _ => most - (intOf t).toNat)
      case atStart => exact ⟨0, 1, by omega, by go_num, by go_num, by omega, (rankTo_zero zs i).symm, Dr.refl _⟩
      case round =>
        obtain ⟨k, rk, hk, rfl, rfl, hrk, HR, hV⟩ := hrel
        by_cases hlk : k < most
        · have hkn : k < n := by omega
          have hci := (hV.cell _).trans ((hW.cell (p := ⟨b0, off0 + i, none⟩) hb0).trans (HC.out i hin))
          have hck := (hV.cell _).trans ((hW.cell (p := ⟨b0, off0 + k, none⟩) hb0).trans (HC.out k hkn))
          have HD : Hid (beforeB zs i k = (decide (zs[k]?.getD 0 < zs[i]?.getD 0) || (decide (zs[k]?.getD 0 = zs[i]?.getD 0) && decide (k < i)))) := rfl
          have HL : Hid (rk + 1 = rankTo zs i (k + 1) ∨ beforeB zs i k = false) := by
            rcases hb : beforeB zs i k with _ | _
            · exact .inr rfl
            · exact .inl (by rw [rankTo_yes hb, ← HR.out])
          have HL' : Hid (beforeB zs i k = false → rk = rankTo zs i (k + 1)) := fun hb => by rw [rankTo_no hb, ← HR.out]
          generalize zs[k]?.getD 0 = a at *
          generalize zs[i]?.getD 0 = b at *
          by_cases h1 : a < b
          · have g1 : decide (a < b) = true := by simpa using h1
            have HB : Hid (rk + 1 = rankTo zs i (k + 1)) := HL.out.resolve_right (by rw [HD.out, g1]; simp)
            clear h1
            go_wp2
            go_quiet (fail)
            go_wp2
            go_roundw
            case rel => exact ⟨k + 1, rk + 1, by omega, by go_num, by go_num, by omega, HB, hV.more _⟩
            case measure => simp [intOf]; omega
          · have g1 : decide (a < b) = false := by simpa using h1
            by_cases h2 : a = b
            · have g2 : (a == b) = true := by simpa using h2
              have H2 := Lib.hid h2; clear h2
              by_cases h3 : k < i
              · have g3 : decide ((k : Int) < i) = true := by simpa using h3
                have HB : Hid (rk + 1 = rankTo zs i (k + 1)) := HL.out.resolve_right (by rw [HD.out, g1, decide_eq_true H2.out, decide_eq_true h3]; simp)
                clear h1
                go_wp2
                go_quiet (fail)
                go_wp2
                go_roundw
                case rel => exact ⟨k + 1, rk + 1, by omega, by go_num, by go_num, by omega, HB, hV.more _⟩
                case measure => simp [intOf]; omega
              · have g3 : decide ((k : Int) < i) = false := by simpa using h3
                have HB : Hid (rk = rankTo zs i (k + 1)) := HL'.out (by rw [HD.out, g1, decide_eq_false h3]; simp)
                clear h1
                go_wp2
                go_quiet (fail)
                go_wp2
                go_roundw
                case rel => exact ⟨k + 1, rk, by omega, by go_num, rfl, by omega, HB, hV.more _⟩
                case measure => simp [intOf]; omega
            · have g2 : (a == b) = false := by simpa using h2
              have HB : Hid (rk = rankTo zs i (k + 1)) := HL'.out (by rw [HD.out, g1, decide_eq_false h2]; rfl)
              clear h1 h2
              go_wp2
              go_quiet (fail)
              go_wp2
              go_roundw
              case rel => exact ⟨k + 1, rk, by omega, by go_num, rfl, by omega, HB, hV.more _⟩
              case measure => simp [intOf]; omega
        · have hkN : k = most := by omega
          have HR' : Hid (rk = rankTo zs i most) := by rw [Hid, ← hkN]; exact HR.out
          clear hkN
          have hV' := hW.trans (hV.below w.heap.size)
          have HO' : Hid (Ow wr w.heap.size 3 u5 ((tameOf zs most).take i)) := by
            obtain ⟨q, rfl⟩ := hV
            exact HO.out
          have hs2 := hV'.size
          have hlen : ((tameOf zs most).take i).length ≤ 1099511627776 := by rw [List.length_take, tameOf_len]; omega
          go_wp2_with (at_builtin; go_must (refine push_law _ rfl (.tmp 51) (.tmp 53) 22 rfl w.heap.size 3 i0 Try.underlying22 HI.out _ ((tameOf zs most).take i) rk rfl rfl HO'.out hlen hs2 ?_); intro v1 w1 hv1 hg1 hat1; have HV1 := Lib.hid hv1; clear hv1; have HG1 := Lib.hid hg1; clear hg1; clear hat1)
          go_roundw
          case rel =>
            refine ⟨i + 1, by omega, by go_num, ?_, hV'.grown HG1.out hs2 (fun j e => (HO'.out.lt e).1)⟩
            have h := HV1.out
            rw [HR'.out, ← tameOf_take zs most i hlt] at h
            exact h
          case measure => simp [intOf]; omega
    · have hiN : i = most := by omega
      have HO' : Hid (Ow wr w.heap.size 3 u5 (tameOf zs most)) := by
        have h := HO.out
        rw [hiN, List.take_of_length_le (by rw [tameOf_len]; omega)] at h
        exact h
      clear hiN
      go_wp2
      go_ret
      exact ⟨_, rfl, HO'.out, hW⟩

set_option maxHeartbeats 1600000 in
theorem tame_less (A : Option Addr) (n c : Nat) (zs : List Int) (most : Nat) (w : World) (hs : Sl w A n c zs) (hm : most ≤ 1000000) (hnm : n ≤ most) :
    Calls Try.prog 48 #[.slice A n c, .int .i64 most] w fun e w' => ∃ v, e = .returned v ∧ Ow w' w.heap.size 3 v (tameOf zs n) ∧ Below w.heap.size w w' := by
  have hbig := hs.big
  have HS := Lib.hid hs; clear hs
  obtain ⟨i0, hi, hz0, hz1, hz2⟩ := info_parts Try.infoInt
  have HI : Hid (Try.prog.info? 3 = some i0 ∧ i0.zero = some (.int .i64 0) ∧ i0.size = 1 ∧ i0.bytes = 8) := ⟨hi, hz0, hz1, hz2⟩
  clear hi hz0 hz1 hz2
  go_enter Try.func48, Try.ntmps48
  go_wp2
  go_loopw [5, 7, 8, 9] (fun o i _ _ w' => ∃ k : Nat, k ≤ n ∧ i = .int .i64 k ∧ Hid (Ow w' w.heap.size 3 o ((tameOf zs n).take k)) ∧ Below w.heap.size w w') (fun _ i _ _ _ => n - (intOf i).toNat)
  case atStart => exact ⟨0, by omega, by go_num, Ow.nil _ _ _, Below.refl _ _⟩
  case round =>
    obtain ⟨i, hi, rfl, HO, hW⟩ := hrel
    have hsz := hW.size
    by_cases hlt : i < n
    · have hin : i < n := by omega
      obtain ⟨b0, off0, rfl, hcx⟩ := HS.out.cells (by omega)
      have hb0 := HS.out.old b0 off0 rfl (by omega)
      have HC := Lib.hid hcx; clear hcx
      obtain ⟨wo, rfl⟩ : ∃ wo : World, wo = wr := ⟨_, rfl⟩
      go_wp2
      go_loopw [8, 9] (fun r t w' => ∃ k rk : Nat, k ≤ n ∧ t = .int .i64 k ∧ r = .int .i64 rk ∧ rk ≤ k + 1 ∧ Hid (rk = rankTo zs i k) ∧ Dr wo w') (fun _ t _ => n - (intOf t).toNat)
      case atStart => exact ⟨0, 1, by omega, by go_num, by go_num, by omega, (rankTo_zero zs i).symm, Dr.refl _⟩
      case round =>
        obtain ⟨k, rk, hk, rfl, rfl, hrk, HR, hV⟩ := hrel
        by_cases hlk : k < n
        · have hkn : k < n := by omega
          have hci := (hV.cell _).trans ((hW.cell (p := ⟨b0, off0 + i, none⟩) hb0).trans (HC.out i hin))
          have hck := (hV.cell _).trans ((hW.cell (p := ⟨b0, off0 + k, none⟩) hb0).trans (HC.out k hkn))
          have HD : Hid (beforeB zs i k = (decide (zs[k]?.getD 0 < zs[i]?.getD 0) || (decide (zs[k]?.getD 0 = zs[i]?.getD 0) && decide (k < i)))) := rfl
          have HL : Hid (rk + 1 = rankTo zs i (k + 1) ∨ beforeB zs i k = false) := by
            rcases hb : beforeB zs i k with _ | _
            · exact .inr rfl
            · exact .inl (by rw [rankTo_yes hb, ← HR.out])
          have HL' : Hid (beforeB zs i k = false → rk = rankTo zs i (k + 1)) := fun hb => by rw [rankTo_no hb, ← HR.out]
          generalize zs[k]?.getD 0 = a at *
          generalize zs[i]?.getD 0 = b at *
          by_cases h1 : a < b
          · have g1 : decide (a < b) = true := by simpa using h1
            have HB : Hid (rk + 1 = rankTo zs i (k + 1)) := HL.out.resolve_right (by rw [HD.out, g1]; simp)
            clear h1
            go_wp2
            go_quiet (fail)
            go_wp2
            go_roundw
            case rel => exact ⟨k + 1, rk + 1, by omega, by go_num, by go_num, by omega, HB, hV.more _⟩
            case measure => simp [intOf]; omega
          · have g1 : decide (a < b) = false := by simpa using h1
            by_cases h2 : a = b
            · have g2 : (a == b) = true := by simpa using h2
              have H2 := Lib.hid h2; clear h2
              by_cases h3 : k < i
              · have g3 : decide ((k : Int) < i) = true := by simpa using h3
                have HB : Hid (rk + 1 = rankTo zs i (k + 1)) := HL.out.resolve_right (by rw [HD.out, g1, decide_eq_true H2.out, decide_eq_true h3]; simp)
                clear h1
                go_wp2
                go_quiet (fail)
                go_wp2
                go_roundw
                case rel => exact ⟨k + 1, rk + 1, by omega, by go_num, by go_num, by omega, HB, hV.more _⟩
                case measure => simp [intOf]; omega
              · have g3 : decide ((k : Int) < i) = false := by simpa using h3
                have HB : Hid (rk = rankTo zs i (k + 1)) := HL'.out (by rw [HD.out, g1, decide_eq_false h3]; simp)
                clear h1
                go_wp2
                go_quiet (fail)
                go_wp2
                go_roundw
                case rel => exact ⟨k + 1, rk, by omega, by go_num, rfl, by omega, HB, hV.more _⟩
                case measure => simp [intOf]; omega
            · have g2 : (a == b) = false := by simpa using h2
              have HB : Hid (rk = rankTo zs i (k + 1)) := HL'.out (by rw [HD.out, g1, decide_eq_false h2]; rfl)
              clear h1 h2
              go_wp2
              go_quiet (fail)
              go_wp2
              go_roundw
              case rel => exact ⟨k + 1, rk, by omega, by go_num, rfl, by omega, HB, hV.more _⟩
              case measure => simp [intOf]; omega
        · have hkN : k = n := by omega
          have HR' : Hid (rk = rankTo zs i n) := by rw [Hid, ← hkN]; exact HR.out
          clear hkN
          have hV' := hW.trans (hV.below w.heap.size)
          have HO' : Hid (Ow wr w.heap.size 3 u5 ((tameOf zs n).take i)) := by
            obtain ⟨q, rfl⟩ := hV
            exact HO.out
          have hs2 := hV'.size
          have hlen : ((tameOf zs n).take i).length ≤ 1099511627776 := by rw [List.length_take, tameOf_len]; omega
          go_wp2_with (at_builtin; go_must (refine push_law _ rfl (.tmp 51) (.tmp 53) 22 rfl w.heap.size 3 i0 Try.underlying22 HI.out _ ((tameOf zs n).take i) rk rfl rfl HO'.out hlen hs2 ?_); intro v1 w1 hv1 hg1 hat1; have HV1 := Lib.hid hv1; clear hv1; have HG1 := Lib.hid hg1; clear hg1; clear hat1)
          go_roundw
          case rel =>
            refine ⟨i + 1, by omega, by go_num, ?_, hV'.grown HG1.out hs2 (fun j e => (HO'.out.lt e).1)⟩
            have h := HV1.out
            rw [HR'.out, ← tameOf_take zs n i hlt] at h
            exact h
          case measure => simp [intOf]; omega
    · have hiN : i = n := by omega
      have HO' : Hid (Ow wr w.heap.size 3 u5 (tameOf zs n)) := by
        have h := HO.out
        rw [hiN, List.take_of_length_le (by rw [tameOf_len]; omega)] at h
        exact h
      clear hiN
      go_wp2
      go_ret
      exact ⟨_, rfl, HO'.out, hW⟩

theorem tame_any (A : Option Addr) (n c : Nat) (zs : List Int) (most : Nat) (w : World) (hs : Sl w A n c zs) (hm : most ≤ 1000000) :
    Calls Try.prog 48 #[.slice A n c, .int .i64 most] w fun e w' => ∃ v, e = .returned v ∧ Ow w' w.heap.size 3 v (tameOf zs (min n most)) ∧ Below w.heap.size w w' := by
  by_cases h : most < n
  · rw [Nat.min_eq_right (by omega)]; exact tame_more A n c zs most w hs hm h
  · rw [Nat.min_eq_left (by omega)]; exact tame_less A n c zs most w hs hm (by omega)
end Go.Proofs.Ytmnnehpoaedifaa
/- Plain mathematics of layer 2: the longest descending part, as the reference computes it. -/
namespace Go.Proofs.Ytmnnehpoaedifaa

/-- The length of the longest descending part that ends with item i, from the lengths E of those before it, of which the first j are looked at. -/
def endTo (o E : List Int) (i : Nat) : Nat → Int
  | 0 => 1
  | j + 1 => if o[i]?.getD 0 < o[j]?.getD 0 then max (endTo o E i j) (E[j]?.getD 0 + 1) else endTo o E i j
/-- The lengths for the first k items, and the greatest of them (1 if there is none). -/
def leastTo (o : List Int) : Nat → List Int × Int
  | 0 => (List.replicate o.length 0, 1)
  | k + 1 => ((leastTo o k).1.set k (endTo o (leastTo o k).1 k k), max (leastTo o k).2 (endTo o (leastTo o k).1 k k))
def leastOf (o : List Int) : Int := (leastTo o o.length).2
theorem leastTo_len (o : List Int) (k : Nat) : (leastTo o k).1.length = o.length := by
  induction k with
  | zero => simp [leastTo]
  | succ k ih => simp [leastTo, ih]
theorem endTo_bounds (o E : List Int) (i j : Nat) (h : ∀ t, t < j → 0 ≤ E[t]?.getD 0 ∧ E[t]?.getD 0 ≤ t + 1) : 1 ≤ endTo o E i j ∧ endTo o E i j ≤ j + 1 := by
  induction j with
  | zero => exact ⟨by simp [endTo], by simp [endTo]⟩
  | succ j ih =>
    have h1 := ih (fun t ht => h t (by omega))
    have h2 := h j (by omega)
    unfold endTo
    split
    · exact ⟨by omega, by omega⟩
    · exact ⟨by omega, by omega⟩
theorem leastTo_bounds (o : List Int) (k : Nat) (hk : k ≤ o.length) : (∀ t, t < k → 0 ≤ (leastTo o k).1[t]?.getD 0 ∧ (leastTo o k).1[t]?.getD 0 ≤ t + 1) ∧ 1 ≤ (leastTo o k).2 ∧ (leastTo o k).2 ≤ k + 1 := by
  induction k with
  | zero => exact ⟨fun t ht => absurd ht (by omega), by simp [leastTo], by simp [leastTo]⟩
  | succ k ih =>
    obtain ⟨h1, h2, h3⟩ := ih (by omega)
    have h4 := endTo_bounds o (leastTo o k).1 k k h1
    refine ⟨fun t ht => ?_, ?_, ?_⟩
    · simp only [leastTo]
      by_cases e : t = k
      · subst e
        rw [List.getElem?_set_self (by rw [leastTo_len]; omega)]
        simp; omega
      · rw [List.getElem?_set_ne (by omega)]
        exact h1 t (by omega)
    · simp only [leastTo]; omega
    · simp only [leastTo]; omega
end Go.Proofs.Ytmnnehpoaedifaa
/- make, stores into a slice that the call owns; the contract of Least. -/
namespace Go.Proofs.Ytmnnehpoaedifaa
open Go.RowKit

theorem Ow.cellAt {w : World} {B e g n cap : Nat} {zs : List Int} (h : Ow w B e (.slice (some ⟨g, 0, none⟩) n cap) zs) (hn : zs.length = n) {k : Nat} (hk : k < n) : w.cell? ⟨g, k, none⟩ = some (.int .i64 (zs[k]?.getD 0)) := by
  subst hn
  have h' : w.ownsRow B e 1 (.slice (some ⟨g, 0, none⟩) zs.length cap) zs.length (ints zs) := h
  rw [h'.cellAt k (by omega), List.getElem?_map, List.getElem?_eq_getElem hk]
  rfl
theorem Ow.free {w : World} {B e g n cap : Nat} {zs : List Int} (h : Ow w B e (.slice (some ⟨g, 0, none⟩) n cap) zs) (hn : zs.length = n) (k : Nat) : w.frozen? ⟨g, k, none⟩ = false := by
  subst hn
  have h' : w.ownsRow B e 1 (.slice (some ⟨g, 0, none⟩) zs.length cap) zs.length (ints zs) := h
  exact h'.frozenAt k
theorem Ow.put {w : World} {B e g n cap : Nat} {zs : List Int} (h : Ow w B e (.slice (some ⟨g, 0, none⟩) n cap) zs) (hn : zs.length = n) (j : Nat) (x : Int) :
    Ow (w.setCell ⟨g, j, none⟩ (.int .i64 x)) B e (.slice (some ⟨g, 0, none⟩) n cap) (zs.set j x) := by
  subst hn
  have h' : w.ownsRow B e 1 (.slice (some ⟨g, 0, none⟩) zs.length cap) zs.length (ints zs) := h
  have := (h'.stored j (.int .i64 x)).1
  unfold Ow
  rw [List.length_set, show ints (zs.set j x) = (ints zs).set j (.int .i64 x) from by simp [ints, List.map_set]]
  exact this

theorem make_law {P : Program} (w : World) {ops : Array Oper} {rest : List Oper} {o : Oper} {a : Act} {Q : Exit → Act → World → Prop}
    (hg : o.guard = none) (l c : Operand) (t : TypeId) (hop : o.op = Op.makeSlice t l c)
    (B : Nat) (e : TypeId) (i : TypeInfo) (ht : P.underlying t = some (.slice e)) (hI : P.info? e = some i ∧ i.zero = some (.int .i64 0) ∧ i.size = 1 ∧ i.bytes = 8)
    (L C : Int) (n : Nat) (hl : a.eval l = .int .i64 L) (hc : a.eval c = .int .i64 C) (hL : L = (n : Int)) (hC : C = (n : Int)) (hn : n ≤ 1099511627776) (hB : B ≤ w.heap.size)
    (hK : ∀ w', Ow w' B e (.slice (some ⟨w.heap.size, 0, none⟩) n n) (List.replicate n 0) → w.grownBy w' none → wpList P ops Q rest (a.put o.dst (.slice (some ⟨w.heap.size, 0, none⟩) n n)) w') :
    wpList P ops Q (o :: rest) a w := by
  obtain ⟨h1, h2, h3, h4⟩ := hI
  refine wpList_make_full w hg l c t hop B e i _ 1 ht h1 h2 h3 .i64 .i64 L C n hl hc hL hC (by rw [h4]; omega) (by unfold maxLen; omega) hB fun w' ho hgr => hK w' ?_ hgr
  have hcs : (Value.int .i64 0).cells = #[.int .i64 0] := rfl
  rw [hcs, Nat.mul_one, toList_madeCells_one] at ho
  unfold Ow
  rw [List.length_replicate, show ints (List.replicate n 0) = List.replicate n (.int .i64 0) from by simp [ints]]
  exact ho

set_option maxHeartbeats 1600000 in
theorem least_any (A : Option Addr) (n c : Nat) (zs : List Int) (w : World) (hs : Sl w A n c zs) (hbig : n ≤ 1099511627776) :
    Calls Try.prog 29 #[.slice A n c] w fun e w' => e = .returned (.int .i64 (leastOf zs)) ∧ Below w.heap.size w w' := by
  have HS := Lib.hid hs; clear hs
  obtain ⟨i0, hi, hz0, hz1, hz2⟩ := info_parts Try.infoInt
  have HI : Hid (Try.prog.info? 3 = some i0 ∧ i0.zero = some (.int .i64 0) ∧ i0.size = 1 ∧ i0.bytes = 8) := ⟨hi, hz0, hz1, hz2⟩
  clear hi hz0 hz1 hz2
  go_enter Try.func29, Try.ntmps29
  go_wp2_with (at_make; go_must (refine make_law _ rfl (.tmp 8) (.tmp 8) 22 rfl w.heap.size 3 i0 Try.underlying22 HI.out _ _ n rfl rfl rfl rfl (by omega) (Nat.le_refl _) ?_); intro w1 hv1 hg1; have HV1 := Lib.hid hv1; clear hv1; have HG1 := Lib.hid hg1; clear hg1)
  have hW1 := (Below.refl w.heap.size w).grown HG1.out (Nat.le_refl _) (by simp)
  go_loopw [3, 5, 6] (fun b i _ w' => ∃ (k : Nat) (be : Int), k ≤ n ∧ i = .int .i64 k ∧ b = .int .i64 be ∧ 1 ≤ be ∧ be ≤ k + 1 ∧ Hid (be = (leastTo zs k).2) ∧ Hid (Ow w' w.heap.size 3 (.slice (some ⟨w.heap.size, 0, none⟩) n n) (leastTo zs k).1) ∧ Below w.heap.size w w') (fun _ i _ _ => n - (intOf i).toNat)
  case atStart => exact ⟨0, 1, by omega, by go_num, rfl, by omega, by omega, rfl, (by have h := HV1.out; rw [Hid, leastTo, HS.out.len]; exact h), hW1⟩
  case round =>
    obtain ⟨i, be, hi, rfl, rfl, hbe1, hbe2, HBE, HO, hW⟩ := hrel
    have hsz := hW.size
    by_cases hlt : i < n
    · obtain ⟨b0, off0, rfl, hcx⟩ := HS.out.cells (by omega)
      have hb0 := HS.out.old b0 off0 rfl (by omega)
      have HC := Lib.hid hcx; clear hcx
      obtain ⟨E, hE⟩ : ∃ E, E = (leastTo zs i).1 := ⟨_, rfl⟩
      have HEL : Hid (E.length = n) := by rw [Hid, hE, leastTo_len, HS.out.len]
      have HEB : Hid (∀ t, t < i → 0 ≤ E[t]?.getD 0 ∧ E[t]?.getD 0 ≤ t + 1) := by rw [hE]; exact (leastTo_bounds zs i (by rw [HS.out.len]; omega)).1
      rw [← hE] at HO
      have HE := Lib.hid hE; clear hE
      have hci := HO.out.cellAt HEL.out hlt
      have hfi := HO.out.free HEL.out i
      have HO1 := Lib.hid (HO.out.put HEL.out i 1)
      obtain ⟨wo, rfl⟩ : ∃ wo : World, wo = wr := ⟨_, rfl⟩
      go_wp2
      go_loopw [6] (fun t w' => ∃ j : Nat, j ≤ i ∧ t = .int .i64 j ∧ Hid (Ow w' w.heap.size 3 (.slice (some ⟨w.heap.size, 0, none⟩) n n) (E.set i (endTo zs E i j))) ∧ Below w.heap.size w w') (fun t _ => i - (intOf t).toNat)
      case atStart => exact ⟨0, by omega, by go_num, HO1, hW.setCell (p := ⟨w.heap.size, i, none⟩) (Nat.le_refl _) _⟩
      case round =>
        obtain ⟨j, hj, rfl, HV, hV⟩ := hrel
        have hlen : (E.set i (endTo zs E i j)).length = n := by rw [List.length_set]; exact HEL.out
        have HLEN := Lib.hid hlen; clear hlen
        have hei : wr.cell? ⟨w.heap.size, i, none⟩ = some (.int .i64 (endTo zs E i j)) := by
          rw [HV.out.cellAt HLEN.out hlt, List.getElem?_set_self (by rw [HEL.out]; exact hlt)]; rfl
        have hfi2 := HV.out.free HLEN.out i
        have hb := endTo_bounds zs E i j (fun t ht => HEB.out t (by omega))
        by_cases hlj : j < i
        · have hjn : j < n := by omega
          have hyi := (hV.cell (p := ⟨b0, off0 + i, none⟩) hb0).trans (HC.out i hlt)
          have hyj := (hV.cell (p := ⟨b0, off0 + j, none⟩) hb0).trans (HC.out j hjn)
          have hej : wr.cell? ⟨w.heap.size, j, none⟩ = some (.int .i64 (E[j]?.getD 0)) := by
            rw [HV.out.cellAt HLEN.out hjn, List.getElem?_set_ne (by omega)]
          have hbj := HEB.out j hlj
          have HT : Hid (endTo zs E i (j + 1) = if zs[i]?.getD 0 < zs[j]?.getD 0 then max (endTo zs E i j) (E[j]?.getD 0 + 1) else endTo zs E i j) := rfl
          have HP : Hid (∀ W x, Ow W w.heap.size 3 (.slice (some ⟨w.heap.size, 0, none⟩) n n) (E.set i (endTo zs E i j)) → Ow (W.setCell ⟨w.heap.size, i, none⟩ (.int .i64 x)) w.heap.size 3 (.slice (some ⟨w.heap.size, 0, none⟩) n n) (E.set i x)) := fun W x h => by
            have := h.put HLEN.out i x
            rw [List.set_set] at this
            exact this
          generalize endTo zs E i j = en at *
          generalize zs[i]?.getD 0 = a at *
          generalize zs[j]?.getD 0 = b at *
          generalize E[j]?.getD 0 = ej at *
          obtain ⟨hb1, hb2⟩ := hb
          obtain ⟨hbj1, hbj2⟩ := hbj
          by_cases h1 : a < b
          · have g1 : decide (a < b) = true := by simpa using h1
            have H1 := Lib.hid h1; clear h1
            go_wp2
            go_quiet (fail)
            go_wp2
            go_region
            go_wp2
            go_roundw
            case rel =>
              refine ⟨j + 1, by omega, by go_num, ?_, (below_dn hV _).setCell (p := ⟨w.heap.size, i, none⟩) (Nat.le_refl _) _⟩
              have h := HP.out _ (if en < ej + 1 then ej + 1 else en) (HV.out.drewN (nq + 1))
              rw [Hid, HT.out, if_pos H1.out, show max en (ej + 1) = if en < ej + 1 then ej + 1 else en from by split <;> omega]
              exact h
            case measure => simp [intOf]; omega
          · have g1 : decide (a < b) = false := by simpa using h1
            have HB : Hid (endTo zs E i (j + 1) = en) := by rw [Hid, HT.out, if_neg h1]
            clear h1
            go_wp2
            go_quiet (fail)
            go_wp2
            go_roundw
            case rel => exact ⟨j + 1, by omega, by go_num, (by rw [Hid, HB.out]; exact HV.out.drewN _), below_dn hV _⟩
            case measure => simp [intOf]; omega
        · have hji : j = i := by omega
          have HN1 : Hid ((leastTo zs (i + 1)).2 = max be (endTo zs E i j)) := by rw [Hid, hji, leastTo, ← HE.out, ← HBE.out]
          have HN2 : Hid ((leastTo zs (i + 1)).1 = E.set i (endTo zs E i j)) := by rw [Hid, hji, leastTo, ← HE.out]
          obtain ⟨hb1, hb2⟩ := hb
          generalize endTo zs E i j = en at *
          subst hji
          have hm1 : 1 ≤ max be en := by omega
          have hm2 : max be en ≤ j + 1 + 1 := by omega
          have HM : Hid (max be en = if be < en then en else be) := by rw [Hid]; split <;> omega
          have HM1 := Lib.hid hm1; clear hm1
          have HM2 := Lib.hid hm2; clear hm2
          go_wp2
          go_roundw
          case rel =>
            refine ⟨j + 1, if be < en then en else be, by omega, by go_num, rfl, ?_, ?_, ?_, ?_, hV⟩
            · rw [← HM.out]; exact HM1.out
            · rw [← HM.out]; have := HM2.out; omega
            · rw [Hid, ← HM.out, HN1.out]
            · rw [HN2.out]; exact HV
          case measure => simp [intOf]; omega
    · have HB : Hid (be = leastOf zs) := by
        rw [Hid, HBE.out]; unfold leastOf; rw [HS.out.len, show i = n from by omega]
      go_wp2
      go_ret
      exact ⟨iend HB.out, hW⟩
end Go.Proofs.Ytmnnehpoaedifaa
/- Plain mathematics of layer 2: the numbers of the orders that one stack sorts. -/
namespace Go.Proofs.Ytmnnehpoaedifaa

/-- The first m + 1 numbers. -/
def catList : Nat → List Nat
  | 0 => [1]
  | m + 1 => catList m ++ [((List.range (m + 1)).map fun i => (catList m).getD i 0 * (catList m).getD (m - i) 0).sum]
def cat (m : Nat) : Nat := (catList m).getD m 0
theorem catList_len (m : Nat) : (catList m).length = m + 1 := by
  induction m with
  | zero => rfl
  | succ m ih => simp [catList, ih]
theorem getD_left (l r : List Nat) (i : Nat) (h : i < l.length) : (l ++ r).getD i 0 = l.getD i 0 := by
  rw [List.getD_eq_getElem?_getD, List.getD_eq_getElem?_getD, List.getElem?_append_left h]
theorem getD_right (l : List Nat) (x : Nat) : (l ++ [x]).getD l.length 0 = x := by
  rw [List.getD_eq_getElem?_getD, List.getElem?_append_right (Nat.le_refl _)]
  simp
theorem catList_at (m i : Nat) (h : i ≤ m) : (catList m).getD i 0 = cat i := by
  induction m with
  | zero => rw [show i = 0 from by omega]; rfl
  | succ m ih =>
    by_cases e : i = m + 1
    · subst e; rfl
    · rw [← ih (by omega)]
      simp only [catList]
      rw [getD_left _ _ _ (by rw [catList_len]; omega)]
theorem cat_zero : cat 0 = 1 := rfl
/-- The first j terms of the sum for m. -/
def catSum (m : Nat) : Nat → Nat
  | 0 => 0
  | j + 1 => catSum m j + cat j * cat (m - 1 - j)
theorem sum_range_succ (f : Nat → Nat) (n : Nat) : ((List.range (n + 1)).map f).sum = ((List.range n).map f).sum + f n := by
  rw [List.range_succ, List.map_append, List.sum_append]
  simp
theorem cat_succ (m : Nat) : cat (m + 1) = catSum (m + 1) (m + 1) := by
  have h1 : cat (m + 1) = ((List.range (m + 1)).map fun i => cat i * cat (m - i)).sum := by
    unfold cat
    rw [show catList (m + 1) = catList m ++ [((List.range (m + 1)).map fun i => (catList m).getD i 0 * (catList m).getD (m - i) 0).sum] from rfl]
    have hr := getD_right (catList m) (((List.range (m + 1)).map fun i => (catList m).getD i 0 * (catList m).getD (m - i) 0).sum)
    rw [catList_len] at hr
    rw [hr]
    congr 1
    refine List.map_congr_left fun i hi => ?_
    have hi' := List.mem_range.1 hi
    rw [catList_at m i (by omega), catList_at m (m - i) (by omega)]
    rfl
  have h2 : ∀ j, ((List.range j).map fun i => cat i * cat (m - i)).sum = catSum (m + 1) j := by
    intro j
    induction j with
    | zero => rfl
    | succ j ih => rw [sum_range_succ, ih]; rfl
  rw [h1, h2]
theorem catSum_mono (m : Nat) {i j : Nat} (h : i ≤ j) : catSum m i ≤ catSum m j := by
  induction j with
  | zero => rw [show i = 0 from by omega]; exact Nat.le_refl _
  | succ j ih =>
    by_cases e : i = j + 1
    · rw [e]; exact Nat.le_refl _
    · exact Nat.le_trans (ih (by omega)) (Nat.le_add_right _ _)
theorem cat_bound (m : Nat) (h : m ≤ 30) : cat m ≤ 3814986502092304 := by
  have : (List.range 31).all (fun m => decide (cat m ≤ 3814986502092304)) = true := by decide +kernel
  rw [List.all_eq_true] at this
  have := this m (List.mem_range.2 (by omega))
  simpa using this
theorem catSum_le (m j : Nat) (hj : j ≤ m) (h1 : 1 ≤ m) : catSum m j ≤ cat m := by
  obtain ⟨k, rfl⟩ : ∃ k, m = k + 1 := ⟨m - 1, by omega⟩
  rw [cat_succ]
  exact catSum_mono _ hj
theorem catTerm_le (m j : Nat) (hj : j < m) : cat j * cat (m - 1 - j) ≤ cat m := by
  have := catSum_le m (j + 1) (by omega) (by omega)
  simp only [catSum] at this
  omega
theorem cat_pos (m : Nat) : 1 ≤ cat m := by
  induction m with
  | zero => exact Nat.le_refl _
  | succ m ih =>
    have := catTerm_le (m + 1) m (by omega)
    rw [show m + 1 - 1 - m = 0 from by omega, cat_zero, Nat.mul_one] at this
    omega
end Go.Proofs.Ytmnnehpoaedifaa
/- Contract: Count. -/
namespace Go.Proofs.Ytmnnehpoaedifaa
open Go.RowKit

/-- The table of Count(n) when the first m numbers stand. -/
def catRow (n m : Nat) : List Int := (List.range (n + 1)).map fun i => if i < m then (cat i : Int) else 0
theorem catRow_len (n m : Nat) : (catRow n m).length = n + 1 := by unfold catRow; simp
theorem catRow_at {n m i : Nat} (hi : i ≤ n) : (catRow n m)[i]?.getD 0 = if i < m then (cat i : Int) else 0 := by
  unfold catRow
  rw [List.getElem?_map, List.getElem?_range (by omega)]
  rfl
theorem catRow_next {n m : Nat} (hm : m ≤ n) : (catRow n m).set m (cat m) = catRow n (m + 1) := by
  refine List.ext_getElem (by simp [catRow_len]) fun i h1 h2 => ?_
  rw [catRow_len] at h2
  have a := catRow_at (n := n) (m := m + 1) (i := i) (by omega)
  rw [List.getElem?_eq_getElem (by rw [catRow_len]; exact h2), Option.getD_some] at a
  rw [a]
  by_cases e : i = m
  · subst e
    simp
  · rw [List.getElem_set_ne (by omega)]
    have b := catRow_at (n := n) (m := m) (i := i) (by omega)
    rw [List.getElem?_eq_getElem (by rw [catRow_len]; exact h2), Option.getD_some] at b
    rw [b]
    by_cases h : i < m
    · rw [if_pos h, if_pos (by omega)]
    · rw [if_neg h, if_neg (by omega)]
theorem catRow_first (n : Nat) : (List.replicate (n + 1) (0 : Int)).set 0 1 = catRow n 1 := by
  have : List.replicate (n + 1) (0 : Int) = catRow n 0 := by
    unfold catRow
    refine List.ext_getElem (by simp) fun i h1 h2 => ?_
    simp
  rw [this]
  exact catRow_next (n := n) (m := 0) (by omega)
theorem catRow_start {n m : Nat} (hm : m ≤ n) : (catRow n m).set m ((catSum m 0 : Nat) : Int) = catRow n m := by
  refine List.ext_getElem (by simp [catRow_len]) fun i h1 h2 => ?_
  by_cases e : i = m
  · subst e
    have b := catRow_at (n := n) (m := i) (i := i) hm
    rw [List.getElem?_eq_getElem h2, Option.getD_some] at b
    rw [b]
    simp [catSum]
  · rw [List.getElem_set_ne (by omega)]

set_option maxHeartbeats 1600000 in
theorem count_any (n : Nat) (w : World) (hn : n ≤ 30) :
    Calls Try.prog 41 #[.int .i64 n] w fun e w' => e = .returned (.int .i64 (cat n)) ∧ Below w.heap.size w w' := by
  obtain ⟨i0, hi, hz0, hz1, hz2⟩ := info_parts Try.infoInt
  have HI : Hid (Try.prog.info? 3 = some i0 ∧ i0.zero = some (.int .i64 0) ∧ i0.size = 1 ∧ i0.bytes = 8) := ⟨hi, hz0, hz1, hz2⟩
  clear hi hz0 hz1 hz2
  go_enter Try.func41, Try.ntmps41
  go_wp2_with (at_make; go_must (refine make_law _ rfl (.tmp 7) (.tmp 7) 22 rfl w.heap.size 3 i0 Try.underlying22 HI.out _ _ (n + 1) rfl rfl (by omega) (by omega) (by omega) (Nat.le_refl _) ?_); intro w1 hv1 hg1; have hci := hv1.cellAt (by simp) (k := 0) (by omega); have hfi := hv1.free (by simp) 0; have HV1 := Lib.hid hv1; clear hv1; have HG1 := Lib.hid hg1; clear hg1)
  have hW1 := (Below.refl w.heap.size w).grown HG1.out (Nat.le_refl _) (by simp)
  have HV2 : Hid (Ow (w1.setCell ⟨w.heap.size, 0, none⟩ (.int .i64 1)) w.heap.size 3 (.slice (some ⟨w.heap.size, 0, none⟩) (n + 1) (n + 1)) (catRow n 1)) := by
    have h := HV1.out.put (by simp) 0 1
    rw [catRow_first] at h
    exact h
  go_loopw [4, 5] (fun i _ w' => ∃ m : Nat, m ≤ n + 1 ∧ 1 ≤ m ∧ i = .int .i64 m ∧ Hid (Ow w' w.heap.size 3 (.slice (some ⟨w.heap.size, 0, none⟩) (n + 1) (n + 1)) (catRow n m)) ∧ Below w.heap.size w w') (fun i _ _ => n + 1 - (intOf i).toNat)
  case atStart => exact ⟨1, by omega, by omega, by go_num, HV2, hW1.setCell (p := ⟨w.heap.size, 0, none⟩) (Nat.le_refl _) _⟩
  case round =>
    obtain ⟨m, hm, hm1, rfl, HO, hW⟩ := hrel
    clear hci hfi
    have hsz := hW.size
    by_cases hlt : m ≤ n
    · obtain ⟨wo, rfl⟩ : ∃ wo : World, wo = wr := ⟨_, rfl⟩
      go_wp2
      go_loopw [5] (fun t w' => ∃ j : Nat, j ≤ m ∧ t = .int .i64 ((j : Int) + 1) ∧ Hid (Ow w' w.heap.size 3 (.slice (some ⟨w.heap.size, 0, none⟩) (n + 1) (n + 1)) ((catRow n m).set m ((catSum m j : Nat) : Int))) ∧ Below w.heap.size w w') (fun t _ => m + 1 - (intOf t).toNat)
      case atStart => exact ⟨0, by omega, by go_num, (by rw [Hid, catRow_start hlt]; exact HO.out), hW⟩
      case round =>
        obtain ⟨j, hj, rfl, HV, hV⟩ := hrel
        have HLEN : Hid (((catRow n m).set m ((catSum m j : Nat) : Int)).length = n + 1) := by rw [Hid, List.length_set, catRow_len]
        by_cases hlj : j < m
        · have hem : wr.cell? ⟨w.heap.size, m, none⟩ = some (.int .i64 ((catSum m j : Nat) : Int)) := by
            rw [HV.out.cellAt HLEN.out (by omega), List.getElem?_set_self (by rw [catRow_len]; omega)]; rfl
          have hfm := HV.out.free HLEN.out m
          have hej : wr.cell? ⟨w.heap.size, j, none⟩ = some (.int .i64 (cat j : Nat)) := by
            rw [HV.out.cellAt HLEN.out (by omega), List.getElem?_set_ne (by omega), catRow_at (by omega), if_pos hlj]
          have hek : wr.cell? ⟨w.heap.size, m - 1 - j, none⟩ = some (.int .i64 (cat (m - 1 - j) : Nat)) := by
            rw [HV.out.cellAt HLEN.out (by omega), List.getElem?_set_ne (by omega), catRow_at (by omega), if_pos (by omega)]
          have hb1 := cat_bound m (by omega)
          have hb2 := catSum_le m (j + 1) (by omega) hm1
          have HS : Hid (catSum m (j + 1) = catSum m j + cat j * cat (m - 1 - j)) := rfl
          have HP : Hid (∀ W x, Ow W w.heap.size 3 (.slice (some ⟨w.heap.size, 0, none⟩) (n + 1) (n + 1)) ((catRow n m).set m ((catSum m j : Nat) : Int)) → Ow (W.setCell ⟨w.heap.size, m, none⟩ (.int .i64 x)) w.heap.size 3 (.slice (some ⟨w.heap.size, 0, none⟩) (n + 1) (n + 1)) ((catRow n m).set m x)) := fun W x h => by
            have := h.put HLEN.out m x
            rw [List.set_set] at this
            exact this
          generalize catSum m j = s at *
          generalize cat j = a at *
          generalize cat (m - 1 - j) = b at *
          obtain ⟨p, hp⟩ : ∃ p, p = a * b := ⟨_, rfl⟩
          rw [← hp] at HS
          have hsp : s + p ≤ 3814986502092304 := by rw [HS.out] at hb2; omega
          have hpb : p ≤ 3814986502092304 := by omega
          have hw0 : (a : Int) * (b : Int) = (p : Int) := by rw [hp]; simp
          clear hb1 hb2 hp
          have hk1 : m - 1 - j < n + 1 := by omega
          have hj1 : j < n + 1 := by omega
          have hm2 : m < n + 1 := by omega
          have hd : decide ((j : Int) + 1 ≤ m) = true := by simp; omega
          go_wp2
          have hw1 : IntKind.i64.wrap (j : Int) = j := IntWalk.i64_in _ (by omega)
          have hw2 : IntKind.i64.wrap ((m : Int) - ((j : Int) + 1)) = ((m - 1 - j : Nat) : Int) := by rw [IntWalk.i64_in _ (by omega)]; omega
          have hw3 : IntKind.i64.wrap (p : Int) = p := IntWalk.i64_in _ (by omega)
          have hw4 : IntKind.i64.wrap ((s : Int) + p) = s + p := IntWalk.i64_in _ (by omega)
          go_region
          clear hw1 hw2 hw3 hw4 hd hw0
          go_wp2
          go_roundw
          case rel =>
            refine ⟨j + 1, by omega, by go_num, ?_, (hV.setCell (p := ⟨w.heap.size, m, none⟩) (Nat.le_refl _) _).drew⟩
            have h := HP.out _ ((s : Int) + (p : Int)) HV.out
            have e : ((catSum m (j + 1) : Nat) : Int) = (s : Int) + (p : Int) := by rw [HS.out]; omega
            rw [e]
            exact h
          case measure => simp [intOf]; omega
        · have hjm : j = m := by omega
          have HN : Hid (Ow wr w.heap.size 3 (.slice (some ⟨w.heap.size, 0, none⟩) (n + 1) (n + 1)) (catRow n (m + 1))) := by
            rw [Hid, ← catRow_next hlt]
            have h := HV.out
            obtain ⟨q, rfl⟩ : ∃ q, m = q + 1 := ⟨m - 1, by omega⟩
            rw [hjm, ← cat_succ] at h
            exact h
          have hd : decide ((j : Int) + 1 ≤ m) = false := by simp; omega
          clear hjm
          go_wp2
          go_roundw
          case rel => exact ⟨m + 1, by omega, by omega, by go_num, HN, hV⟩
          case measure => simp [intOf]; omega
    · have hmn : m = n + 1 := by omega
      have hres : wr.cell? ⟨w.heap.size, n, none⟩ = some (.int .i64 (cat n : Nat)) := by
        rw [HO.out.cellAt (catRow_len _ _) (by omega), catRow_at (Nat.le_refl _), if_pos (by omega)]
      clear hmn
      go_wp2
      go_ret
      exact ⟨rfl, hW⟩
end Go.Proofs.Ytmnnehpoaedifaa
