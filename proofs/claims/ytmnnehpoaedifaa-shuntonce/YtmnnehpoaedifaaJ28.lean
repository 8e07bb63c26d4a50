import Derived.Test.YtmnnehpoaedifaaJ27
import Derived.Test.YtmnnehpoaedifaaJ17
import Derived.Test.YtmnnehpoaedifaaJ13
import Derived.Laws.EntriesVeiled
import Derived.Test.YtmnnehpoaedifaaJ08
import Derived.Maps.OwnOps
import Derived.Maps.OwnSet
import Derived.Maps.OwnRows
/- Contract of package shunt: sidesSort. -/
namespace Go.Proofs.Ytmnnehpoaedifaa
open Go.RowKit

/-- How many items are still to leave. -/
def msr (n x : Nat) (w : World) : Nat := match w.cell? ⟨x, 0, none⟩ with
  | some (.int _ a) => ((n : Int) + 3 - a).toNat
  | _ => 0
theorem msr_at {n x : Nat} {w : World} {a : Nat} (h : w.cell? ⟨x, 0, none⟩ = some (.int .i64 a)) : msr n x w = n + 3 - a := by
  unfold msr
  rw [h]
  simp only
  omega
theorem below_sides {o l : List Int} : belowB l o.length 2 = (decide (l.length = o.length) && allB (sideIn l) o.length) := by
  unfold belowB
  by_cases h : l.length = o.length
  · rw [h, decide_eq_true rfl, decide_eq_true rfl]
    congr 1
    have : inB l 2 = sideIn l := by
      funext i
      unfold inB sideIn
      rw [Bool.eq_iff_iff]
      simp
      omega
    rw [this]
  · rw [decide_eq_false (by omega), decide_eq_false h]; rfl

set_option maxHeartbeats 1600000 in
theorem sidesSortL_any (A B : Option Addr) (n c m d : Nat) (o l : List Int) (w : World) (hs : Sl w A n c o) (hl : Sl w B m d l) (hn : n ≤ 60) (ho : Ord o) :
    Calls Try.prog 67 #[.slice A n c, .slice B m d] w fun e w' => e = .returned (.bool (sidesB o l)) ∧ Below w.heap.size w w' := by
  have HA := areBelow_any B m d l (n : Int) 2 w hl
  have HS := Lib.hid hs; clear hs
  have HL := Lib.hid hl; clear hl
  have HO := Lib.hid ho; clear ho
  have HSB : Hid (sidesB o l = (belowB l (n : Int) 2 && decide ((sidesTo o l n).wa = n + 1))) := by
    have h := below_sides (o := o) (l := l)
    rw [HS.out.len] at h
    rw [Hid, h]; unfold sidesB; rw [HS.out.len]
  cases hb : belowB l (n : Int) 2 with
  | false =>
    rw [hb] at HA
    have HAA := Lib.hid HA; clear HA
    have HB : Hid (false = sidesB o l) := by rw [Hid, HSB.out, hb]; rfl
    clear hb
    go_enter Try.func67, Try.ntmps67
    go_wp2_with (go_at_call 78; refine HAA.out.mono ?_; clear HAA; rintro e w1 ⟨rfl, rfl⟩)
    go_ret
    exact ⟨bend HB.out, Below.refl _ _⟩
  | true =>
    rw [hb] at HA
    have HAA := Lib.hid HA; clear HA
    have hb' := hb
    unfold belowB at hb'
    rw [Bool.and_eq_true, decide_eq_true_eq, HL.out.len] at hb'
    obtain rfl : m = n := by have := hb'.1; omega
    have HIN : Hid (∀ i, i < m → 0 ≤ l[i]?.getD 0 ∧ l[i]?.getD 0 < 2) := fun i hi => by
      have := (allB_iff.1 hb'.2) i hi
      unfold inB at this
      simp at this
      exact this
    have HEND : Hid (sidesB o l = decide ((sidesTo o l m).wa = m + 1)) := by rw [Hid, HSB.out, hb]; rfl
    clear hb hb' HSB
    go_enter Try.func67, Try.ntmps67
    go_wp2_with (go_at_call 78; refine HAA.out.mono ?_; clear HAA; rintro e w1 ⟨rfl, rfl⟩)
    go_loopw [8, 9, 18, 19, 20, 21, 22, 23, 24, 25, 26, 27, 28, 29, 30, 31, 32, 33, 34, 35, 36] (fun _ _ i _ _ _ _ _ _ _ _ _ _ _ _ _ _ _ _ _ _ w' => ∃ (j : Nat) (v0 v1 : Value), j ≤ m ∧ i = .int .i64 j ∧ Hid (Sd2 w' w.heap.size (w.heap.size + 1) (w.heap.size + 2) (sidesTo o l j) v0 v1) ∧ Below w.heap.size w w') (fun _ _ i _ _ _ _ _ _ _ _ _ _ _ _ _ _ _ _ _ _ _ => m - (intOf i).toNat)
    case atStart => exact ⟨0, _, _, by omega, by go_num, ⟨⟨by simp, by simp, Ow.nil _ _ _, by omega, by simp⟩, ⟨by simp, by simp, Ow.nil _ _ _, by omega, by simp⟩, .inl rfl, (by simp; rfl), by simp, by omega, by omega⟩, ((Below.refl _ _).alloc (Nat.le_refl _) _).alloc (by simp) _⟩
    case round =>
      obtain ⟨j, v0, v1, hj, rfl, HST, hW⟩ := hrel
      by_cases hlt : j < m
      · obtain ⟨wo, rfl⟩ : ∃ wo : World, wo = wr := ⟨_, rfl⟩
        obtain ⟨b1, off1, rfl, hcy⟩ := HL.out.cells (by omega)
        obtain ⟨b0, off0, rfl, hcx⟩ := HS.out.cells (by omega)
        have hb0 := HS.out.old b0 off0 rfl (by omega)
        have hb1 := HL.out.old b1 off1 rfl (by omega)
        have hcxr := (hW.cell (p := ⟨b0, off0 + j, none⟩) hb0).trans (hcx j hlt)
        have hcyr := (hW.cell (p := ⟨b1, off1 + j, none⟩) hb1).trans (hcy j hlt)
        clear hcx hcy
        have hsum := sidesTo_sum o l j
        obtain ⟨q, hq⟩ : ∃ q : Nat, l[j]?.getD 0 = (q : Int) := ⟨(l[j]?.getD 0).toNat, by have := HIN.out j hlt; omega⟩
        have hq2 : q < 2 := by have := (HIN.out j hlt).2; rw [hq] at this; omega
        have hqi : (q : Int) < 2 := by omega
        rw [hq] at hcyr
        have HNX : Hid (sidesTo o l (j + 1) = drain (pushS (sidesTo o l j) q (o[j]?.getD 0))) := by
          have e : sidesTo o l (j + 1) = drain (pushS (sidesTo o l j) (l[j]?.getD 0) (o[j]?.getD 0)) := rfl
          rw [Hid, e, hq]
        have HDS : Hid (Dis (pushS (sidesTo o l j) q (o[j]?.getD 0))) := push_dis HO.out.diff (by rw [HS.out.len]; exact hlt) _
        clear hq
        generalize o[j]?.getD 0 = y at *
        have hps := pushS_sum (sidesTo o l j) q y
        have HP : Hid (Calls Try.prog 76 #[.pointer (some ⟨w.heap.size, q, none⟩), .int .i64 y] wo fun e w' => e = .returned (.tuple #[]) ∧ ∃ u0 u1, Sd2 w' w.heap.size (w.heap.size + 1) (w.heap.size + 2) (pushS (sidesTo o l j) q y) u0 u1 ∧ Below w.heap.size wo w') :=
          push_side q hq2 y HST.out (by omega)
        have HSUM : Hid ((pushS (sidesTo o l j) q y).wa + (pushS (sidesTo o l j) q y).size = j + 2) := by rw [Hid]; omega
        clear hsum hps
        obtain ⟨F, hF⟩ : ∃ F, F = sidesTo o l (j + 1) := ⟨_, rfl⟩
        rw [← hF] at HNX
        have HF := Lib.hid hF; clear hF
        generalize pushS (sidesTo o l j) q y = S at *
        clear HST
        go_wp2_with (go_at_call 76; go_must (refine HP.out.mono ?_); clear HP; rintro e w2 ⟨rfl, u0, u1, hst, hbo⟩; have HS2 := Lib.hid hst; clear hst; have hW2 := hW.trans hbo)
        have hsum := HSUM.out
        go_loopw [30, 31, 32, 33, 34, 35] (fun _ _ _ _ _ _ w' => ∃ (s : S2) (u0 u1 : Value), Hid (drain s = F) ∧ Hid (Dis s) ∧ s.wa + s.size = j + 2 ∧ Hid (Sd2 w' w.heap.size (w.heap.size + 1) (w.heap.size + 2) s u0 u1) ∧ Below w.heap.size w w') (fun _ _ _ _ _ _ w' => msr m (w.heap.size + 1) w')
        case atStart => exact ⟨S, u0, u1, HNX.out.symm, HDS, hsum, HS2, hW2⟩
        case round =>
          obtain ⟨s, t0, t1, HDR, HDI, hss, HST, hWW⟩ := hrel
          by_cases h0 : ∃ r, s.r0 = (s.wa : Int) :: r
          · obtain ⟨r, hr⟩ := h0
            have HG := Lib.hid (leave_go 0 (by omega) HST.out (by omega) (by omega) (show s.side 0 = _ from hr))
            have HD2 : Hid (drain (popQ 0 s) = F) := (drain_pop0 HDI.out).symm.trans HDR.out
            have HD3 : Hid (Dis (popQ 0 s)) := HDI.out.part (pop0_part s)
            have HS3 : Hid ((popQ 0 s).wa + (popQ 0 s).size = j + 2) := (pop0_sum s).1.trans hss
            clear hr
            go_wp2_with (go_at_call 83; go_must (refine HG.out.mono ?_); clear HG; rintro e w3 ⟨rfl, a0, a1, hst, hwa, hbo⟩; have HS4 := Lib.hid hst; clear hst; have hW3 := hWW.trans hbo)
            go_roundw
            case rel => exact ⟨popQ 0 s, a0, a1, HD2, HD3, HS3.out, HS4, hW3⟩
            case measure =>
              rw [msr_at HST.out.nx, msr_at HS4.out.nx, hwa]
              omega
          · by_cases h1 : ∃ r, s.r1 = (s.wa : Int) :: r
            · obtain ⟨r, hr⟩ := h1
              have HN := Lib.hid (leave_stay 0 (by omega) HST.out (by omega) (fun t r hr e => h0 ⟨r, by rw [show s.r0 = t :: r from hr, e]⟩))
              have HG : Hid (∀ W, Dr wr W → Calls Try.prog 83 #[.int .i64 1, .pointer (some ⟨w.heap.size, 0, none⟩), .pointer (some ⟨w.heap.size + 1, 0, none⟩)] W fun e w' => e = .returned (.bool true) ∧ ∃ u0 u1, Sd2 w' w.heap.size (w.heap.size + 1) (w.heap.size + 2) (popQ 1 s) u0 u1 ∧ (popQ 1 s).wa = s.wa + 1 ∧ Below w.heap.size w w') := fun W hd =>
                (leave_go 1 (by omega) (HST.out.dr hd) (by omega) (by omega) (show s.side 1 = _ from hr)).mono fun e w' ⟨he, b0, b1, h1, h2, h3⟩ => ⟨he, b0, b1, h1, h2, (hWW.trans (hd.below _)).trans h3⟩
              have HD2 : Hid (drain (popQ 1 s) = F) := (drain_pop1 HDI.out).symm.trans HDR.out
              have HD3 : Hid (Dis (popQ 1 s)) := HDI.out.part (pop1_part s)
              have HS3 : Hid ((popQ 1 s).wa + (popQ 1 s).size = j + 2) := (pop1_sum s).1.trans hss
              have HH0 := Lib.hid h0; clear h0 hr
              go_wp2_with (first | (go_at_call 83; refine HN.out.mono ?_; clear HN; rintro e w3 ⟨rfl, hd3⟩) | (go_at_call 83; go_must (refine (HG.out _ hd3).mono ?_); clear HG; rintro e w4 ⟨rfl, a0, a1, hst, hwa, hW3⟩; have HS4 := Lib.hid hst; clear hst))
              go_roundw
              case rel => exact ⟨popQ 1 s, a0, a1, HD2, HD3, HS3.out, HS4, hW3⟩
              case measure =>
                rw [msr_at HST.out.nx, msr_at HS4.out.nx, hwa]
                omega
            · have hn0 : ∀ t r, s.r0 = t :: r → t ≠ (s.wa : Int) := fun t r hr e => h0 ⟨r, by rw [hr, e]⟩
              have hn1 : ∀ t r, s.r1 = t :: r → t ≠ (s.wa : Int) := fun t r hr e => h1 ⟨r, by rw [hr, e]⟩
              have HN := Lib.hid (leave_stay 0 (by omega) HST.out (by omega) hn0)
              have HM : Hid (∀ W, Dr wr W → Calls Try.prog 83 #[.int .i64 1, .pointer (some ⟨w.heap.size, 0, none⟩), .pointer (some ⟨w.heap.size + 1, 0, none⟩)] W fun e w' => e = .returned (.bool false) ∧ Dr W w') := fun W hd =>
                leave_stay 1 (by omega) (HST.out.dr hd) (by omega) hn1
              have HE : Hid (s = sidesTo o l (j + 1)) := by rw [Hid, ← HF.out, ← HDR.out, drain_end (pop0_no hn0) (pop1_no hn1)]
              clear h0 h1 hn0 hn1
              go_wp2_with (first | (go_at_call 83; refine HN.out.mono ?_; clear HN; rintro e w3 ⟨rfl, hd3⟩) | (go_at_call 83; go_must (refine (HM.out _ hd3).mono ?_); clear HM; rintro e w4 ⟨rfl, hd4⟩; have HS4 := Lib.hid ((HST.out.dr hd3).dr hd4); have hW4 := (hWW.trans (hd3.below _)).trans (hd4.below _)))
              go_roundw
              case rel => exact ⟨j + 1, t0, t1, by omega, by go_num, (by rw [← HE.out]; exact HS4), hW4⟩
              case measure => simp [intOf]; omega
      · obtain rfl : j = m := by omega
        have hnx := HST.out.nx
        obtain ⟨a, ha⟩ : ∃ a, a = (sidesTo o l j).wa := ⟨_, rfl⟩
        rw [← ha] at hnx
        have HSS := Lib.hid HST; clear HST
        by_cases he : a = j + 1
        · have g : ((a : Int) == (j : Int) + 1) = true := by simp; omega
          have HB : Hid (true = sidesB o l) := by rw [Hid, HEND.out, ← ha, decide_eq_true he]
          clear he ha
          go_wp2
          go_ret
          exact ⟨bend HB.out, hW⟩
        · have g : ((a : Int) == (j : Int) + 1) = false := by simp; omega
          have HB : Hid (false = sidesB o l) := by rw [Hid, HEND.out, ← ha, decide_eq_false he]
          clear he ha
          go_wp2
          go_ret
          exact ⟨bend HB.out, hW⟩
end Go.Proofs.Ytmnnehpoaedifaa
/- Maps keyed by positions that the call makes: what they hold, as a function. -/
namespace Go.Proofs.Ytmnnehpoaedifaa
open Go.RowKit Go.Maps Go.ChangeShapes
open Go.WideElems (Fit rd rg pl rd_val elemAt)

theorem keyI : Keyed Try.prog 3 := int_keyed Try.underlying3
theorem zeroI (w : World) : (zeroValue 3).run Try.prog w = .ok (.int .i64 0) w := by kernel_rfl
theorem zeroB (w : World) : (zeroValue 4).run Try.prog w = .ok (.bool false) w := by kernel_rfl
theorem zeroS (w : World) : (zeroValue 22).run Try.prog w = .ok (.slice none 0 0) w := by kernel_rfl
theorem keyN {k : Nat} (h : k ≤ 1099511627776) : keyOf Try.prog 3 (.int .i64 k) = some (.int .i64 k) := keyOf_int_mk Try.underlying3 (WalkArith.wf_i64 (by omega))

theorem litKey (k : Nat) : WideAt.IsKeyLit (.int .i64 (k : Int)) := trivial
/-- The datum holds at each position what f says. -/
def Rds (D : DataW Unit) (f : Nat → Option Lit) : Prop := IsMap D ∧ ∀ k : Nat, Maps.has D (.int .i64 k) = (f k).isSome ∧ ∀ z, D.atKey (.int .i64 k) z = ((f k).map DataW.lit).getD z
def putL (f : Nat → Option Lit) (x : Nat) (l : Lit) : Nat → Option Lit := fun k => if k = x then some l else f k
theorem Rds.empty : Rds (.map []) (fun _ => none) := ⟨isMap_empty, fun _ => ⟨rfl, fun _ => rfl⟩⟩
theorem Rds.put {D : DataW Unit} {f : Nat → Option Lit} (h : Rds D f) (x : Nat) (l : Lit) : Rds (D.put (.int .i64 x) (.lit l)) (putL f x l) := by
  refine ⟨h.1.put _ _, fun k => ?_⟩
  unfold putL
  by_cases e : k = x
  · subst e
    rw [if_pos rfl]
    exact ⟨has_put_same h.1 (litKey k) _, fun z => atKey_put_same h.1 (litKey k) _ z⟩
  · have hne : (Lit.int .i64 (k : Int)) ≠ .int .i64 (x : Int) := fun e2 => by injection e2 with _ e3; omega
    rw [if_neg e]
    exact ⟨(has_put_other hne _).trans (h.2 k).1, fun z => (atKey_put_other hne _ z).trans ((h.2 k).2 z)⟩

/-- Block b is a map from ints to elements of the plain type e, of at most n entries, that holds what f says. -/
def IM (w : World) (e : TypeId) (b n : Nat) (f : Nat → Option Lit) : Prop := ∃ D : DataW Unit, w.ownsMap Try.prog 3 (plainElem (H := Unit) Try.prog e) b n D ∧ Rds D f
theorem IM.made (w : World) (e : TypeId) : IM (w.alloc (.map #[] 0)) e w.heap.size 0 (fun _ => none) := ⟨_, World.ownsMap_made _ _ _ _, Rds.empty⟩
theorem IM.lt {w : World} {e : TypeId} {b n : Nat} {f : Nat → Option Lit} (h : IM w e b n f) : b < w.heap.size := by obtain ⟨D, h, _⟩ := h; exact h.lt
theorem IM.heap {w w' : World} {e : TypeId} {b n : Nat} {f : Nat → Option Lit} (h : IM w e b n f) (hb : w'.heap[b]? = w.heap[b]?) : IM w' e b n f := by
  obtain ⟨D, ⟨es, clock, h1, h2⟩, hr⟩ := h
  exact ⟨D, ⟨es, clock, hb.trans h1, h2⟩, hr⟩
theorem IM.tn {w w' : World} {T : Nat → Prop} {e : TypeId} {b n : Nat} {f : Nat → Option Lit} (h : IM w e b n f) (k : Tn w w' T) (hn : ¬ T b) : IM w' e b n f := h.heap (k.block b h.lt hn)
theorem IM.dr {w w' : World} {e : TypeId} {b n : Nat} {f : Nat → Option Lit} (h : IM w e b n f) (k : Dr w w') : IM w' e b n f := h.tn (T := fun _ => False) (Tn.of_dr k) (fun h => h)
theorem IM.alloc {w : World} {e : TypeId} {b n : Nat} {f : Nat → Option Lit} (h : IM w e b n f) (o : Obj) : IM (w.alloc o) e b n f := by
  obtain ⟨D, h, hr⟩ := h
  exact ⟨D, h.alloc o, hr⟩
theorem IM.below {w w' : World} {B : Nat} {e : TypeId} {b n : Nat} {f : Nat → Option Lit} (h : IM w e b n f) (k : Below B w w') (hb : b < B) : IM w' e b n f := h.heap (k.block b hb)
theorem IM.mono {w : World} {e : TypeId} {b n m : Nat} {f : Nat → Option Lit} (h : IM w e b n f) (hm : n ≤ m) : IM w e b m f := by
  obtain ⟨D, h, hr⟩ := h
  exact ⟨D, h.mono hm, hr⟩
theorem plainElem_bool_inv {P : Program} {e : TypeId} (he : P.underlying e = some .bool) {v : Value} {z : DataW Unit × List MemPlace} (h : plainElem P e v = some z) : ∃ x, v = .bool x ∧ z = (.lit (.bool x), []) := by
  unfold plainElem at h
  rw [he] at h
  cases v <;> simp at h
  exact ⟨_, rfl, h.symm⟩

section
variable (w : World) {ops : Array Oper} {rest : List Oper} {o : Oper} {a : Act} {Q : Exit → Act → World → Prop}
/-- 'm[k]' at bools. -/
theorem lookB_law (hg : o.guard = none) (m x : Operand) (t : TypeId) (hop : o.op = Op.lookup t m x false) (ht : Try.prog.underlying t = some (.map 3 4)) (b n : Nat) (f : Nat → Option Lit)
    (hm : a.eval m = .map (some b)) (hown : IM w 4 b n f) (k : Nat) (hk : k ≤ 1099511627776) (hx : a.eval x = .int .i64 k) (r : Bool) (hr : (f k).getD (.bool false) = .bool r)
    (hK : wpList Try.prog ops Q rest (a.put o.dst (.bool r)) w) : wpList Try.prog ops Q (o :: rest) a w := by
  obtain ⟨D, hD, hR⟩ := hown
  refine wpList_plain hg fun K' hK' => ?_
  obtain ⟨v, ps, hrun, hv⟩ := hD.lookup keyI ht (zeroB w) (plainElem_bool Try.underlying4 false) (keyN hk)
  obtain ⟨c, rfl, hc⟩ := plainElem_bool_inv Try.underlying4 hv
  have hat := (hR.2 k).2 (.lit (.bool false))
  have h1 : (DataW.lit (.bool c) : DataW Unit) = ((f k).map DataW.lit).getD (.lit (.bool false)) := by
    rw [← hat]; exact (congrArg Prod.fst hc).symm
  have h2 : ((f k).map (DataW.lit (H := Unit))).getD (.lit (.bool false)) = .lit ((f k).getD (.bool false)) := by cases f k <;> rfl
  rw [h2, hr] at h1
  injection h1 with h1
  injection h1 with h1
  subst h1
  unfold Oper.wp
  simp [execOp, hop, hm, hx, hrun, Result.andThen]
  exact hK' _ _ hK
/-- 'm[k]' at ints. -/
theorem lookI_law (hg : o.guard = none) (m x : Operand) (t : TypeId) (hop : o.op = Op.lookup t m x false) (ht : Try.prog.underlying t = some (.map 3 3)) (b n : Nat) (f : Nat → Option Lit)
    (hm : a.eval m = .map (some b)) (hown : IM w 3 b n f) (k : Nat) (hk : k ≤ 1099511627776) (hx : a.eval x = .int .i64 k) (r : Int) (hr : (f k).getD (.int .i64 0) = .int .i64 r)
    (hK : wpList Try.prog ops Q rest (a.put o.dst (.int .i64 r)) w) : wpList Try.prog ops Q (o :: rest) a w := by
  obtain ⟨D, hD, hR⟩ := hown
  refine wpList_lookup_own_int w hg m x t hop 3 3 .i64 keyI ht Try.underlying3 (zeroI w) b n D hm hD _ _ hx (keyN hk) fun c hat _ => ?_
  rw [(hR.2 k).2] at hat
  have h2 : ((f k).map (DataW.lit (H := Unit))).getD (.lit (.int .i64 0)) = .lit ((f k).getD (.int .i64 0)) := by cases f k <;> rfl
  rw [h2, hr] at hat
  injection hat with hat
  injection hat with _ hat
  subst hat
  exact hK
/-- 'v, ok := m[k]' at ints. -/
theorem lookOk_law (hg : o.guard = none) (m x : Operand) (t : TypeId) (hop : o.op = Op.lookup t m x true) (ht : Try.prog.underlying t = some (.map 3 3)) (b n : Nat) (f : Nat → Option Lit)
    (hm : a.eval m = .map (some b)) (hown : IM w 3 b n f) (k : Nat) (hk : k ≤ 1099511627776) (hx : a.eval x = .int .i64 k) (r : Int) (hr : (f k).getD (.int .i64 0) = .int .i64 r) (s : Bool) (hs : (f k).isSome = s)
    (hK : wpList Try.prog ops Q rest (a.put o.dst (.tuple #[.int .i64 r, .bool s])) w) : wpList Try.prog ops Q (o :: rest) a w := by
  obtain ⟨D, hD, hR⟩ := hown
  refine wpList_lookup_own_ok_int w hg m x t hop 3 3 .i64 keyI ht Try.underlying3 (zeroI w) b n D hm hD _ _ hx (keyN hk) fun c hat _ => ?_
  rw [(hR.2 k).2] at hat
  have h2 : ((f k).map (DataW.lit (H := Unit))).getD (.lit (.int .i64 0)) = .lit ((f k).getD (.int .i64 0)) := by cases f k <;> rfl
  rw [h2, hr] at hat
  injection hat with hat
  injection hat with _ hat
  subst hat
  rw [(hR.2 k).1, hs]
  exact hK
/-- 'm[k] = v'. -/
theorem storeM_law (hg : o.guard = none) (m x v : Operand) (t : TypeId) (hop : o.op = Op.mapUpdate t m x v) (e : TypeId) (ht : Try.prog.underlying t = some (.map 3 e)) (b n : Nat) (f : Nat → Option Lit)
    (hm : a.eval m = .map (some b)) (hown : IM w e b n f) (hn : n ≤ 1099511627776) (k : Nat) (hk : k ≤ 1099511627776) (hx : a.eval x = .int .i64 k) (val : Value) (hv : a.eval v = val) (l : Lit) (hl : plainElem (H := Unit) Try.prog e val = some (.lit l, []))
    (hK : ∀ w', IM w' e b (n + 1) (putL f k l) → w.grownBy w' (some b) → wpList Try.prog ops Q rest (a.put o.dst undef) w') : wpList Try.prog ops Q (o :: rest) a w := by
  obtain ⟨D, hD, hR⟩ := hown
  exact wpList_mapUpdate_own w hg m x v t hop 3 e keyI ht _ b n D hm hD (by unfold maxLen; omega) _ _ _ hx hv (keyN hk) _ [] hl fun w' h1 h2 => hK w' ⟨_, h1, hR.put k l⟩ h2
end

/-- The datum of a map of slices: at each position R's positions. -/
def Rdg (D : DataW Unit) (R : Nat → List Nat) : Prop := IsMap D ∧ ∀ k : Nat, (R k = [] ∧ D.atKey (.int .i64 k) .nil = .nil) ∨ D.atKey (.int .i64 k) .nil = .slice (lits .i64 (nats (R k))) []
def putR (R : Nat → List Nat) (x : Nat) (l : List Nat) : Nat → List Nat := fun k => if k = x then l else R k
theorem Rdg.empty : Rdg (.map []) (fun _ => []) := ⟨isMap_empty, fun _ => .inl ⟨rfl, rfl⟩⟩
theorem Rdg.put {D : DataW Unit} {R : Nat → List Nat} (h : Rdg D R) (x : Nat) (l : List Nat) {d : DataW Unit} (hd : (l = [] ∧ d = .nil) ∨ d = .slice (lits .i64 (nats l)) []) : Rdg (D.put (.int .i64 x) d) (putR R x l) := by
  refine ⟨h.1.put _ _, fun k => ?_⟩
  unfold putR
  by_cases e : k = x
  · subst e
    rw [if_pos rfl, atKey_put_same h.1 (litKey k)]
    exact hd
  · have hne : (Lit.int .i64 (k : Int)) ≠ .int .i64 (x : Int) := fun e2 => by injection e2 with _ e3; omega
    rw [if_neg e, atKey_put_other hne]
    exact h.2 k
def GM (w : World) (base b n : Nat) (R : Nat → List Nat) : Prop := ∃ D : DataW Unit, w.ownsGroups Try.prog 3 base 3 .i64 b n D ∧ Rdg D R
theorem GM.made (w : World) : GM (w.alloc (.map #[] 0)) (w.heap.size + 1) w.heap.size 0 (fun _ => []) := ⟨_, World.ownsGroups_made _ _ _ _ _, Rdg.empty⟩
theorem Ow.ofInts {w : World} {B e : Nat} {v : Value} {zs : List Int} (h : w.ownsInts B e .i64 v zs) : Ow w B e v zs := h.1
theorem Ow.toInts {w : World} {B e : Nat} {v : Value} {zs : List Int} (h : Ow w B e v zs) (hz : ∀ z ∈ zs, -9223372036854775808 ≤ z ∧ z ≤ 9223372036854775807) : w.ownsInts B e .i64 v zs := ⟨h, fun z hm => WalkArith.wf_i64 (hz z hm)⟩
theorem lits_inj {xs ys : List Int} (h : lits (H := Unit) .i64 xs = lits .i64 ys) : xs = ys := by
  unfold lits at h
  exact (List.map_inj_right (fun a b hab => by injection hab with hab; injection hab)).1 h
theorem Rdg.read {D : DataW Unit} {R : Nat → List Nat} (h : Rdg D R) {w : World} {B e : Nat} {v : Value} {zs : List Int} {k : Nat} (ho : w.ownsInts B e .i64 v zs) (hat : D.atKey (.int .i64 k) .nil = rowDatum .i64 v zs) : zs = nats (R k) := by
  rcases h.2 k with ⟨h1, h2⟩ | h2
  · rw [h2] at hat
    rcases ho.datum (H := Unit) with ⟨h3, h4⟩ | h3
    · rw [h4, h1]; rfl
    · rw [h3] at hat; cases hat
  · rw [h2] at hat
    rcases ho.datum (H := Unit) with ⟨h3, h4⟩ | h3
    · rw [h3] at hat; cases hat
    · rw [h3] at hat
      injection hat with hat _
      exact (lits_inj hat).symm
theorem nats_wf {l : List Nat} (h : ∀ k ∈ l, k ≤ 1099511627776) : ∀ z ∈ nats l, -9223372036854775808 ≤ z ∧ z ≤ 9223372036854775807 := fun z hz => by
  obtain ⟨k, hk, rfl⟩ := List.mem_map.1 hz
  have := h k hk
  show -9223372036854775808 ≤ (k : Int) ∧ (k : Int) ≤ 9223372036854775807
  omega

section
variable (w : World) {ops : Array Oper} {rest : List Oper} {o : Oper} {a : Act} {Q : Exit → Act → World → Prop}
/-- 'm[k]' on a map of slices that is being made: and the way back. -/
theorem lookG_law (hg : o.guard = none) (m x : Operand) (t : TypeId) (hop : o.op = Op.lookup t m x false) (ht : Try.prog.underlying t = some (.map 3 22)) (base b n : Nat) (R : Nat → List Nat)
    (hm : a.eval m = .map (some b)) (hown : GM w base b n R) (hn : n ≤ 1099511627776) (k : Nat) (hk : k ≤ 1099511627776) (hx : a.eval x = .int .i64 k)
    (hK : ∀ v, Ow w base 3 v (nats (R k)) → (R k).length ≤ n →
      (∀ (w1 : World) (v' : Value) (l : List Nat), w.grownBy w1 v.ownBlock → Ow w1 base 3 v' (nats l) → (∀ z ∈ l, z ≤ 1099511627776) → l.length ≤ n + 1 → (v'.ownBlock = v.ownBlock ∨ ∃ g, v'.ownBlock = some g ∧ w.heap.size ≤ g) →
        ∃ w2, (Instr.mapUpdate t (.map (some b)) (.int .i64 k) v').run Try.prog w1 = .ok () w2 ∧ GM w2 base b (n + 1) (putR R k l) ∧ w1.grownBy w2 (some b)) →
      wpList Try.prog ops Q rest (a.put o.dst v) w) : wpList Try.prog ops Q (o :: rest) a w := by
  obtain ⟨D, hD, hR⟩ := hown
  refine wpList_lookup_groups w hg m x t hop 3 22 3 .i64 keyI ht (zeroS w) base b n D hm hD (by unfold maxLen; omega) _ _ hx (keyN hk) fun v zs hat ho hl hback => ?_
  have hz := hR.read ho hat
  subst hz
  refine hK v (Ow.ofInts ho) (by simpa using hl) fun w1 v' l h1 h2 h3 h4 h5 => ?_
  obtain ⟨w2, r1, r2, r3⟩ := hback w1 v' (nats l) h1 (h2.toInts (nats_wf h3)) (by simpa using h4) h5
  exact ⟨w2, r1, ⟨_, r2, hR.put k l ((h2.toInts (nats_wf h3)).datum.imp (fun ⟨a, b⟩ => ⟨by simpa using b, a⟩) id)⟩, r3⟩
/-- 'm[k] = v' by the way back. -/
theorem storeG_law (hg : o.guard = none) (m x v : Operand) (t : TypeId) (hop : o.op = Op.mapUpdate t m x v) (base b n : Nat) (R : Nat → List Nat) (k : Nat) (v' : Value)
    (hm : a.eval m = .map (some b)) (hx : a.eval x = .int .i64 k) (hv : a.eval v = v')
    (hback : ∃ w2, (Instr.mapUpdate t (.map (some b)) (.int .i64 k) v').run Try.prog w = .ok () w2 ∧ GM w2 base b n R ∧ w.grownBy w2 (some b))
    (hK : ∀ w2, GM w2 base b n R → w.grownBy w2 (some b) → wpList Try.prog ops Q rest (a.put o.dst undef) w2) : wpList Try.prog ops Q (o :: rest) a w := by
  refine wpList_plain hg fun K' hK' => ?_
  obtain ⟨w2, hrun, r1, r2⟩ := hback
  unfold Oper.wp
  simp [execOp, hop, hm, hx, hv, hrun, Result.andThen]
  exact hK' _ _ (hK w2 r1 r2)
/-- 'm[k]' on a map of slices that has been made: w0: the world in which it was ready. -/
theorem lookR_law (hg : o.guard = none) (m x : Operand) (t : TypeId) (hop : o.op = Op.lookup t m x false) (ht : Try.prog.underlying t = some (.map 3 22)) (w0 : World) (base b n : Nat) (R : Nat → List Nat)
    (hm : a.eval m = .map (some b)) (hown : GM w0 base b n R) (hb : Below w0.heap.size w0 w) (k : Nat) (hk : k ≤ 1099511627776) (hx : a.eval x = .int .i64 k) (L : Nat) (hL : (R k).length = L) (hL2 : L ≤ 1099511627776)
    (hK : ∀ A c, Sl w0 A L c (nats (R k)) → wpList Try.prog ops Q rest (a.put o.dst (.slice A L c)) w) : wpList Try.prog ops Q (o :: rest) a w := by
  obtain ⟨D, ⟨es, clock, h1, F, h3, rfl, h5, _⟩, hR⟩ := hown
  have hlt : b < w0.heap.size := (Array.getElem?_eq_some_iff.1 h1).1
  have hbw : w.heap[b]? = some (.map es clock) := (hb.block b hlt).trans h1
  refine wpList_plain hg fun K' hK' => ?_
  obtain ⟨v, hrun, hv⟩ : ∃ v, (Instr.lookup t (.map (some b)) (.int .i64 k) false).run Try.prog w = .ok v w ∧ Ow w0 base 3 v (nats (R k)) := by
    rcases Maps.fit_look false keyI ht (zeroS w) hbw F (keyN hk) with ⟨hrun, _, hat⟩ | ⟨e0, y, _, _, hrun, hRv, hat, _⟩
    · refine ⟨_, hrun, ?_⟩
      have hz := hR.read (World.ownsInts_nil w0 base 3 .i64) (k := k) (hat _)
      rw [← hz]
      exact Ow.nil _ _ _
    · obtain ⟨zs, ho, rfl⟩ := rowElem_inv hRv
      have hz := hR.read ho (k := k) (hat _)
      rw [← hz]
      exact ⟨_, hrun, Ow.ofInts ho⟩
  have hl : (nats (R k)).length = L := by rw [← hL]; exact List.length_map _
  obtain ⟨A, c, rfl, hsl⟩ := hv.sl (by rw [hl]; exact hL2)
  rw [hl] at hrun hsl
  unfold Oper.wp
  simp [execOp, hop, hm, hx, hrun, Result.andThen]
  exact hK' _ _ (hK A c hsl)
end
end Go.Proofs.Ytmnnehpoaedifaa
/- Contracts of package shunt: isOddCircle; the promise of CheckStacks. -/
namespace Go.Proofs.Ytmnnehpoaedifaa
open Go.RowKit Go.Maps

/-- Which positions have been seen among the first j of the block. -/
def seenF (l : List Int) (j : Nat) : Nat → Option Lit := fun k => if hasB (l.take j) (k : Int) = true then some (.bool true) else none
theorem seenF_zero (l : List Int) : seenF l 0 = fun _ => none := by
  funext k
  unfold seenF hasB
  simp
theorem seenF_step (l : List Int) (j a : Nat) (hj : j < l.length) (ha : l[j]?.getD 0 = (a : Int)) : putL (seenF l j) a (.bool true) = seenF l (j + 1) := by
  funext k
  unfold putL seenF hasB
  have ht : l.take (j + 1) = l.take j ++ [(a : Int)] := by
    rw [List.getElem?_eq_getElem hj] at ha
    rw [List.take_add_one, List.getElem?_eq_getElem hj, ← ha]; rfl
  rw [ht]
  by_cases e : k = a
  · subst e; simp
  · have : ¬ (k : Int) = (a : Int) := by omega
    simp [e, this]
theorem seenF_at (l : List Int) (j k : Nat) : ((seenF l j) k).getD (.bool false) = .bool (hasB (l.take j) (k : Int)) := by
  unfold seenF
  cases hasB (l.take j) (k : Int) <;> rfl
theorem below_of_at {l : List Int} {n : Int} (h : atB l n = true) : belowB l l.length n = true := by
  unfold belowB
  rw [Bool.and_eq_true]
  refine ⟨decide_eq_true rfl, allB_iff.2 fun i hi => ?_⟩
  have := allB_iff.1 h i hi
  unfold posAt at this
  unfold inB
  simp only [Bool.and_eq_true] at this ⊢
  exact this.1

set_option maxHeartbeats 1600000 in
theorem isOddCircleL_any (A B : Option Addr) (n c m d : Nat) (o l : List Int) (w : World) (hs : Sl w A n c o) (hl : Sl w B m d l) (hn : n ≤ 60) (ho : Ord o) (hm : m ≤ 1099511627776) :
    Calls Try.prog 68 #[.slice A n c, .slice B m d] w fun e w' => e = .returned (.bool (tblockB o l)) ∧ Below w.heap.size w w' := by
  have HA := Lib.hid (areBelow_any B m d l (m : Int) (n : Int) w hl)
  have HSM := Lib.hid (smallestAfter_any A n c o w hs (by omega) ho)
  have HS := Lib.hid hs; clear hs
  have HL := Lib.hid hl; clear hl
  have HORD := Lib.hid ho; clear ho
  have HLL : Hid ((lows o).length = n) := by rw [Hid, lows_length, HS.out.len]
  by_cases h3 : m < 3
  · have HB : Hid (false = tblockB o l) := by unfold tblockB; rw [Hid, HL.out.len, decide_eq_false (by omega)]; rfl
    go_enter Try.func68, Try.ntmps68
    go_wp2
    go_ret
    exact ⟨bend HB.out, Below.refl _ _⟩
  · by_cases h2 : m % 2 = 0
    · have HB : Hid (false = tblockB o l) := by unfold tblockB; rw [Hid, HL.out.len, h2]; simp
      have g2 : ((m : Int) % 2 == 0) = true := by simp; omega
      clear h2
      go_enter Try.func68, Try.ntmps68
      go_wp2
      go_ret
      exact ⟨bend HB.out, Below.refl _ _⟩
    · have g2 : ((m : Int) % 2 == 0) = false := by simp; omega
      have HT : Hid (tblockB o l = (atB l (n : Int) && allB (ringAt o l) m)) := by
        unfold tblockB; rw [Hid, HS.out.len, HL.out.len, decide_eq_true (show 3 ≤ m by omega), decide_eq_true h2]; rfl
      clear h2
      obtain ⟨p, hp⟩ : ∃ p, p = belowB l (m : Int) (n : Int) := ⟨_, rfl⟩
      rw [← hp] at HA
      cases p with
      | false =>
        have HB : Hid (false = tblockB o l) := by
          rw [Hid, HT.out]
          cases ha : atB l (n : Int) with
          | false => rfl
          | true => have := below_of_at ha; rw [HL.out.len, ← hp] at this; cases this
        clear hp
        go_enter Try.func68, Try.ntmps68
        go_wp2_with (go_at_call 78; refine HA.out.mono ?_; clear HA; rintro e w1 ⟨rfl, rfl⟩)
        go_ret
        exact ⟨bend HB.out, Below.refl _ _⟩
      | true =>
        have HIN : Hid (∀ i, i < m → 0 ≤ l[i]?.getD 0 ∧ l[i]?.getD 0 < n) := fun i hi => by
          have h := hp.symm
          unfold belowB at h
          rw [Bool.and_eq_true] at h
          have := allB_iff.1 h.2 i (by rw [HL.out.len]; exact hi)
          unfold inB at this
          simpa using this
        clear hp
        have hmm := @run_makeMap Try.prog
        go_enter Try.func68, Try.ntmps68
        go_wp2_with (first | (go_at_call 78; refine HA.out.mono ?_; clear HA; rintro e w1 ⟨rfl, rfl⟩) | (go_at_call 81; refine HSM.out.mono ?_; clear HSM; rintro e w1 ⟨v0, rfl, hv, hb⟩; obtain ⟨C, dd, rfl, hsl⟩ := Sl.of_own hv (by rw [HLL.out]; omega); rw [HLL.out]; rw [HLL.out] at hsl; have HC := Lib.hid hsl; clear hsl; clear hv))
        clear hmm
        have hszw := hb.size
        go_loopw [8, 9, 10, 33] (fun _ _ _ i w' => ∃ j : Nat, j ≤ m ∧ i = .int .i64 (j : Int) ∧ Hid (∀ t, t < j → posAt l n t = true ∧ ringAt o l t = true) ∧ Hid (IM w' 4 w1.heap.size j (seenF l j)) ∧ Below w1.heap.size w1 w') (fun _ _ _ i _ => m - (intOf i).toNat)
        case atStart => exact ⟨0, by omega, by go_num, fun t ht => absurd ht (by omega), (by rw [Hid, seenF_zero]; exact IM.made _ _), (Below.refl _ _).alloc (Nat.le_refl _) _⟩
        case round =>
          obtain ⟨j, hj, rfl, hok, HIM, hW⟩ := hrel
          by_cases hlt : j < m
          · obtain ⟨q, hq⟩ : ∃ q, q = (j + 1) % m := ⟨_, rfl⟩
            have hqm : q < m := by rw [hq]; exact Nat.mod_lt _ (by omega)
            obtain ⟨b1, off1, rfl, hcy⟩ := HL.out.cells (by omega)
            have hb1 := HL.out.old b1 off1 rfl (by omega)
            have hWW := hb.trans (hW.mono hszw)
            have hx0 := (hWW.cell (p := ⟨b1, off1 + j, none⟩) hb1).trans (hcy j hlt)
            have hx1 : wr.cell? ⟨b1, off1 + (j + 1) % m, none⟩ = some (.int .i64 (l[q]?.getD 0)) := by rw [← hq]; exact (hWW.cell (p := ⟨b1, off1 + q, none⟩) hb1).trans (hcy q hqm)
            clear hcy
            have hi0 : 0 ≤ ((j : Int) + 1) % (m : Int) := Int.emod_nonneg _ (by omega)
            have hi1 : ((j : Int) + 1) % (m : Int) < m := Int.emod_lt_of_pos _ (by omega)
            have hp0 := HIN.out j hlt
            have hp1 := HIN.out q hqm
            have HD : Hid (ringAt o l j = confB o (min (l[j]?.getD 0).toNat (l[q]?.getD 0).toNat) (max (l[j]?.getD 0).toNat (l[q]?.getD 0).toNat)) := by
              unfold ringAt nextAt; rw [Hid, HL.out.len, ← hq]
            have HPO : Hid (posAt l n j = (decide (0 ≤ l[j]?.getD 0) && decide (l[j]?.getD 0 < n) && !hasB (l.take j) (l[j]?.getD 0))) := rfl
            obtain ⟨a, ha⟩ : ∃ a : Nat, l[j]?.getD 0 = (a : Int) := ⟨(l[j]?.getD 0).toNat, by omega⟩
            obtain ⟨b, hbb⟩ : ∃ b : Nat, l[q]?.getD 0 = (b : Int) := ⟨(l[q]?.getD 0).toNat, by omega⟩
            rw [ha] at hx0 hp0 HD HPO
            rw [hbb] at hx1 hp1 HD
            have HST : Hid (putL (seenF l j) a (.bool true) = seenF l (j + 1)) := seenF_step l j a (by rw [HL.out.len]; exact hlt) ha
            clear ha hbb
            have han : a < n := by omega
            have hbn : b < n := by omega
            have HQ := Lib.hid hq; clear hq
            obtain ⟨sn, hsn⟩ : ∃ sn, sn = hasB (l.take j) (a : Int) := ⟨_, rfl⟩
            have HLK : Hid ((seenF l j a).getD (.bool false) = .bool sn) := by rw [hsn]; exact seenF_at l j a
            rw [← hsn] at HPO
            clear hsn
            cases sn with
            | true =>
              have HB : Hid (false = tblockB o l) := by
                rw [Hid, HT.out]
                have : atB l (n : Int) = false := (allB_bad (k := j) (by rw [HL.out.len]; exact hlt) (by rw [HPO.out]; simp)).symm
                rw [this]; rfl
              go_wp2_with (at_lookup; go_must (refine lookB_law _ rfl _ _ 90 rfl Try.underlying90 _ _ _ rfl HIM.out a (by omega) rfl true HLK.out ?_))
              go_ret
              exact ⟨bend HB.out, hWW⟩
            | false =>
              obtain ⟨r, hr⟩ : ∃ r, r = ringAt o l j := ⟨_, rfl⟩
              have HCC : Hid (Calls Try.prog 82 #[.slice A n c, .slice C n dd, .int .i64 (min a b : Nat), .int .i64 (max a b : Nat)] wr fun e w' => e = .returned (.bool r) ∧ Dr wr w') :=
                inConflict_any A C n c dd o (min a b) (max a b) wr (HS.out.below hWW (Nat.le_refl _)) (HC.out.below hW (Nat.le_refl _)) (by omega) HORD.out (by omega) (by omega) r (by rw [hr, HD.out]; simp)
              have HPT : Hid (posAt l n j = true) := by rw [Hid, HPO.out]; simp; omega
              have HR := Lib.hid hr; clear hr
              rcases Nat.lt_trichotomy a b with hab | hab | hab
              · rw [Nat.min_eq_left (by omega), Nat.max_eq_right (by omega)] at HCC
                cases r with
                | true =>
                  have hok2 : Hid (∀ t, t < j + 1 → posAt l n t = true ∧ ringAt o l t = true) := fun t ht => by
                    by_cases e : t = j
                    · subst e; exact ⟨HPT.out, HR.out.symm⟩
                    · exact hok.out t (by omega)
                  go_wp2_with (first | (at_lookup; go_must (refine lookB_law _ rfl _ _ 90 rfl Try.underlying90 _ _ _ rfl HIM.out a (by omega) rfl false HLK.out ?_)) | (go_at_call 82; go_must (refine HCC.out.mono ?_); rintro e w2 ⟨rfl, hd2⟩; have HIM2 := Lib.hid (HIM.out.dr hd2); have hW2 := hW.trans (hd2.below _); have hs2 := hW2.size) | (at_mapUpdate; go_must (refine storeM_law _ rfl _ _ _ 90 rfl 4 Try.underlying90 _ _ _ rfl HIM2.out (by omega) a (by omega) rfl _ rfl (.bool true) (plainElem_bool Try.underlying4 true) ?_); intro w3 hm3 hg3; have HM3 := Lib.hid hm3; clear hm3; have HG3 := Lib.hid hg3; clear hg3))
                  go_roundw
                  case rel => exact ⟨j + 1, by omega, by go_num, hok2, (by rw [← HST.out]; exact HM3.out), hW2.grown HG3.out hs2 (fun k e => by cases e; exact Nat.le_refl _)⟩
                  case measure => simp [intOf]; omega
                | false =>
                  have HB : Hid (false = tblockB o l) := by
                    rw [Hid, HT.out, ← allB_bad (k := j) hlt HR.out.symm, Bool.and_false]
                  go_wp2_with (first | (at_lookup; go_must (refine lookB_law _ rfl _ _ 90 rfl Try.underlying90 _ _ _ rfl HIM.out a (by omega) rfl false HLK.out ?_)) | (go_at_call 82; go_must (refine HCC.out.mono ?_); rintro e w2 ⟨rfl, hd2⟩))
                  go_ret
                  exact ⟨bend HB.out, hWW.trans (hd2.below _)⟩
              · subst hab
                rw [Nat.min_self, Nat.max_self] at HCC
                cases r with
                | true =>
                  have hok2 : Hid (∀ t, t < j + 1 → posAt l n t = true ∧ ringAt o l t = true) := fun t ht => by
                    by_cases e : t = j
                    · subst e; exact ⟨HPT.out, HR.out.symm⟩
                    · exact hok.out t (by omega)
                  go_wp2_with (first | (at_lookup; go_must (refine lookB_law _ rfl _ _ 90 rfl Try.underlying90 _ _ _ rfl HIM.out a (by omega) rfl false HLK.out ?_)) | (go_at_call 82; go_must (refine HCC.out.mono ?_); rintro e w2 ⟨rfl, hd2⟩; have HIM2 := Lib.hid (HIM.out.dr hd2); have hW2 := hW.trans (hd2.below _); have hs2 := hW2.size) | (at_mapUpdate; go_must (refine storeM_law _ rfl _ _ _ 90 rfl 4 Try.underlying90 _ _ _ rfl HIM2.out (by omega) a (by omega) rfl _ rfl (.bool true) (plainElem_bool Try.underlying4 true) ?_); intro w3 hm3 hg3; have HM3 := Lib.hid hm3; clear hm3; have HG3 := Lib.hid hg3; clear hg3))
                  go_roundw
                  case rel => exact ⟨j + 1, by omega, by go_num, hok2, (by rw [← HST.out]; exact HM3.out), hW2.grown HG3.out hs2 (fun k e => by cases e; exact Nat.le_refl _)⟩
                  case measure => simp [intOf]; omega
                | false =>
                  have HB : Hid (false = tblockB o l) := by
                    rw [Hid, HT.out, ← allB_bad (k := j) hlt HR.out.symm, Bool.and_false]
                  go_wp2_with (first | (at_lookup; go_must (refine lookB_law _ rfl _ _ 90 rfl Try.underlying90 _ _ _ rfl HIM.out a (by omega) rfl false HLK.out ?_)) | (go_at_call 82; go_must (refine HCC.out.mono ?_); rintro e w2 ⟨rfl, hd2⟩))
                  go_ret
                  exact ⟨bend HB.out, hWW.trans (hd2.below _)⟩
              · rw [Nat.min_eq_right (by omega), Nat.max_eq_left (by omega)] at HCC
                cases r with
                | true =>
                  have hok2 : Hid (∀ t, t < j + 1 → posAt l n t = true ∧ ringAt o l t = true) := fun t ht => by
                    by_cases e : t = j
                    · subst e; exact ⟨HPT.out, HR.out.symm⟩
                    · exact hok.out t (by omega)
                  go_wp2_with (first | (at_lookup; go_must (refine lookB_law _ rfl _ _ 90 rfl Try.underlying90 _ _ _ rfl HIM.out a (by omega) rfl false HLK.out ?_)) | (go_at_call 82; go_must (refine HCC.out.mono ?_); rintro e w2 ⟨rfl, hd2⟩; have HIM2 := Lib.hid (HIM.out.dr hd2); have hW2 := hW.trans (hd2.below _); have hs2 := hW2.size) | (at_mapUpdate; go_must (refine storeM_law _ rfl _ _ _ 90 rfl 4 Try.underlying90 _ _ _ rfl HIM2.out (by omega) a (by omega) rfl _ rfl (.bool true) (plainElem_bool Try.underlying4 true) ?_); intro w3 hm3 hg3; have HM3 := Lib.hid hm3; clear hm3; have HG3 := Lib.hid hg3; clear hg3))
                  go_roundw
                  case rel => exact ⟨j + 1, by omega, by go_num, hok2, (by rw [← HST.out]; exact HM3.out), hW2.grown HG3.out hs2 (fun k e => by cases e; exact Nat.le_refl _)⟩
                  case measure => simp [intOf]; omega
                | false =>
                  have HB : Hid (false = tblockB o l) := by
                    rw [Hid, HT.out, ← allB_bad (k := j) hlt HR.out.symm, Bool.and_false]
                  go_wp2_with (first | (at_lookup; go_must (refine lookB_law _ rfl _ _ 90 rfl Try.underlying90 _ _ _ rfl HIM.out a (by omega) rfl false HLK.out ?_)) | (go_at_call 82; go_must (refine HCC.out.mono ?_); rintro e w2 ⟨rfl, hd2⟩))
                  go_ret
                  exact ⟨bend HB.out, hWW.trans (hd2.below _)⟩
          · obtain rfl : j = m := by omega
            have HB : Hid (true = tblockB o l) := by
              rw [Hid, HT.out, show atB l (n : Int) = true from allB_iff.2 (by rw [HL.out.len]; exact fun t ht => (hok.out t ht).1), ← allB_good (fun t ht => (hok.out t ht).2)]; rfl
            go_wp2
            go_ret
            exact ⟨bend HB.out, hb.trans (hW.mono hszw)⟩
theorem tblock_len {o b : List Int} (h : tblockB o b = true) : 3 ≤ b.length := by
  unfold tblockB at h
  simp only [Bool.and_eq_true, decide_eq_true_eq] at h
  exact h.1.1.1
theorem tblock_some {o b : List Int} (h : tblockB o b = true) : 0 < o.length := by
  have hl := tblock_len h
  unfold tblockB at h
  simp only [Bool.and_eq_true, decide_eq_true_eq] at h
  have := (atB_iff.1 h.1.2).2 0 (by omega)
  omega

set_option maxHeartbeats 1600000 in
theorem checkStacks_ok : CheckStacksOk := by
  intro A B C n c m d r s o l b w hs hl hb hm hr
  have H1 := Lib.hid (isOrder_any A n c o w hs)
  have HS := Lib.hid hs; clear hs
  have HL := Lib.hid hl; clear hl
  have HBL := Lib.hid hb; clear hb
  cases ho : ordB o 60 with
  | false =>
    rw [ho] at H1
    have HR : Hid (checkStacksOf o l b = 2) := by unfold checkStacksOf; rw [Hid, if_pos ho]
    clear ho
    go_enter Try.func34, Try.ntmps34
    go_wp2_with (go_at_call 52; refine H1.out.mono ?_; clear H1; rintro e w1 ⟨rfl, hb1⟩)
    go_ret
    exact ⟨iend HR.out.symm, hb1⟩
  | true =>
    rw [ho] at H1
    obtain ⟨hord, h60⟩ := ordB_iff.1 ho
    have hn : n ≤ 60 := by rw [HS.out.len] at h60; omega
    clear h60
    have HORD := Lib.hid hord; clear hord
    have HR0 : Hid (checkStacksOf o l b = if (sidesB o l = true ∧ b.length = 0) ∨ (l.length = 0 ∧ 0 < o.length ∧ tblockB o b = true) then 0 else 10) := by unfold checkStacksOf; rw [Hid, if_neg (by rw [ho]; simp)]
    clear ho
    have HPL : Hid (∀ W, Below w.heap.size w W → Calls Try.prog 67 #[.slice A n c, .slice B m d] W fun e w' => e = .returned (.bool (sidesB o l)) ∧ Below w.heap.size w w') := fun W h =>
      (sidesSortL_any A B n c m d o l W (HS.out.below h (Nat.le_refl _)) (HL.out.below h (Nat.le_refl _)) hn HORD.out).mono fun e w' ⟨he, hb⟩ => ⟨he, h.trans (hb.mono h.size)⟩
    have HBK : Hid (∀ W, Below w.heap.size w W → Calls Try.prog 68 #[.slice A n c, .slice C r s] W fun e w' => e = .returned (.bool (tblockB o b)) ∧ Below w.heap.size w w') := fun W h =>
      (isOddCircleL_any A C n c r s o b W (HS.out.below h (Nat.le_refl _)) (HBL.out.below h (Nat.le_refl _)) hn HORD.out hr).mono fun e w' ⟨he, hb⟩ => ⟨he, h.trans (hb.mono h.size)⟩
    have hbl := HBL.out.len
    have hll := HL.out.len
    by_cases hr0 : r = 0
    · subst hr0
      have hsf : tblockB o b = false := by
        cases h : tblockB o b with
        | false => rfl
        | true => have := tblock_len h; omega
      cases hpl : sidesB o l with
      | true =>
        have HR : Hid (checkStacksOf o l b = 0) := by rw [Hid, HR0.out, if_pos (.inl ⟨hpl, hbl⟩)]
        rw [hpl] at HPL
        clear hpl hsf hbl hll
        go_enter Try.func34, Try.ntmps34
        go_wp2_with (first | (go_at_call 52; refine H1.out.mono ?_; clear H1; rintro e w1 ⟨rfl, hb1⟩) | (go_at_call 67; refine (HPL.out _ hb1).mono ?_; clear HPL; rintro e w2 ⟨rfl, hb2⟩))
        go_ret
        exact ⟨iend HR.out.symm, hb2⟩
      | false =>
        have HR : Hid (checkStacksOf o l b = 10) := by rw [Hid, HR0.out, if_neg (by rintro (h | h); rw [hpl] at h; cases h.1; rw [hsf] at h; cases h.2.2)]
        rw [hpl] at HPL
        rw [hsf] at HBK
        clear hpl hsf hbl hll
        by_cases hm0 : m = 0
        · subst hm0
          go_enter Try.func34, Try.ntmps34
          go_wp2_with (first | (go_at_call 52; refine H1.out.mono ?_; clear H1; rintro e w1 ⟨rfl, hb1⟩) | (go_at_call 67; refine (HPL.out _ hb1).mono ?_; clear HPL; rintro e w2 ⟨rfl, hb2⟩) | (go_at_call 68; refine (HBK.out _ hb2).mono ?_; clear HBK; rintro e w3 ⟨rfl, hb3⟩))
          go_ret
          exact ⟨iend HR.out.symm, hb3⟩
        · have gm : ((m : Int) == 0) = false := by simp; omega
          go_enter Try.func34, Try.ntmps34
          go_wp2_with (first | (go_at_call 52; refine H1.out.mono ?_; clear H1; rintro e w1 ⟨rfl, hb1⟩) | (go_at_call 67; refine (HPL.out _ hb1).mono ?_; clear HPL; rintro e w2 ⟨rfl, hb2⟩))
          go_ret
          exact ⟨iend HR.out.symm, hb2⟩
    · have gr : ((r : Int) == 0) = false := by simp; omega
      by_cases hm0 : m = 0
      · subst hm0
        cases hsb : tblockB o b with
        | true =>
          have HR : Hid (checkStacksOf o l b = 0) := by rw [Hid, HR0.out, if_pos (.inr ⟨hll, tblock_some hsb, hsb⟩)]
          rw [hsb] at HBK
          clear hsb hbl hll
          go_enter Try.func34, Try.ntmps34
          go_wp2_with (first | (go_at_call 52; refine H1.out.mono ?_; clear H1; rintro e w1 ⟨rfl, hb1⟩) | (go_at_call 68; refine (HBK.out _ hb1).mono ?_; clear HBK; rintro e w3 ⟨rfl, hb3⟩))
          go_ret
          exact ⟨iend HR.out.symm, hb3⟩
        | false =>
          have HR : Hid (checkStacksOf o l b = 10) := by rw [Hid, HR0.out, if_neg (by rintro (h | h); omega; rw [hsb] at h; cases h.2.2)]
          rw [hsb] at HBK
          clear hsb hbl hll
          go_enter Try.func34, Try.ntmps34
          go_wp2_with (first | (go_at_call 52; refine H1.out.mono ?_; clear H1; rintro e w1 ⟨rfl, hb1⟩) | (go_at_call 68; refine (HBK.out _ hb1).mono ?_; clear HBK; rintro e w3 ⟨rfl, hb3⟩))
          go_ret
          exact ⟨iend HR.out.symm, hb3⟩
      · have gm : ((m : Int) == 0) = false := by simp; omega
        have HR : Hid (checkStacksOf o l b = 10) := by rw [Hid, HR0.out, if_neg (by rintro (h | h) <;> omega)]
        clear hbl hll
        go_enter Try.func34, Try.ntmps34
        go_wp2_with (first | (go_at_call 52; refine H1.out.mono ?_; clear H1; rintro e w1 ⟨rfl, hb1⟩))
        go_ret
        exact ⟨iend HR.out.symm, hb1⟩
end Go.Proofs.Ytmnnehpoaedifaa
