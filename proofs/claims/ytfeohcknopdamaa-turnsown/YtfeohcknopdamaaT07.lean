import Derived.Test.YtfeohcknopdamaaT04
import Derived.Test.YtfeohcknopdamaaT05
/- Layer 10: isSet, placeOfSet (written by gen_place.py). -/
namespace Go.Proofs.Ytfeohcknopdamaa
open Go.RowKit
set_option linter.unusedVariables false

def prevI (zs : List Int) (j : Nat) : Int := if j = 0 then 0 else atI zs (j - 1)
def oneB (n : Int) (zs : List Int) (j : Nat) : Bool := decide (prevI zs j + 1 ≤ atI zs j) && decide (atI zs j ≤ n)
/-- Ascending numbers from 1 to n. -/
def setB (n : Int) (zs : List Int) : Bool := allB (oneB n zs) zs.length
theorem setB_at {n : Int} {zs : List Int} (h : setB n zs = true) {j : Nat} (hj : j < zs.length) : prevI zs j + 1 ≤ atI zs j ∧ atI zs j ≤ n := by
  have := allB_iff.1 h j hj
  rw [oneB, Bool.and_eq_true, decide_eq_true_iff, decide_eq_true_iff] at this
  exact this
theorem setB_ge {n : Int} {zs : List Int} (h : setB n zs = true) : ∀ j, j < zs.length → ((j : Int) + 1 ≤ atI zs j)
  | 0, hj => by
    have := (setB_at h hj).1
    rw [prevI, if_pos rfl] at this
    omega
  | j + 1, hj => by
    have h1 := (setB_at h hj).1
    have h2 := setB_ge h j (by omega)
    rw [prevI, if_neg (by omega), Nat.add_sub_cancel] at h1
    omega
theorem setB_len {n : Nat} {zs : List Int} (h : setB (n : Int) zs = true) : zs.length ≤ n := by
  rcases Nat.eq_zero_or_pos zs.length with h0 | h0
  · omega
  · have h1 := setB_ge h (zs.length - 1) (by omega)
    have h2 := (setB_at h (j := zs.length - 1) (by omega)).2
    omega
set_option maxRecDepth 100000 in
theorem isSet_any (zs : List Int) (n : Nat) (A : Option Addr) (m c : Nat) (w : World) (h : Sl w A m c zs) (hn : n ≤ 40) :
    Calls Try.prog 59 #[.int .i64 (n : Int), .slice A m c] w fun e w' => e = .returned (.bool (setB n zs)) ∧ w = w' := by
  have hbig := h.big
  have HL : Hid (zs.length = m) := h.len
  have HS := Lib.hid h
  have HBAD : Hid (∀ k, k < m → oneB n zs k = false → false = setB n zs) := fun k hk h => allB_bad (p := oneB n zs) (by rw [HL.out]; exact hk) h
  have HGOOD : Hid ((∀ k, k < m → oneB n zs k = true) → true = setB n zs) := fun h => allB_good (p := oneB n zs) (by rw [HL.out]; exact h)
  clear h
  go_enter Try.func59, Try.ntmps59
  go_wp2
  go_loopw [5, 10] (fun b i w' => ∃ k : Nat, k ≤ m ∧ i = .int .i64 (k : Int) ∧ b = .int .i64 (prevI zs k) ∧ Hid (∀ j, j < k → oneB n zs j = true) ∧ Hid (-1 ≤ prevI zs k ∧ prevI zs k ≤ 40) ∧ w = w') (fun _ i _ => m - (intOf i).toNat)
  case atStart => exact ⟨0, Nat.zero_le _, by go_num, rfl, fun j hj => absurd hj (Nat.not_lt_zero _), ⟨by rw [prevI, if_pos rfl]; decide, by rw [prevI, if_pos rfl]; decide⟩, rfl⟩
  case round =>
    obtain ⟨k, hk, rfl, rfl, HK, HR, rfl⟩ := hrel
    by_cases hlt : k < m
    · have i1 : (k : Int) < (m : Int) := by omega
      obtain ⟨b, off, rfl, hcell⟩ := HS.out.at_ hlt
      rw [show zs[k]?.getD 0 = atI zs k from rfl] at hcell
      have HBK := Lib.hid (HBAD.out k hlt)
      have HKS : Hid (oneB n zs k = true → ∀ j, j < k + 1 → oneB n zs j = true) := fun h j hj => by
        by_cases e : j = k
        · rw [e]; exact h
        · exact HK.out j (by omega)
      have HNX : Hid (prevI zs (k + 1) = atI zs k) := by rw [Hid, prevI, if_neg (by omega), Nat.add_sub_cancel]
      have hone : oneB n zs k = (decide (prevI zs k + 1 ≤ atI zs k) && decide (atI zs k ≤ (n : Int))) := rfl
      have hr := HR.out
      generalize prevI zs k = p at *
      generalize atI zs k = z at *
      have HB := Lib.hid (fun w => isBetween_any z (p + 1) n w)
      rw [← hone] at HB
      have v1 : IntKind.i64.wrap (p + 1) = p + 1 := IntWalk.i64_in _ (by omega)
      rcases hl : oneB n zs k with _ | _
      · have HX := Lib.hid (HBK.out hl)
        rw [hl] at HB
        clear hl HBK HKS hone
        go_wp2_with (go_at_call 55; refine (HB.out _).mono ?_; rintro e w1 ⟨rfl, rfl⟩)
        go_ret
        exact ⟨bend HX.out, rfl⟩
      · have HX := Lib.hid (HKS.out hl)
        have hz : p + 1 ≤ z ∧ z ≤ (n : Int) := by
          rw [hl] at hone
          have := hone.symm
          rw [Bool.and_eq_true, decide_eq_true_iff, decide_eq_true_iff] at this
          exact this
        rw [hl] at HB
        clear hl HBK HKS hone
        go_wp2_with (go_at_call 55; refine (HB.out _).mono ?_; rintro e w1 ⟨rfl, rfl⟩)
        exact ⟨⟨k + 1, by omega, by go_num, by rw [HNX.out], HX.out, by rw [Hid, HNX.out]; omega, trivial⟩, by simp [intOf]; omega⟩
    · have hkn : k = m := by omega
      have HX := Lib.hid (HGOOD.out (by rw [← hkn]; exact HK.out))
      have i1 : ¬ (k : Int) < (m : Int) := by omega
      clear hkn
      generalize prevI zs k = p at *
      go_wp2
      go_ret
      exact ⟨bend HX.out, rfl⟩
/-- The position of a set, by the lengths. -/
def plF (L : Nat → Nat → Nat) (zs : List Int) : Nat → Nat
  | 0 => 0
  | k + 1 => L (atI zs k).toNat (k + 1) - 1 - plF L zs k
/-- The set is one, and its positions are. -/
def PlOk (L : Nat → Nat → Nat) (zs : List Int) : Prop := ∀ k, k < zs.length → plF L zs k < L (atI zs k).toNat (k + 1) ∧ L (atI zs k).toNat (k + 1) ≤ 1099511627776 ∧ 0 ≤ atI zs k ∧ atI zs k ≤ 40 ∧ k + 1 ≤ 40
set_option maxRecDepth 100000 in
set_option maxHeartbeats 1600000 in
theorem placeA_any (zs : List Int) (A : Option Addr) (m c : Nat) (w : World) (h : Sl w A m c zs) (hP : PlOk expL zs) :
    Calls Try.prog 60 #[.func (.func 57) #[] #[], .slice A m c] w fun e w' => e = .returned (.int .i64 ((plF expL zs m : Nat) : Int)) ∧ Below w.heap.size w w' := by
  have hbig := h.big
  have HLN : Hid (∀ x s : Nat, x ≤ 40 → s ≤ 40 → ∀ V, Below w.heap.size w V → Calls Try.prog 57 #[.int .i64 (x : Int), .int .i64 (s : Int)] V fun e w' => e = .returned (.int .i64 ((expL x s : Nat) : Int)) ∧ V = w') := fun x s hx hs V hV => allSets_any x s V hx
  have HSV : Hid (∀ V, Below w.heap.size w V → Sl V A m c zs) := fun V hV => h.below hV (Nat.le_refl _)
  have HP := Lib.hid hP
  have HL : Hid (zs.length = m) := h.len
  clear h hP
  go_enter Try.func60, Try.ntmps60
  go_wp2
  go_loopw [5, 10] (fun a i w' => ∃ k : Nat, k ≤ m ∧ i = .int .i64 (k : Int) ∧ a = .int .i64 ((plF expL zs k : Nat) : Int) ∧ Hid (Below w.heap.size w w')) (fun _ i _ => m - (intOf i).toNat)
  case atStart => exact ⟨0, Nat.zero_le _, by go_num, rfl, Below.refl _ _⟩
  case round =>
    obtain ⟨k, hk, rfl, rfl, HB⟩ := hrel
    obtain ⟨wo, rfl⟩ : ∃ wo : World, wo = wr := ⟨_, rfl⟩
    by_cases hlt : k < m
    · have i1 : (k : Int) < (m : Int) := by omega
      obtain ⟨b, off, rfl, hcell⟩ := (HSV.out wo HB.out).at_ hlt
      rw [show zs[k]?.getD 0 = atI zs k from rfl] at hcell
      obtain ⟨p1, p2, p3, p4, p5⟩ := HP.out k (by rw [HL.out]; exact hlt)
      have HNX : Hid (plF expL zs (k + 1) = expL (atI zs k).toNat (k + 1) - 1 - plF expL zs k) := rfl
      obtain ⟨x, hx⟩ : ∃ x : Nat, atI zs k = (x : Int) := ⟨(atI zs k).toNat, by omega⟩
      rw [hx, Int.toNat_natCast] at p1 p2 HNX
      rw [hx] at hcell p4
      have HC : Hid (∀ V, Below w.heap.size w V → Calls Try.prog 57 #[.int .i64 (x : Int), .int .i64 ((k : Int) + 1)] V fun e w' => e = .returned (.int .i64 ((expL x (k + 1) : Nat) : Int)) ∧ V = w') := HLN.out x (k + 1) (by omega) p5
      clear hx p3
      generalize plF expL zs k = a at *
      generalize expL x (k + 1) = L1 at *
      have HBW : Hid (wo.heap.size = wo.heap.size) := rfl
      obtain ⟨V1, hV1⟩ : ∃ V1, V1 = dirW wo (L1 : Int) true := ⟨_, rfl⟩
      have hdc := dirW_cells wo (L1 : Int) true
      have hdb := dirW_below wo (L1 : Int) true
      have HDIR : Hid (Calls Try.prog 77 #[.int .i64 (L1 : Int), .bool true] wo fun e w' => e = .returned (.func (.func 89) #[] #[.pointer (some ⟨wo.heap.size + 1, 0, none⟩), .pointer (some ⟨wo.heap.size, 0, none⟩)]) ∧ w' = V1) :=
        (direction_any _ _ _).mono fun e w' he => ⟨he.1, by rw [he.2, hV1]⟩
      rw [← hV1] at hdc hdb
      clear hV1
      have HCL : Hid (Calls Try.prog 89 #[.int .i64 (a : Int), .pointer (some ⟨wo.heap.size + 1, 0, none⟩), .pointer (some ⟨wo.heap.size, 0, none⟩)] V1 fun e w' => e = .returned (.int .i64 ((L1 - 1 - a : Nat) : Int)) ∧ V1 = w') := by
        have := dirc_any L1 a wo.heap.size true V1 (by omega) p1 hdc.1 hdc.2
        rw [dirN, if_pos rfl] at this
        exact this
      have HBV : Hid (Below w.heap.size w V1) := HB.out.trans (hdb.mono HB.out.size)
      clear hdc hdb
      rw [← HNX.out] at HCL
      go_wp2_with (first | (go_at_call 57; (with_reducible refine (HC.out _ HB.out).mono ?_); rintro e w1 ⟨rfl, rfl⟩) | (go_at_call 77; (with_reducible refine HDIR.out.mono ?_); rintro e w1 ⟨rfl, rfl⟩) | (go_at_call 89; (with_reducible refine HCL.out.mono ?_); rintro e w1 ⟨rfl, rfl⟩))
      exact ⟨⟨k + 1, by omega, by go_num, rfl, HBV.out⟩, by simp [intOf]; omega⟩
    · have hkn : k = m := by omega
      have i1 : ¬ (k : Int) < (m : Int) := by omega
      rw [hkn]
      clear hkn
      go_wp2
      go_ret
      exact ⟨rfl, HB.out⟩
set_option maxRecDepth 100000 in
set_option maxHeartbeats 1600000 in
theorem placeC_any (zs : List Int) (A : Option Addr) (m c tb : Nat) (w : World) (h : Sl w A m c zs) (hP : PlOk chs zs) (hT : Tab w tb) :
    Calls Try.prog 60 #[.func (.func 79) #[] #[.pointer (some ⟨tb, 0, none⟩)], .slice A m c] w fun e w' => e = .returned (.int .i64 ((plF chs zs m : Nat) : Int)) ∧ Below w.heap.size w w' := by
  have hbig := h.big
  have HLN : Hid (∀ x s : Nat, x ≤ 40 → s ≤ 40 → ∀ V, Below w.heap.size w V → Calls Try.prog 79 #[.int .i64 (x : Int), .int .i64 (s : Int), .pointer (some ⟨tb, 0, none⟩)] V fun e w' => e = .returned (.int .i64 ((chs x s : Nat) : Int)) ∧ V = w') := fun x s hx hs V hV => look_any x s tb V hx hs (hT.below hV)
  have HSV : Hid (∀ V, Below w.heap.size w V → Sl V A m c zs) := fun V hV => h.below hV (Nat.le_refl _)
  have HP := Lib.hid hP
  have HL : Hid (zs.length = m) := h.len
  clear h hP hT
  go_enter Try.func60, Try.ntmps60
  go_wp2
  go_loopw [5, 10] (fun a i w' => ∃ k : Nat, k ≤ m ∧ i = .int .i64 (k : Int) ∧ a = .int .i64 ((plF chs zs k : Nat) : Int) ∧ Hid (Below w.heap.size w w')) (fun _ i _ => m - (intOf i).toNat)
  case atStart => exact ⟨0, Nat.zero_le _, by go_num, rfl, Below.refl _ _⟩
  case round =>
    obtain ⟨k, hk, rfl, rfl, HB⟩ := hrel
    obtain ⟨wo, rfl⟩ : ∃ wo : World, wo = wr := ⟨_, rfl⟩
    by_cases hlt : k < m
    · have i1 : (k : Int) < (m : Int) := by omega
      obtain ⟨b, off, rfl, hcell⟩ := (HSV.out wo HB.out).at_ hlt
      rw [show zs[k]?.getD 0 = atI zs k from rfl] at hcell
      obtain ⟨p1, p2, p3, p4, p5⟩ := HP.out k (by rw [HL.out]; exact hlt)
      have HNX : Hid (plF chs zs (k + 1) = chs (atI zs k).toNat (k + 1) - 1 - plF chs zs k) := rfl
      obtain ⟨x, hx⟩ : ∃ x : Nat, atI zs k = (x : Int) := ⟨(atI zs k).toNat, by omega⟩
      rw [hx, Int.toNat_natCast] at p1 p2 HNX
      rw [hx] at hcell p4
      have HC : Hid (∀ V, Below w.heap.size w V → Calls Try.prog 79 #[.int .i64 (x : Int), .int .i64 ((k : Int) + 1), .pointer (some ⟨tb, 0, none⟩)] V fun e w' => e = .returned (.int .i64 ((chs x (k + 1) : Nat) : Int)) ∧ V = w') := HLN.out x (k + 1) (by omega) p5
      clear hx p3
      generalize plF chs zs k = a at *
      generalize chs x (k + 1) = L1 at *
      have HBW : Hid (wo.heap.size = wo.heap.size) := rfl
      obtain ⟨V1, hV1⟩ : ∃ V1, V1 = dirW wo (L1 : Int) true := ⟨_, rfl⟩
      have hdc := dirW_cells wo (L1 : Int) true
      have hdb := dirW_below wo (L1 : Int) true
      have HDIR : Hid (Calls Try.prog 77 #[.int .i64 (L1 : Int), .bool true] wo fun e w' => e = .returned (.func (.func 89) #[] #[.pointer (some ⟨wo.heap.size + 1, 0, none⟩), .pointer (some ⟨wo.heap.size, 0, none⟩)]) ∧ w' = V1) :=
        (direction_any _ _ _).mono fun e w' he => ⟨he.1, by rw [he.2, hV1]⟩
      rw [← hV1] at hdc hdb
      clear hV1
      have HCL : Hid (Calls Try.prog 89 #[.int .i64 (a : Int), .pointer (some ⟨wo.heap.size + 1, 0, none⟩), .pointer (some ⟨wo.heap.size, 0, none⟩)] V1 fun e w' => e = .returned (.int .i64 ((L1 - 1 - a : Nat) : Int)) ∧ V1 = w') := by
        have := dirc_any L1 a wo.heap.size true V1 (by omega) p1 hdc.1 hdc.2
        rw [dirN, if_pos rfl] at this
        exact this
      have HBV : Hid (Below w.heap.size w V1) := HB.out.trans (hdb.mono HB.out.size)
      clear hdc hdb
      rw [← HNX.out] at HCL
      go_wp2_with (first | (go_at_call 79; (with_reducible refine (HC.out _ HB.out).mono ?_); rintro e w1 ⟨rfl, rfl⟩) | (go_at_call 77; (with_reducible refine HDIR.out.mono ?_); rintro e w1 ⟨rfl, rfl⟩) | (go_at_call 89; (with_reducible refine HCL.out.mono ?_); rintro e w1 ⟨rfl, rfl⟩))
      exact ⟨⟨k + 1, by omega, by go_num, rfl, HBV.out⟩, by simp [intOf]; omega⟩
    · have hkn : k = m := by omega
      have i1 : ¬ (k : Int) < (m : Int) := by omega
      rw [hkn]
      clear hkn
      go_wp2
      go_ret
      exact ⟨rfl, HB.out⟩
end Go.Proofs.Ytfeohcknopdamaa
