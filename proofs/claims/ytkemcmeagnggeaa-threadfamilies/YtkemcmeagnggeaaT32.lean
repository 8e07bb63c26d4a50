import Derived.Test.YtkemcmeagnggeaaT14
import Derived.Test.YtkemcmeagnggeaaT05
import Derived.Test.YtkemcmeagnggeaaT22
import Derived.Test.YtkemcmeagnggeaaT02
import Derived.Lib.Bytealg
/- Layer 3: isAboveAny. -/
namespace Go.Proofs.Ytkemcmeagnggeaa
open Go.RowKit
set_option linter.unusedVariables false

def aboveB (o x : ByteArray) : Bool := !decide (o = x) && (withinF (bs o) (bs x)).isSome
def anyA (x : ByteArray) (ss : List ByteArray) : Bool := ss.any fun o => aboveB o x
theorem anyA_at {ss : List ByteArray} {x : ByteArray} {k : Nat} (hk : k < ss.length) (h : aboveB (ss[k]?.getD ByteArray.empty) x = true) : anyA x ss = true := by
  rw [List.getElem?_eq_getElem hk, Option.getD_some] at h
  exact List.any_eq_true.2 ⟨_, List.getElem_mem hk, h⟩
theorem anyA_none {ss : List ByteArray} {x : ByteArray} (h : ∀ j, j < ss.length → aboveB (ss[j]?.getD ByteArray.empty) x = false) : anyA x ss = false := by
  cases hh : anyA x ss with
  | false => rfl
  | true =>
    obtain ⟨o, ho, e⟩ := List.any_eq_true.1 hh
    obtain ⟨j, hj, rfl⟩ := List.getElem_of_mem ho
    have := h j hj
    rw [List.getElem?_eq_getElem hj, Option.getD_some, e] at this
    cases this
set_option maxHeartbeats 800000 in
theorem above_any (o x : ByteArray) (g : Nat) (w : World) (ho : wordB (bs o) = true) (hx : wordB (bs x) = true) (hg : g < w.heap.size) (hc : w.cell? ⟨g, 0, none⟩ = some (.string x)) :
    Calls Try.prog 72 #[.string o, .pointer (some ⟨g, 0, none⟩)] w fun e w' => e = .returned (.bool (aboveB o x)) ∧ Below w.heap.size w w' := by
  have HW := Lib.hid (fun W => withinP_any o x W ho hx)
  have HCC : Hid (∀ W, Below w.heap.size w W → W.cell? ⟨g, 0, none⟩ = some (.string x)) := fun W hb => (hb.cell (p := ⟨g, 0, none⟩) hg).trans hc
  have hstr := str_eq o x
  have HAB : Hid (aboveB o x = (!decide (o = x) && (withinF (bs o) (bs x)).isSome)) := rfl
  clear ho hx
  go_enter Try.func72, Try.ntmps72
  generalize (withinF (bs o) (bs x)).isSome = r at HW HAB
  by_cases hox : o = x
  · have g1 : (o.toList == x.toList) = true := by rw [hstr, decide_eq_true hox]
    have g2 : (o.toList != x.toList) = false := by rw [bne, g1]; rfl
    have HR : Hid (aboveB o x = false) := by rw [Hid, HAB.out, decide_eq_true hox]; rfl
    clear hstr HAB hox
    go_wp2_with (go_at_call 18; refine (HW.out _).mono ?_; rintro e w1 ⟨v, rfl, _, hb1⟩; have h1 := HCC.out w1 hb1; have HB1 := Lib.hid hb1; clear hb1)
    go_ret
    exact ⟨(by rw [HR.out]; rfl), HB1.out⟩
  · have g1 : (o.toList == x.toList) = false := by rw [hstr, decide_eq_false hox]
    have g2 : (o.toList != x.toList) = true := by rw [bne, g1]; rfl
    cases r with
    | true =>
      have HR : Hid (aboveB o x = true) := by rw [Hid, HAB.out, decide_eq_false hox]; rfl
      have HW2 : Hid (∀ W, Calls Try.prog 18 #[.string o, .string x] W fun e w' => ∃ v, e = .returned (.tuple #[v, .int .i64 0]) ∧ Below W.heap.size W w') := fun W => (HW.out W).mono fun e w' ⟨v, h1, _, h2⟩ => ⟨v, h1, h2⟩
      clear hstr HAB hox HW
      go_wp2_with (go_at_call 18; refine (HW2.out _).mono ?_; rintro e w1 ⟨v, rfl, hb1⟩; have h1 := HCC.out w1 hb1; have HB1 := Lib.hid hb1; clear hb1)
      go_ret
      exact ⟨(by rw [HR.out]; rfl), HB1.out⟩
    | false =>
      have HR : Hid (aboveB o x = false) := by rw [Hid, HAB.out, decide_eq_false hox]; rfl
      have HW2 : Hid (∀ W, Calls Try.prog 18 #[.string o, .string x] W fun e w' => ∃ v, e = .returned (.tuple #[v, .int .i64 6]) ∧ Below W.heap.size W w') := fun W => (HW.out W).mono fun e w' ⟨v, h1, _, h2⟩ => ⟨v, h1, h2⟩
      clear hstr HAB hox HW
      go_wp2_with (go_at_call 18; refine (HW2.out _).mono ?_; rintro e w1 ⟨v, rfl, hb1⟩; have h1 := HCC.out w1 hb1; have HB1 := Lib.hid hb1; clear hb1)
      go_ret
      exact ⟨(by rw [HR.out]; rfl), HB1.out⟩
set_option maxHeartbeats 800000 in
theorem indexA_any (A : Option Addr) (n c : Nat) (ss : List ByteArray) (x : ByteArray) (g : Nat) (w : World) (hs : Sls w A n c ss) (hn : n ≤ 1099511627776) (hw : ∀ j, j < n → wordB (bs (ss[j]?.getD ByteArray.empty)) = true) (hx : wordB (bs x) = true) (hg : g < w.heap.size) (hc : w.cell? ⟨g, 0, none⟩ = some (.string x)) :
    Calls Try.prog 80 #[.slice A n c, .func (.func 72) #[] #[.pointer (some ⟨g, 0, none⟩)]] w fun e w' => (∃ i : Int, e = .returned (.int .i64 i) ∧ decide (0 ≤ i) = anyA x ss ∧ -1 ≤ i) ∧ Below w.heap.size w w' := by
  have HS := Lib.hid hs
  have HL : Hid (ss.length = n) := hs.len
  have HAA := Lib.hid (fun j W hj => above_any (ss[j]?.getD ByteArray.empty) x g W (hw j hj) hx)
  have HCC : Hid (∀ W, Below w.heap.size w W → W.cell? ⟨g, 0, none⟩ = some (.string x)) := fun W hb => (hb.cell (p := ⟨g, 0, none⟩) hg).trans hc
  have HG := Lib.hid hg
  clear hs hw hx hc hg
  go_enter Try.func80, Try.ntmps80
  go_wp2
  go_loopw [5, 8] (fun _ i w' => ∃ k : Nat, k ≤ n ∧ i = .int .i64 k ∧ Hid (∀ j, j < k → aboveB (ss[j]?.getD ByteArray.empty) x = false) ∧ Below w.heap.size w w') (fun _ i _ => n - (intOf i).toNat)
  case atStart => exact ⟨0, Nat.zero_le _, rfl, (fun j hj => absurd hj (by omega)), Below.refl _ _⟩
  case round =>
    obtain ⟨k, hk, rfl, hok, hW⟩ := hrel
    obtain ⟨wo, rfl⟩ : ∃ wo : World, wo = wr := ⟨_, rfl⟩
    by_cases hlt : k < n
    · obtain ⟨b, off, rfl, hc1⟩ := (HS.out.below hW (Nat.le_refl _)).rd k (by rw [HL.out]; exact hlt)
      have HA := Lib.hid (HAA.out k wo hlt (Nat.lt_of_lt_of_le HG.out hW.size) (HCC.out _ hW))
      have HAT : Hid (aboveB (ss[k]?.getD ByteArray.empty) x = true → anyA x ss = true) := anyA_at (by rw [HL.out]; exact hlt)
      have HOK : Hid (aboveB (ss[k]?.getD ByteArray.empty) x = false → ∀ j, j < k + 1 → aboveB (ss[j]?.getD ByteArray.empty) x = false) := fun h j hj => by
        by_cases e : j = k
        · rw [e]; exact h
        · exact hok.out j (by omega)
      clear hok
      generalize ss[k]?.getD ByteArray.empty = y at hc1 HA HAT HOK
      generalize aboveB y x = r at HA HAT HOK
      cases r with
      | true =>
        have HR := Lib.hid (HAT.out rfl)
        clear HAT HOK
        go_wp2_with (go_at_call 72; refine HA.out.mono ?_; rintro e w1 ⟨rfl, hb1⟩; have HB1 : Hid (Below w.heap.size w w1) := hW.trans (hb1.mono hW.size); clear hb1)
        go_ret
        exact ⟨⟨_, rfl, by rw [HR.out, decide_eq_true_iff]; omega, by omega⟩, HB1.out⟩
      | false =>
        have HR := Lib.hid (HOK.out rfl)
        clear HAT HOK
        go_wp2_with (go_at_call 72; refine HA.out.mono ?_; rintro e w1 ⟨rfl, hb1⟩; have HB1 : Hid (Below w.heap.size w w1) := hW.trans (hb1.mono hW.size); clear hb1)
        exact ⟨⟨k + 1, by omega, by go_num, HR.out, HB1.out⟩, by simp [intOf] <;> omega⟩
    · have HN : Hid (anyA x ss = false) := anyA_none fun j hj => hok.out j (by rw [HL.out] at hj; omega)
      go_wp2
      go_ret
      exact ⟨⟨_, rfl, by rw [HN.out]; rfl, by omega⟩, hW⟩
theorem containsA_any (A : Option Addr) (n c : Nat) (ss : List ByteArray) (x : ByteArray) (g : Nat) (w : World) (hs : Sls w A n c ss) (hn : n ≤ 1099511627776) (hw : ∀ j, j < n → wordB (bs (ss[j]?.getD ByteArray.empty)) = true) (hx : wordB (bs x) = true) (hg : g < w.heap.size) (hc : w.cell? ⟨g, 0, none⟩ = some (.string x)) :
    Calls Try.prog 71 #[.slice A n c, .func (.func 72) #[] #[.pointer (some ⟨g, 0, none⟩)]] w fun e w' => e = .returned (.bool (anyA x ss)) ∧ Below w.heap.size w w' := by
  have HI := Lib.hid (indexA_any A n c ss x g w hs hn hw hx hg hc)
  clear hs hw hx hg hc
  go_enter Try.func71, Try.ntmps71
  go_wp2_with (go_at_call 80; refine HI.out.mono ?_; rintro e w1 ⟨⟨i, rfl, hi, hi2⟩, hb1⟩)
  go_ret
  exact ⟨by first | rfl | exact bend hi, hb1⟩
theorem isAboveAny_any (A : Option Addr) (n c : Nat) (ss : List ByteArray) (x : ByteArray) (w : World) (hs : Sls w A n c ss) (hn : n ≤ 1099511627776) (hw : ∀ j, j < n → wordB (bs (ss[j]?.getD ByteArray.empty)) = true) (hx : wordB (bs x) = true) :
    Calls Try.prog 63 #[.string x, .slice A n c] w fun e w' => e = .returned (.bool (anyA x ss)) ∧ Below w.heap.size w w' := by
  have HB : Hid (Below w.heap.size w (w.alloc (.cells #[.string x] 9))) := (Below.refl _ _).alloc (Nat.le_refl _) _
  have HI := Lib.hid (containsA_any A n c ss x w.heap.size (w.alloc (.cells #[.string x] 9)) (hs.below HB.out (Nat.le_refl _)) hn hw hx (by show _ < (w.heap.push _).size; simp) (by rw [cell_of_row _ _ _ _ _ _ (heap_alloc_last _ _)]; rfl))
  clear hs hw hx
  go_enter Try.func63, Try.ntmps63
  go_wp2_with (go_at_call 71; refine HI.out.mono ?_; rintro e w1 ⟨rfl, hb1⟩)
  go_ret
  exact ⟨rfl, HB.out.trans (hb1.mono HB.out.size)⟩
end Go.Proofs.Ytkemcmeagnggeaa
/- Layer 3: compareWords. -/
namespace Go.Proofs.Ytkemcmeagnggeaa
open Go.RowKit
set_option linter.unusedVariables false

/-- What cmp.Compare says of two ints. -/
def sgI (a b : Int) : Int := if a < b then -1 else if b < a then 1 else 0
/-- What compareWords says of two words. -/
def cmpW (u w : ByteArray) : Int := if sgI u.size w.size = 0 then Lib.compareBytes u.data.toList w.data.toList else sgI u.size w.size
theorem compareBytes_lt : ∀ (x y : List UInt8), decide (Lib.compareBytes x y < 0) = Op.bytesLess x y
  | [], [] => by simp [Op.bytesLess, Lib.compareBytes]
  | [], _ :: _ => by simp [Op.bytesLess, Lib.compareBytes]
  | _ :: _, [] => by simp [Op.bytesLess, Lib.compareBytes]
  | a :: x, b :: y => by
    rw [Op.bytesLess, Lib.compareBytes, ← compareBytes_lt x y]
    by_cases h1 : a < b
    · simp [h1]
    · by_cases h2 : b < a
      · have : a ≠ b := fun e => by rw [e, UInt8.lt_iff_toNat_lt] at h2; omega
        simp [h1, h2, this]
      · have : a = b := by
          rw [UInt8.lt_iff_toNat_lt] at h1 h2
          exact UInt8.toNat_inj.1 (by omega)
        simp [h1, h2, this]
theorem compareBytes_rng : ∀ (x y : List UInt8), -1 ≤ Lib.compareBytes x y ∧ Lib.compareBytes x y ≤ 1
  | [], [] => by simp [Lib.compareBytes]
  | [], _ :: _ => by simp [Lib.compareBytes]
  | _ :: _, [] => by simp [Lib.compareBytes]
  | a :: x, b :: y => by
    rw [Lib.compareBytes]
    split
    · omega
    · split
      · omega
      · exact compareBytes_rng x y
theorem cmpW_lt (u w : ByteArray) : decide (cmpW u w < 0) = lessL (bs u) (bs w) := by
  unfold cmpW lessL sgI
  rw [bs_len, bs_len]
  rcases Nat.lt_trichotomy u.size w.size with h | h | h
  · rw [if_neg (by rw [if_pos (by omega)]; omega), if_pos (by omega), if_neg (by omega)]
    simp [h]
  · rw [if_pos (by rw [if_neg (by omega), if_neg (by omega)]), if_pos h, compareBytes_lt, ← ltL_bs, toL_data, toL_data]
  · rw [if_neg (by rw [if_neg (by omega), if_pos (by omega)]; omega), if_neg (by omega), if_pos (by omega), if_neg (by omega)]
    simp; omega
theorem cmpW_rng (u w : ByteArray) : -1 ≤ cmpW u w ∧ cmpW u w ≤ 1 := by
  unfold cmpW
  split
  · exact compareBytes_rng _ _
  · unfold sgI
    split
    · omega
    · split <;> omega
theorem isNaN_any (a : Int) (w : World) : Calls Try.prog 91 #[.int .i64 a] w fun e w' => e = .returned (.bool false) ∧ w = w' := by
  go_enter Try.func91, Try.ntmps91
  go_wp2
  go_ret
  exact ⟨by first | rfl | simp, rfl⟩
theorem cmpI_any (a b : Int) (w : World) : Calls Try.prog 76 #[.int .i64 a, .int .i64 b] w fun e w' => e = .returned (.int .i64 (sgI a b)) ∧ w = w' := by
  have HN := Lib.hid (fun x W => isNaN_any x W)
  have HS : Hid (sgI a b = if a < b then -1 else if b < a then 1 else 0) := rfl
  go_enter Try.func76, Try.ntmps76
  by_cases h1 : a < b
  · have HR : Hid (sgI a b = -1) := by rw [Hid, HS.out, if_pos h1]
    clear HS
    go_wp2_with (go_at_call 91; refine (HN.out _ _).mono ?_; rintro e w1 ⟨rfl, rfl⟩)
    go_ret
    exact ⟨by rw [HR.out]; rfl, rfl⟩
  · by_cases h2 : b < a
    · have HR : Hid (sgI a b = 1) := by rw [Hid, HS.out, if_neg h1, if_pos h2]
      clear HS
      go_wp2_with (go_at_call 91; refine (HN.out _ _).mono ?_; rintro e w1 ⟨rfl, rfl⟩)
      go_ret
      exact ⟨by rw [HR.out]; rfl, rfl⟩
    · have HR : Hid (sgI a b = 0) := by rw [Hid, HS.out, if_neg h1, if_neg h2]
      clear HS
      go_wp2_with (go_at_call 91; refine (HN.out _ _).mono ?_; rintro e w1 ⟨rfl, rfl⟩)
      go_ret
      exact ⟨by rw [HR.out]; rfl, rfl⟩
set_option maxRecDepth 100000 in
theorem cmpStr_any (a b : ByteArray) (w : World) : Calls Try.prog 92 #[.string a, .string b] w fun e w' => e = .returned (.int .i64 (Lib.compareBytes a.data.toList b.data.toList)) ∧ w = w' := by
  go_enter Try.func92, Try.ntmps92
  go_wp2
  rw [run_callFunc_extern Try.func98 (by kernel_rfl) (by kernel_rfl) (by kernel_rfl) (e := Extern.BytealgCompare.compare) (by kernel_rfl), Lib.run_compareString]
  simp only [Result.andThen]
  rw [Oper.upon_value]
  go_wp2
  go_ret
  exact ⟨rfl, rfl⟩
theorem strCmp_any (a b : ByteArray) (w : World) : Calls Try.prog 77 #[.string a, .string b] w fun e w' => e = .returned (.int .i64 (Lib.compareBytes a.data.toList b.data.toList)) ∧ w = w' := by
  have HN := Lib.hid (fun W => cmpStr_any a b W)
  go_enter Try.func77, Try.ntmps77
  go_wp2_with (go_at_call 92; refine (HN.out _).mono ?_; rintro e w1 ⟨rfl, rfl⟩)
  go_ret
  exact ⟨rfl, rfl⟩
theorem or_any (a b : Int) (g : Nat) (w : World) (h0 : w.cell? ⟨g, 0, none⟩ = some (.int .i64 a)) (h1 : w.cell? ⟨g, 1, none⟩ = some (.int .i64 b)) :
    Calls Try.prog 75 #[.slice (some ⟨g, 0, none⟩) 2 2] w fun e w' => e = .returned (.int .i64 (if a = 0 then b else a)) ∧ w = w' := by
  obtain ⟨r, hr⟩ : ∃ r, r = (if a = 0 then b else a) := ⟨_, rfl⟩
  rw [← hr]
  have HR := Lib.hid hr
  clear hr
  go_enter Try.func75, Try.ntmps75
  go_wp2
  go_loopw [5, 8] (fun _ i w' => ∃ k : Nat, i = .int .i64 k ∧ Hid (k = 0 ∨ (k = 1 ∧ a = 0) ∨ (k = 2 ∧ a = 0 ∧ b = 0)) ∧ w = w') (fun _ i _ => 2 - (intOf i).toNat)
  case atStart => exact ⟨0, rfl, .inl rfl, rfl⟩
  case round =>
    obtain ⟨k, rfl, hk, rfl⟩ := hrel
    rcases hk.out with rfl | ⟨rfl, ha⟩ | ⟨rfl, ha, hb⟩
    · by_cases ha : a = 0
      · subst ha
        clear hk HR
        go_wp2
        exact ⟨⟨1, rfl, by simp [Hid], trivial⟩, by simp [intOf] <;> omega⟩
      · have HR2 : Hid (r = a) := by rw [Hid, HR.out, if_neg ha]
        have g1 : (a == 0) = false := by simpa using ha
        have g2 : (a != 0) = true := by simpa using ha
        clear hk HR
        go_wp2
        go_ret
        exact ⟨by rw [HR2.out]; rfl, rfl⟩
    · have HR2 : Hid (r = b) := by rw [Hid, HR.out, if_pos ha]
      have HA := Lib.hid ha
      by_cases hb : b = 0
      · subst hb
        clear hk HR ha
        go_wp2
        exact ⟨⟨2, rfl, by simp [Hid, HA.out], trivial⟩, by simp [intOf] <;> omega⟩
      · have g1 : (b == 0) = false := by simpa using hb
        have g2 : (b != 0) = true := by simpa using hb
        clear hk HR ha
        go_wp2
        go_ret
        exact ⟨by rw [HR2.out]; rfl, rfl⟩
    · have HR2 : Hid (r = 0) := by rw [Hid, HR.out, if_pos ha, hb]
      clear hk HR ha hb
      go_wp2
      go_ret
      exact ⟨by rw [HR2.out]; rfl, rfl⟩
theorem compareWords_any (u x : ByteArray) (w : World) (hu : u.size ≤ 1000000) (hx : x.size ≤ 1000000) :
    Calls Try.prog 65 #[.string u, .string x] w fun e w' => e = .returned (.int .i64 (cmpW u x)) ∧ Below w.heap.size w w' := by
  have HI := Lib.hid (fun W => cmpI_any (u.size : Int) (x.size : Int) W)
  have HT := Lib.hid (fun W => strCmp_any u x W)
  obtain ⟨s, hs⟩ : ∃ s, s = sgI (u.size : Int) (x.size : Int) := ⟨_, rfl⟩
  obtain ⟨t, ht⟩ : ∃ t, t = Lib.compareBytes u.data.toList x.data.toList := ⟨_, rfl⟩
  have HC : Hid (cmpW u x = if s = 0 then t else s) := by rw [hs, ht]; rfl
  rw [← hs] at HI
  rw [← ht] at HT
  clear hs ht
  have HR := heap_alloc_last w (.cells #[.int .i64 s, .int .i64 t] 3)
  have h0 : (w.alloc (.cells #[.int .i64 s, .int .i64 t] 3)).cell? ⟨w.heap.size, 0, none⟩ = some (.int .i64 s) := by rw [cell_of_row _ _ _ _ _ _ HR]; rfl
  have h1 : (w.alloc (.cells #[.int .i64 s, .int .i64 t] 3)).cell? ⟨w.heap.size, 1, none⟩ = some (.int .i64 t) := by rw [cell_of_row _ _ _ _ _ _ HR]; rfl
  have HO := Lib.hid (or_any s t w.heap.size _ h0 h1)
  have HB : Hid (Below w.heap.size w (w.alloc (.cells #[.int .i64 s, .int .i64 t] 3))) := (Below.refl _ _).alloc (Nat.le_refl _) _
  rw [← HC.out] at HO
  generalize cmpW u x = r at HO ⊢
  clear HR h0 h1 HC
  go_enter Try.func65, Try.ntmps65
  go_wp2_with (first | (go_at_call 76; refine (HI.out _).mono ?_; rintro e w1 ⟨rfl, rfl⟩) | (go_at_call 77; refine (HT.out _).mono ?_; rintro e w1 ⟨rfl, rfl⟩) | (go_at_call 75; refine HO.out.mono ?_; rintro e w1 ⟨rfl, rfl⟩))
  go_ret
  exact ⟨rfl, HB.out⟩
end Go.Proofs.Ytkemcmeagnggeaa
