import Derived.Test.YtcnjkdkkflpgnaaT00
import Derived.Deep.Cut
/- Layer 8: the reference's index, Requests, without; places of numbers in lists. -/
namespace Go.Proofs.Ytcnjkdkkflpgnaa
open Go.RowKit
set_option linter.unusedVariables false

/-- The place of a number in a list, or none. -/
def plI : List Int → Int → Option Nat
  | [], _ => none
  | z :: zs, x => if z = x then some 0 else (plI zs x).map (· + 1)
/-- What index gives. -/
def ixI (zs : List Int) (x : Int) : Int := match plI zs x with
  | some k => (k : Int)
  | none => -1
theorem plI_some : ∀ {zs : List Int} {x : Int} {k : Nat}, k < zs.length → zs[k]?.getD 0 = x → (∀ j, j < k → zs[j]?.getD 0 ≠ x) → plI zs x = some k
  | [], x, k, h, _, _ => by simp at h
  | z :: zs, x, 0, _, h, _ => by
    have h : z = x := h
    show (if z = x then _ else _) = _
    rw [if_pos h]
  | z :: zs, x, k + 1, hk, h, hn => by
    have hz : z ≠ x := hn 0 (by omega)
    have := plI_some (zs := zs) (x := x) (k := k) (by simpa using hk) h (fun j hj => hn (j + 1) (by omega))
    show (if z = x then _ else _) = _
    rw [if_neg hz, this]; rfl
theorem plI_none : ∀ {zs : List Int} {x : Int}, (∀ j, j < zs.length → zs[j]?.getD 0 ≠ x) → plI zs x = none
  | [], x, _ => rfl
  | z :: zs, x, h => by
    have hz : z ≠ x := h 0 (by simp)
    have := plI_none (zs := zs) (x := x) (fun j hj => h (j + 1) (by simpa using hj))
    show (if z = x then _ else _) = _
    rw [if_neg hz, this]; rfl
theorem ixI_at {zs : List Int} {x : Int} {k : Nat} (hk : k < zs.length) (h : zs[k]?.getD 0 = x) (hn : ∀ j, j < k → zs[j]?.getD 0 ≠ x) : ixI zs x = (k : Int) := by unfold ixI; rw [plI_some hk h hn]
theorem ixI_no {zs : List Int} {x : Int} (h : ∀ j, j < zs.length → zs[j]?.getD 0 ≠ x) : ixI zs x = -1 := by unfold ixI; rw [plI_none h]
set_option maxHeartbeats 800000 in
theorem index_any (zs : List Int) (x : Int) (A : Option Addr) (n c : Nat) (w : World) (h : Sl w A n c zs) :
    Calls Try.prog 50 #[.slice A n c, .int .i64 x] w fun e w' => e = .returned (.int .i64 (ixI zs x)) ∧ w = w' := by
  have hbig := h.big
  have HL : Hid (zs.length = n) := h.len
  have HR : Hid (Rd w A zs) := h.rd
  have HF : Hid (∀ k, k < n → zs[k]?.getD 0 = x → (∀ j, j < k → zs[j]?.getD 0 ≠ x) → ixI zs x = (k : Int)) := fun k hk h hn => ixI_at (by rw [HL.out]; exact hk) h hn
  have HN : Hid ((∀ j, j < n → zs[j]?.getD 0 ≠ x) → ixI zs x = -1) := fun h => ixI_no (by rw [HL.out]; exact h)
  clear h
  go_enter Try.func50, Try.ntmps50
  go_wp2
  go_loopw [5] (fun i w' => ∃ k : Nat, k ≤ n ∧ i = .int .i64 (k : Int) ∧ Hid (∀ j, j < k → zs[j]?.getD 0 ≠ x) ∧ w = w') (fun i _ => n - (intOf i).toNat)
  case atStart => exact ⟨0, Nat.zero_le _, by go_num, fun j hj => absurd hj (Nat.not_lt_zero _), rfl⟩
  case round =>
    obtain ⟨k, hk, rfl, HK, rfl⟩ := hrel
    by_cases hlt : k < n
    · have i1 : (k : Int) < (n : Int) := by omega
      obtain ⟨b, off, rfl, hc⟩ := HR.out k (by rw [HL.out]; exact hlt)
      by_cases hx : zs[k]?.getD 0 = x
      · have hb : (zs[k]?.getD 0 == x) = true := by simpa using hx
        have HX := Lib.hid (HF.out k hlt hx HK.out)
        clear hx
        go_wp2
        go_ret
        rw [HX.out]
        exact ⟨rfl, rfl⟩
      · have hb : (zs[k]?.getD 0 == x) = false := by simpa using hx
        have HX : Hid (∀ j, j < k + 1 → zs[j]?.getD 0 ≠ x) := fun j hj => by
          by_cases e : j = k
          · rw [e]; exact hx
          · exact HK.out j (by omega)
        clear hx
        go_wp2
        exact ⟨⟨k + 1, by omega, by go_num, HX.out, trivial⟩, by simp [intOf]; omega⟩
    · have hkn : k = n := by omega
      have HX := Lib.hid (HN.out (by rw [← hkn]; exact HK.out))
      have i1 : ¬ (k : Int) < (n : Int) := by omega
      clear hkn
      go_wp2
      go_ret
      rw [HX.out]
      exact ⟨rfl, rfl⟩
/-- At most most numbers from 0 to a greatest one. -/
def reqB (zs : List Int) (most page : Int) : Bool := allB (fun j => decide (0 ≤ zs[j]?.getD 0) && decide (zs[j]?.getD 0 ≤ page)) zs.length && decide ((zs.length : Int) ≤ most)
theorem reqB_bad {zs : List Int} {most page : Int} {k : Nat} (hk : k < zs.length) (h : zs[k]?.getD 0 < 0 ∨ page < zs[k]?.getD 0) : false = reqB zs most page := by
  unfold reqB
  rw [← allB_bad (p := fun j => decide (0 ≤ zs[j]?.getD 0) && decide (zs[j]?.getD 0 ≤ page)) hk (by
    rw [Bool.and_eq_false_iff, decide_eq_false_iff_not, decide_eq_false_iff_not]
    omega)]
  rfl
theorem reqB_good {zs : List Int} {most page : Int} {b : Bool} (h : ∀ k, k < zs.length → 0 ≤ zs[k]?.getD 0 ∧ zs[k]?.getD 0 ≤ page) (hb : decide ((zs.length : Int) ≤ most) = b) : b = reqB zs most page := by
  unfold reqB
  rw [← allB_good (p := fun j => decide (0 ≤ zs[j]?.getD 0) && decide (zs[j]?.getD 0 ≤ page)) (fun j hj => by
    rw [decide_eq_true (h j hj).1, decide_eq_true (h j hj).2]; rfl), hb]
  rfl
set_option maxHeartbeats 1600000 in
theorem requests_any (zs : List Int) (most page : Int) (A : Option Addr) (n c : Nat) (w : World) (h : Sl w A n c zs) :
    Calls Try.prog 20 #[.slice A n c, .int .i64 most, .int .i64 page] w fun e w' => e = .returned (.bool (reqB zs most page)) ∧ w = w' := by
  have hbig := h.big
  have HL : Hid (zs.length = n) := h.len
  have HR : Hid (Rd w A zs) := h.rd
  have HF : Hid (∀ k, k < n → zs[k]?.getD 0 < 0 ∨ page < zs[k]?.getD 0 → false = reqB zs most page) := fun k hk h => reqB_bad (by rw [HL.out]; exact hk) h
  have HN : Hid (∀ b, (∀ k, k < n → 0 ≤ zs[k]?.getD 0 ∧ zs[k]?.getD 0 ≤ page) → decide ((n : Int) ≤ most) = b → b = reqB zs most page) := fun b h hb => reqB_good (by rw [HL.out]; exact h) (by rw [HL.out]; exact hb)
  clear h
  go_enter Try.func20, Try.ntmps20
  go_wp2
  go_loopw [7] (fun i w' => ∃ k : Nat, k ≤ n ∧ i = .int .i64 (k : Int) ∧ Hid (∀ j, j < k → 0 ≤ zs[j]?.getD 0 ∧ zs[j]?.getD 0 ≤ page) ∧ w = w') (fun i _ => n - (intOf i).toNat)
  case atStart => exact ⟨0, Nat.zero_le _, by go_num, fun j hj => absurd hj (Nat.not_lt_zero _), rfl⟩
  case round =>
    obtain ⟨k, hk, rfl, HK, rfl⟩ := hrel
    by_cases hlt : k < n
    · have i1 : (k : Int) < (n : Int) := by omega
      obtain ⟨b, off, rfl, hc⟩ := HR.out k (by rw [HL.out]; exact hlt)
      have HFK := Lib.hid (HF.out k hlt)
      have HKS : Hid (0 ≤ zs[k]?.getD 0 → zs[k]?.getD 0 ≤ page → ∀ j, j < k + 1 → 0 ≤ zs[j]?.getD 0 ∧ zs[j]?.getD 0 ≤ page) := fun h1 h2 j hj => by
        by_cases e : j = k
        · rw [e]; exact ⟨h1, h2⟩
        · exact HK.out j (by omega)
      generalize zs[k]?.getD 0 = z at *
      by_cases h0 : z < 0
      · have HX := Lib.hid (HFK.out (.inl h0))
        clear HFK HKS
        go_wp2
        go_ret
        exact ⟨bend HX.out, rfl⟩
      · by_cases h1 : page < z
        · have HX := Lib.hid (HFK.out (.inr h1))
          clear HFK HKS
          go_wp2
          go_ret
          exact ⟨bend HX.out, rfl⟩
        · have HX := Lib.hid (HKS.out (by omega) (by omega))
          clear HFK HKS
          go_wp2
          exact ⟨⟨k + 1, by omega, by go_num, HX.out, trivial⟩, by simp [intOf]; omega⟩
    · have hkn : k = n := by omega
      have HX := Lib.hid (HN.out _ (by rw [← hkn]; exact HK.out) rfl)
      have i1 : ¬ (k : Int) < (n : Int) := by omega
      clear hkn
      go_wp2
      go_ret
      exact ⟨bend HX.out, rfl⟩
end Go.Proofs.Ytcnjkdkkflpgnaa
/- Layer 8: parts of slices; append of a slice that is read; the reference's without, start, Moved; the law's list. -/
namespace Go.Proofs.Ytcnjkdkkflpgnaa
open Go.RowKit
set_option linter.unusedVariables false

theorem Try.elemInts : Try.prog.underlying 22 = some (.slice (Try.prog.elem 22)) := by kernel_rfl
theorem Try.sizeInts (W : World) : (sizeOf (Try.prog.elem 22)).run Try.prog W = .ok 1 W := by kernel_rfl
theorem slice_hd (X : Option Addr) (m d : Nat) {k : Nat} (hk : k ≤ m) (hm : m ≤ d) (W : World) : (Instr.slice 22 (.slice X m d) none (some (.int .i64 (k : Int))) none).run Try.prog W = .ok (.slice X k d) W := by
  rw [run_slice_h W 22 X m d Try.elemInts .i64 (k : Int) (by omega) (by omega), Try.sizeInts W]
  cases X <;> simp [Result.andThen, sliced, Addr.add]
/-- Where the rest of a slice begins. -/
def tlA (X : Option Addr) (d k : Nat) : Option Addr := if d = k then X else X.map (·.add k)
theorem slice_tl (X : Option Addr) (m d : Nat) {k : Nat} (hk : k ≤ m) (hm : m ≤ d) (W : World) : (Instr.slice 22 (.slice X m d) (some (.int .i64 (k : Int))) none none).run Try.prog W = .ok (.slice (tlA X d k) (m - k) (d - k)) W := by
  rw [run_slice_l W 22 X m d Try.elemInts .i64 (k : Int) (by omega) (by omega), Try.sizeInts W]
  simp [Result.andThen, sliced, tlA]
theorem Sl.drop {w : World} {n c : Nat} {A : Option Addr} {zs : List Int} (h : Sl w A n c zs) {k : Nat} (hk : k ≤ n) : Sl w (tlA A c k) (n - k) (c - k) (zs.drop k) := by
  have hl := h.len
  have hc := h.cap
  refine ⟨by rw [List.length_drop, hl], by omega, by have := h.big; omega, fun e => ?_, fun j hj => ?_, fun b off e hn => ?_⟩
  · unfold tlA at e
    by_cases hck : c = k
    · omega
    · rw [if_neg hck] at e
      cases A with
      | none => have := h.nil rfl; omega
      | some a => cases e
  · rw [List.length_drop] at hj
    obtain ⟨b, off, e, hcell⟩ := h.rd (k + j) (by omega)
    refine ⟨b, off + k, ?_, ?_⟩
    · unfold tlA
      rw [if_neg (by omega), e]; simp [Addr.add]
    · rw [List.getElem?_drop, Nat.add_assoc]; exact hcell
  · unfold tlA at e
    rw [if_neg (by omega)] at e
    cases A with
    | none => cases e
    | some a =>
      obtain ⟨b', off', e', _⟩ := h.rd 0 (by omega)
      have e' := Option.some.inj e'
      subst e'
      have e : some ((⟨b', off', none⟩ : Addr).add k) = some ⟨b, off, none⟩ := e
      have e1 : ((⟨b', off', none⟩ : Addr).add k).block = b := congrArg Addr.block (Option.some.inj e)
      have e1 : b' = b := by rw [← e1]; unfold Addr.add; split <;> rfl
      rw [← e1]
      exact h.old b' off' rfl (by omega)
theorem apps_law {P : Program} (w : World) {ops : Array Oper} {rest : List Oper} {o : Oper} {a : Act} {Q : Exit → Act → World → Prop} (hgd : o.guard = none) (s x : Operand) (t : TypeId)
    (ho : o.op = .call { callee := .builtin .append, args := #[s, x], argTypes := #[t, t] })
    (B : Nat) (e : TypeId) (i : TypeInfo) (ht : P.underlying t = some (.slice e)) (hI : P.info? e = some i ∧ i.zero = some (.int .i64 0) ∧ i.size = 1 ∧ i.bytes = 8)
    (v : Value) (zs : List Int) (hs : a.eval s = v) (hown : Ow w B e v zs) (A : Option Addr) (m c : Nat) (ys : List Int) (hx : a.eval x = .slice A m c) (hr : Sl w A m c ys) (hn : zs.length + m ≤ 1099511627776) (hB : B ≤ w.heap.size)
    (h : ∀ v' w', Ow w' B e v' (zs ++ ys) → w.grownBy w' v.ownBlock → wpList P ops Q rest (a.put o.dst v') w') : wpList P ops Q (o :: rest) a w := by
  refine app_any w hgd s x t ho B e i ht hI.1 hI.2.1 hI.2.2.1 hI.2.2.2 v zs.length (ints zs) hs hown A m c ys hx hr (by omega) hB fun v' w' h1 h2 => h v' w' ?_ h2
  unfold Ow
  rw [List.length_append, show ints (zs ++ ys) = ints zs ++ ints ys from by simp [ints], hr.len]
  exact h1
set_option maxHeartbeats 1600000 in
/-- At most 201 numbers. -/
theorem list_any (A : Option Addr) (n c : Nat) (zs : List Int) (w : World) (hs : Sl w A n c zs) :
    Calls Try.prog 16 #[.slice A n c] w fun e w' => (∃ v, e = .returned v ∧ Ow w' w.heap.size 3 v (zs.take 201)) ∧ Below w.heap.size w w' := by
  have hcap := hs.cap
  have hbig := hs.big
  have HL : Hid (zs.length = n) := hs.len
  obtain ⟨i0, hi, hz0, hz1, hz2⟩ := info_parts Try.infoInt
  have HI : Hid (Try.prog.info? 3 = some i0 ∧ i0.zero = some (.int .i64 0) ∧ i0.size = 1 ∧ i0.bytes = 8) := ⟨hi, hz0, hz1, hz2⟩
  obtain ⟨k, hk, hkc, hk2, hkm⟩ : ∃ k : Nat, k ≤ n ∧ (if (201 : Int) < (n : Int) then (201 : Int) else (n : Int)) = (k : Int) ∧ k ≤ 201 ∧ k = min n 201 := by
    by_cases h : (201 : Int) < (n : Int)
    · exact ⟨201, by omega, by rw [if_pos h]; rfl, by omega, by omega⟩
    · exact ⟨n, by omega, by rw [if_neg h], by omega, by omega⟩
  have hsl := slice_hd A n c hk hcap w
  have hmin : ∀ W, (Builtin.min_ #[3, 3] 3 #[.int .i64 (n : Int), .int .i64 201]).run Try.prog W = .ok (.int .i64 (k : Int)) W := fun W => by rw [run_min_int2, hkc]
  have HT : Hid (Sl w A k c (zs.take 201)) := by
    have := hs.take hk
    rw [hkm] at this ⊢
    by_cases h : n ≤ 201
    · rw [Nat.min_eq_left h] at this ⊢
      rw [List.take_of_length_le (by rw [HL.out]; exact h)]
      rw [List.take_of_length_le (by rw [HL.out]; exact Nat.le_refl _)] at this
      exact this
    · rw [Nat.min_eq_right (by omega)] at this ⊢
      exact this
  have HK : Hid (k ≤ 201) := hk2
  clear hs hi hz0 hz1 hz2 hkc hkm hk2 hk
  go_enter Try.func16, Try.ntmps16
  go_wp2_with (at_builtin; go_must (refine apps_law _ rfl (.tmp 4) (.tmp 9) 22 rfl w.heap.size 3 i0 Try.underlying22 HI.out (.slice none 0 0) [] rfl (Ow.nil _ _ _) A k c (zs.take 201) rfl HT.out (by have := HK.out; simp; omega) (Nat.le_refl _) ?_); intro v1 w1 hown hg; have HO := Lib.hid hown; have HG := Lib.hid hg; clear hown hg)
  go_ret
  exact ⟨⟨v1, rfl, by have h := HO.out; rw [List.nil_append] at h; exact h⟩, (Below.refl _ _).grown HG.out (Nat.le_refl _) (by simp [Value.ownBlock])⟩
/-- A list without one element. -/
def witho (zs : List Int) (k : Nat) : List Int := zs.take k ++ zs.drop (k + 1)
set_option maxHeartbeats 1600000 in
theorem without_any (A : Option Addr) (n c k : Nat) (zs : List Int) (w : World) (hs : Sl w A n c zs) (hk : k < n) (hn : n ≤ 1000000) :
    Calls Try.prog 52 #[.slice A n c, .int .i64 (k : Int)] w fun e w' => (∃ v, e = .returned v ∧ Ow w' w.heap.size 3 v (witho zs k)) ∧ Below w.heap.size w w' := by
  have hcap := hs.cap
  have HL : Hid (zs.length = n) := hs.len
  obtain ⟨i0, hi, hz0, hz1, hz2⟩ := info_parts Try.infoInt
  have HI : Hid (Try.prog.info? 3 = some i0 ∧ i0.zero = some (.int .i64 0) ∧ i0.size = 1 ∧ i0.bytes = 8) := ⟨hi, hz0, hz1, hz2⟩
  have hsl := fun W => slice_hd A n c (k := k) (by omega) hcap W
  have hst : ∀ W, (Instr.slice 22 (.slice A n c) (some (.int .i64 ((k : Int) + 1))) none none).run Try.prog W = .ok (.slice (tlA A c (k + 1)) (n - (k + 1)) (c - (k + 1))) W := fun W => slice_tl A n c (k := k + 1) (by omega) hcap W
  have HT : Hid (Sl w A k c (zs.take k)) := hs.take (by omega)
  have HD : Hid (∀ W, Below w.heap.size w W → Sl W (tlA A c (k + 1)) (n - (k + 1)) (c - (k + 1)) (zs.drop (k + 1))) := fun W hW => (hs.below hW (Nat.le_refl _)).drop (by omega)
  have HK : Hid (k < n ∧ n ≤ 1000000) := ⟨hk, hn⟩
  clear hs hi hz0 hz1 hz2
  go_enter Try.func52, Try.ntmps52
  go_upto_region 3 with (at_builtin; go_must (refine apps_law _ rfl (.tmp 6) (.tmp 9) 22 rfl w.heap.size 3 i0 Try.underlying22 HI.out (.slice none 0 0) [] rfl (Ow.nil _ _ _) A k c (zs.take k) rfl HT.out (by have := HK.out; simp; omega) (Nat.le_refl _) ?_); intro v1 w1 hown hg; have HO := Lib.hid hown; have HB1 := Lib.hid ((Below.refl w.heap.size w).grown hg (Nat.le_refl _) (by simp [Value.ownBlock])); obtain ⟨A1, c1, rfl, _⟩ := hown.sl_len (n := k) (by rw [List.nil_append, List.length_take, HL.out]; omega) (by omega); clear hown hg)
  go_wp2_with (at_builtin; go_must (refine apps_law _ rfl (.tmp 11) (.tmp 15) 22 rfl w.heap.size 3 i0 Try.underlying22 HI.out _ ([] ++ zs.take k) rfl HO.out (tlA A c (k + 1)) (n - (k + 1)) (c - (k + 1)) (zs.drop (k + 1)) rfl (HD.out _ HB1.out) (by have := HK.out; have := HL.out; simp; omega) HB1.out.size ?_); intro v2 w2 hown2 hg2; have HO2 := Lib.hid hown2; have HG2 := Lib.hid hg2; clear hown2 hg2)
  go_ret
  exact ⟨⟨v2, rfl, by have h := HO2.out; rw [List.nil_append] at h; exact h⟩, HB1.out.grown HG2.out HB1.out.size (fun k e => (HO.out.lt e).1)⟩
end Go.Proofs.Ytcnjkdkkflpgnaa
/- Layer 8: the reference's start, Moved, Order, Turned. -/
namespace Go.Proofs.Ytcnjkdkkflpgnaa
open Go.RowKit
set_option linter.unusedVariables false

abbrev atI (zs : List Int) (k : Nat) : Int := zs[k]?.getD 0
def startL (m : Nat) : List Int := (List.range m).map fun (i : Nat) => (i : Int)
theorem startL_succ (m : Nat) : startL (m + 1) = startL m ++ [(m : Int)] := by unfold startL; rw [List.range_succ, List.map_append]; rfl
theorem startL_len (m : Nat) : (startL m).length = m := by simp [startL]
set_option maxHeartbeats 1600000 in
theorem startR_any (m : Nat) (w : World) (hm : m ≤ 1000000) :
    Calls Try.prog 64 #[.int .i64 (m : Int)] w fun e w' => (∃ v, e = .returned v ∧ Ow w' w.heap.size 3 v (startL m)) ∧ Below w.heap.size w w' := by
  obtain ⟨i0, hi, hz0, hz1, hz2⟩ := info_parts Try.infoInt
  have HI : Hid (Try.prog.info? 3 = some i0 ∧ i0.zero = some (.int .i64 0) ∧ i0.size = 1 ∧ i0.bytes = 8) := ⟨hi, hz0, hz1, hz2⟩
  clear hi hz0 hz1 hz2
  go_enter Try.func64, Try.ntmps64
  go_wp2
  go_loopw [3, 4] (fun v i w' => ∃ k : Nat, k ≤ m ∧ i = .int .i64 (k : Int) ∧ Hid (Ow w' w.heap.size 3 v (startL k)) ∧ Hid (Below w.heap.size w w')) (fun _ i _ => m - (intOf i).toNat)
  case atStart => exact ⟨0, Nat.zero_le _, by go_num, Ow.nil _ _ _, Below.refl _ _⟩
  case round =>
    obtain ⟨k, hk, rfl, HO, HB⟩ := hrel
    obtain ⟨wo, rfl⟩ : ∃ wo : World, wo = wr := ⟨_, rfl⟩
    by_cases hlt : k < m
    · have i1 : (k : Int) < (m : Int) := by omega
      have HLN : Hid ((startL k).length ≤ 1099511627776) := by rw [Hid, startL_len]; omega
      have HBZ : Hid (w.heap.size ≤ wo.heap.size) := HB.out.size
      go_wp2_with (at_builtin; go_must (refine push_law _ rfl (.tmp 10) (.tmp 12) 22 rfl w.heap.size 3 i0 Try.underlying22 HI.out _ (startL k) (k : Int) rfl rfl HO.out HLN.out HBZ.out ?_); intro v2 w2 hv2 hg2 _; have HV2 := Lib.hid hv2; have HG2 := Lib.hid hg2; clear hv2 hg2)
      exact ⟨⟨k + 1, by omega, by go_num, by rw [startL_succ]; exact HV2.out, HB.out.grown HG2.out HB.out.size (fun j e => (HO.out.lt e).1)⟩, by simp [intOf]; omega⟩
    · have hkm : k = m := by omega
      subst hkm
      have i1 : ¬ (k : Int) < (k : Int) := by omega
      go_wp2
      go_ret
      exact ⟨⟨_, rfl, HO.out⟩, HB.out⟩
/-- After the roll at one position has been moved to another one ahead of it. -/
def movedL (zs : List Int) (p q : Nat) : List Int := (witho zs p).take q ++ [atI zs p] ++ (witho zs p).drop q
theorem witho_len {zs : List Int} {n k : Nat} (hl : zs.length = n) (hk : k < n) : (witho zs k).length = n - 1 := by
  unfold witho
  rw [List.length_append, List.length_take, List.length_drop]; omega
set_option maxHeartbeats 1600000 in
theorem movedR_any (A : Option Addr) (n c p q : Nat) (zs : List Int) (w : World) (hs : Sl w A n c zs) (hp : p < n) (hq : q ≤ p) (hn : n ≤ 1000000) :
    Calls Try.prog 65 #[.slice A n c, .int .i64 (p : Int), .int .i64 (q : Int)] w fun e w' => (∃ v, e = .returned v ∧ Ow w' w.heap.size 3 v (movedL zs p q)) ∧ Below w.heap.size w w' := by
  obtain ⟨i0, hi, hz0, hz1, hz2⟩ := info_parts Try.infoInt
  have HI : Hid (Try.prog.info? 3 = some i0 ∧ i0.zero = some (.int .i64 0) ∧ i0.size = 1 ∧ i0.bytes = 8) := ⟨hi, hz0, hz1, hz2⟩
  have HWI := Lib.hid (without_any A n c p zs w hs hp hn)
  obtain ⟨b, off, rfl, c0⟩ := hs.at_ hp
  have hbig := hs.big
  have i1 : (p : Int) < (n : Int) := by omega
  have HWL : Hid ((witho zs p).length = n - 1) := witho_len hs.len hp
  obtain ⟨x, hx⟩ : ∃ x, x = zs[p]?.getD 0 := ⟨_, rfl⟩
  rw [← hx] at c0
  have HX : Hid (atI zs p = x) := hx.symm
  have HK : Hid (p < n ∧ q ≤ p ∧ n ≤ 1000000) := ⟨hp, hq, hn⟩
  clear hs hi hz0 hz1 hz2 hx
  go_enter Try.func65, Try.ntmps65
  go_upto_region 4 with (go_at_call 52; refine HWI.out.mono ?_; rintro e w1 ⟨⟨v1, rfl, ho1⟩, hb1⟩; obtain ⟨A1, c1, rfl, hs1⟩ := ho1.sl_len (n := n - 1) HWL.out (by omega); have HO1 := Lib.hid ho1; have HS1 := Lib.hid hs1; have HB1 := Lib.hid hb1; clear ho1 hs1 hb1 c0)
  have hcap := HS1.out.cap
  have hsl := fun W => slice_hd A1 (n - 1) c1 (k := q) (by omega) hcap W
  have hst := fun W => slice_tl A1 (n - 1) c1 (k := q) (by omega) hcap W
  have HT : Hid (Sl w1 A1 q c1 ((witho zs p).take q)) := HS1.out.take (by have := HK.out; omega)
  have HD : Hid (∀ W, Below w1.heap.size w1 W → Sl W (tlA A1 c1 q) (n - 1 - q) (c1 - q) ((witho zs p).drop q)) := fun W hW => (HS1.out.below hW (Nat.le_refl _)).drop (by have := HK.out; omega)
  go_upto_region 5 with (at_builtin; go_must (refine apps_law _ rfl (.tmp 17) (.tmp 20) 22 rfl w1.heap.size 3 i0 Try.underlying22 HI.out (.slice none 0 0) [] rfl (Ow.nil _ _ _) A1 q c1 ((witho zs p).take q) rfl HT.out (by have := HK.out; simp; omega) (Nat.le_refl _) ?_); intro v2 w2 hown hg; have HO2 := Lib.hid hown; have HB2 := Lib.hid ((Below.refl w1.heap.size w1).grown hg (Nat.le_refl _) (by simp [Value.ownBlock])); clear hown hg)
  have HL2 : Hid (([] ++ (witho zs p).take q).length ≤ 1099511627776) := by rw [Hid, List.nil_append, List.length_take]; have := HK.out; omega
  have HZ2 : Hid (w1.heap.size ≤ w2.heap.size) := HB2.out.size
  go_upto_region 6 with (at_builtin; go_must (refine push_law _ rfl (.tmp 22) (.tmp 24) 22 rfl w1.heap.size 3 i0 Try.underlying22 HI.out _ ([] ++ (witho zs p).take q) x rfl rfl HO2.out HL2.out HZ2.out ?_); intro v3 w3 hown hg _; have HO3 := Lib.hid hown; have HB3 := Lib.hid (HB2.out.grown hg HB2.out.size (fun k e => (HO2.out.lt e).1)); clear hown hg)
  have HZ3 : Hid (w1.heap.size ≤ w3.heap.size) := HB3.out.size
  go_wp2_with (at_builtin; go_must (refine apps_law _ rfl (.tmp 26) (.tmp 29) 22 rfl w1.heap.size 3 i0 Try.underlying22 HI.out _ ([] ++ (witho zs p).take q ++ [x]) rfl HO3.out (tlA A1 c1 q) (n - 1 - q) (c1 - q) ((witho zs p).drop q) rfl (HD.out _ HB3.out) (by have := HK.out; simp; omega) HZ3.out ?_); intro v4 w4 hown hg; have HO4 := Lib.hid hown; have HB4 := Lib.hid (HB3.out.grown hg HB3.out.size (fun k e => (HO3.out.lt e).1)); clear hown hg)
  go_ret
  refine ⟨⟨v4, rfl, ?_⟩, HB1.out.trans (HB4.out.mono HB1.out.size)⟩
  have h := HO4.out
  rw [List.nil_append] at h
  unfold movedL
  rw [HX.out]
  exact h.base HB1.out.size
/-- One pair in the other order. -/
def invB (a b : List Int) (i k : Nat) : Bool := decide (ixI b (atI a k) < ixI b (atI a i))
def rowT (a b : List Int) (i : Nat) : Nat → Nat
  | 0 => 0
  | k + 1 => rowT a b i k + if i < k ∧ invB a b i k = true then 1 else 0
def totT (a b : List Int) (n : Nat) : Nat → Nat
  | 0 => 0
  | i + 1 => totT a b n i + rowT a b i n
def turnN (a b : List Int) : Nat := totT a b a.length a.length
theorem rowT_zero (a b : List Int) (i : Nat) : ∀ k, k ≤ i + 1 → rowT a b i k = 0
  | 0, _ => rfl
  | k + 1, h => by
    unfold rowT
    rw [rowT_zero a b i k (by omega), if_neg (by omega)]
theorem rowT_le (a b : List Int) (i : Nat) : ∀ k, rowT a b i k ≤ k
  | 0 => Nat.le_refl _
  | k + 1 => by
    unfold rowT
    have := rowT_le a b i k
    split <;> omega
theorem totT_le (a b : List Int) (n : Nat) : ∀ i, totT a b n i ≤ i * n
  | 0 => Nat.zero_le _
  | i + 1 => by
    unfold totT
    have := totT_le a b n i
    have := rowT_le a b i n
    rw [Nat.succ_mul]; omega
set_option maxRecDepth 100000 in
set_option maxHeartbeats 3200000 in
theorem turnedR_any (xs ys : List Int) (A B : Option Addr) (n c m d : Nat) (w : World) (hx : Sl w A n c xs) (hy : Sl w B m d ys) (hn : n ≤ 1000) :
    Calls Try.prog 38 #[.slice A n c, .slice B m d] w fun e w' => e = .returned (.int .i64 (turnN xs ys : Int)) ∧ Dr w w' := by
  have HL : Hid (xs.length = n) := hx.len
  have HX := Lib.hid hx
  have HY := Lib.hid hy
  have HBD : Hid (∀ i k, i < n → k ≤ n → totT xs ys n i + rowT xs ys i k ≤ 1000000) := fun i k hi hk => by
    have h1 := totT_le xs ys n i
    have h2 := rowT_le xs ys i k
    have h3 := Nat.mul_le_mul (show i + 1 ≤ 1000 by omega) hn
    rw [Nat.succ_mul] at h3
    omega
  clear hx hy
  go_enter Try.func38, Try.ntmps38
  go_wp2
  go_loopw [5, 6] (fun s i w' => ∃ p : Nat, p ≤ n ∧ i = .int .i64 (p : Int) ∧ s = .int .i64 (totT xs ys n p : Int) ∧ Hid (Dr w w')) (fun _ i _ => n - (intOf i).toNat)
  case atStart => exact ⟨0, Nat.zero_le _, by go_num, rfl, Dr.refl _⟩
  case round =>
    obtain ⟨p, hp, rfl, rfl, HD⟩ := hrel
    obtain ⟨wo, rfl⟩ : ∃ wo : World, wo = wr := ⟨_, rfl⟩
    by_cases hlt : p < n
    · have i1 : (p : Int) < (n : Int) := by omega
      go_wp2
      go_loopw [5, 7] (fun s k w' => ∃ q : Nat, p + 1 ≤ q ∧ q ≤ n ∧ k = .int .i64 (q : Int) ∧ s = .int .i64 ((totT xs ys n p + rowT xs ys p q : Nat) : Int) ∧ Hid (Dr w w')) (fun _ k _ => n - (intOf k).toNat)
      case atStart => exact ⟨p + 1, Nat.le_refl _, by omega, by go_num, by rw [rowT_zero xs ys p (p + 1) (Nat.le_refl _)]; rfl, HD.out⟩
      case round =>
        obtain ⟨q, hpq, hq, rfl, rfl, HE⟩ := hrel
        obtain ⟨wi, rfl⟩ : ∃ wo : World, wo = wr := ⟨_, rfl⟩
        clear HD
        by_cases hlq : q < n
        · have i2 : (q : Int) < (n : Int) := by omega
          have hxi := HX.out.dr HE.out
          have HXI := Lib.hid hxi
          obtain ⟨b, off, rfl, hcc⟩ := hxi.cells (by omega)
          have c0 := hcc p hlt
          have c1 := hcc q hlq
          have HSU : Hid (rowT xs ys p (q + 1) = rowT xs ys p q + if p < q ∧ invB xs ys p q = true then 1 else 0) := rfl
          have hb1 := HBD.out p q hlt hq
          have HIN : Hid (invB xs ys p q = decide (ixI ys (xs[q]?.getD 0) < ixI ys (xs[p]?.getD 0))) := rfl
          generalize xs[p]?.getD 0 = z1 at *
          generalize xs[q]?.getD 0 = z2 at *
          have HC1 : Hid (∀ k, Calls Try.prog 50 #[.slice B m d, .int .i64 z1] (wi.drewN k) fun e w' => e = .returned (.int .i64 (ixI ys z1)) ∧ wi.drewN k = w') := fun k => index_any ys z1 B m d (wi.drewN k) ((HY.out.dr HE.out).dr ⟨k, rfl⟩)
          have HC2 : Hid (∀ k, Calls Try.prog 50 #[.slice B m d, .int .i64 z2] (wi.drewN k) fun e w' => e = .returned (.int .i64 (ixI ys z2)) ∧ wi.drewN k = w') := fun k => index_any ys z2 B m d (wi.drewN k) ((HY.out.dr HE.out).dr ⟨k, rfl⟩)
          by_cases hv : ixI ys z2 < ixI ys z1
          · have HST : Hid (((totT xs ys n p + rowT xs ys p q : Nat) : Int) + 1 = ((totT xs ys n p + rowT xs ys p (q + 1) : Nat) : Int)) := by
              rw [Hid, HSU.out, HIN.out, decide_eq_true hv, if_pos ⟨by omega, rfl⟩]; omega
            generalize totT xs ys n p + rowT xs ys p q = s at *
            have v1 : IntKind.i64.wrap ((s : Int) + 1) = (s : Int) + 1 := IntWalk.i64_in _ (by omega)
            generalize ixI ys z1 = r1 at *
            generalize ixI ys z2 = r2 at *
            clear HSU HIN hcc
            go_wp2
            go_quiet (first | (go_at_call 50; (with_reducible exact quiet_same (HC1.out _))) | (go_at_call 50; (with_reducible exact quiet_same (HC2.out _))))
            go_wp2
            exact ⟨⟨q + 1, by omega, by omega, by go_num, (by show Value.int .i64 ((s : Int) + 1) = .int .i64 ((totT xs ys n p + rowT xs ys p (q + 1) : Nat) : Int); rw [HST.out]), HE.out.more _⟩, by simp [intOf]; omega⟩
          · have HST : Hid (totT xs ys n p + rowT xs ys p q = totT xs ys n p + rowT xs ys p (q + 1)) := by
              rw [Hid, HSU.out, HIN.out, decide_eq_false hv, if_neg (by simp)]; rfl
            generalize totT xs ys n p + rowT xs ys p q = s at *
            generalize ixI ys z1 = r1 at *
            generalize ixI ys z2 = r2 at *
            clear HSU HIN hcc
            go_wp2
            go_quiet (first | (go_at_call 50; (with_reducible exact quiet_same (HC1.out _))) | (go_at_call 50; (with_reducible exact quiet_same (HC2.out _))))
            go_wp2
            exact ⟨⟨q + 1, by omega, by omega, by go_num, (by show Value.int .i64 (s : Int) = .int .i64 ((totT xs ys n p + rowT xs ys p (q + 1) : Nat) : Int); rw [HST.out]), HE.out.more _⟩, by simp [intOf]; omega⟩
        · have hqn : q = n := by omega
          have i2 : ¬ (q : Int) < (n : Int) := by omega
          go_wp2
          exact ⟨⟨p + 1, by omega, by go_num, by rw [hqn]; rfl, HE.out⟩, by simp [intOf]; omega⟩
    · have hpn : p = n := by omega
      have i1 : ¬ (p : Int) < (n : Int) := by omega
      have HT : Hid (turnN xs ys = totT xs ys n p) := by unfold turnN; rw [HL.out, hpn]; rfl
      go_wp2
      go_ret
      rw [HT.out, hpn]
      exact ⟨rfl, HD.out⟩
end Go.Proofs.Ytcnjkdkkflpgnaa
/- Layer 8: the reference's Order. -/
namespace Go.Proofs.Ytcnjkdkkflpgnaa
open Go.RowKit
set_option linter.unusedVariables false

/-- What is asked of one place of an order. -/
def ordP (zs : List Int) (m : Int) (k : Nat) : Bool := decide (0 ≤ atI zs k) && decide (atI zs k < m) && decide (ixI (zs.take k) (atI zs k) < 0)
/-- The list is an order of m rolls. -/
def ordB (zs : List Int) (m : Int) : Bool := allB (ordP zs m) zs.length && decide ((zs.length : Int) = m)
theorem ordB_bad {zs : List Int} {m : Int} {k : Nat} (hk : k < zs.length) (h : ordP zs m k = false) : false = ordB zs m := by
  unfold ordB
  rw [← allB_bad hk h]; rfl
theorem ordB_good {zs : List Int} {m : Int} {b : Bool} (h : ∀ k, k < zs.length → ordP zs m k = true) (hb : decide ((zs.length : Int) = m) = b) : b = ordB zs m := by
  unfold ordB
  rw [← allB_good h, hb]; rfl
set_option maxRecDepth 100000 in
set_option maxHeartbeats 3200000 in
theorem orderR_any (zs : List Int) (m : Int) (A : Option Addr) (n c : Nat) (w : World) (h : Sl w A n c zs) :
    Calls Try.prog 37 #[.slice A n c, .int .i64 m] w fun e w' => e = .returned (.bool (ordB zs m)) ∧ Dr w w' := by
  have hbig := h.big
  have hcap := h.cap
  have HL : Hid (zs.length = n) := h.len
  have HS := Lib.hid h
  have HF : Hid (∀ k, k < n → ordP zs m k = false → false = ordB zs m) := fun k hk h => ordB_bad (by rw [HL.out]; exact hk) h
  have HN : Hid (∀ b, (∀ k, k < n → ordP zs m k = true) → decide ((n : Int) = m) = b → b = ordB zs m) := fun b h hb => ordB_good (by rw [HL.out]; exact h) (by rw [HL.out]; exact hb)
  clear h
  go_enter Try.func37, Try.ntmps37
  go_wp2
  go_loopw [5] (fun i w' => ∃ k : Nat, k ≤ n ∧ i = .int .i64 (k : Int) ∧ Hid (∀ j, j < k → ordP zs m j = true) ∧ Hid (Dr w w')) (fun i _ => n - (intOf i).toNat)
  case atStart => exact ⟨0, Nat.zero_le _, by go_num, fun j hj => absurd hj (Nat.not_lt_zero _), Dr.refl _⟩
  case round =>
    obtain ⟨k, hk, rfl, HK, HD⟩ := hrel
    obtain ⟨wo, rfl⟩ : ∃ wo : World, wo = wr := ⟨_, rfl⟩
    by_cases hlt : k < n
    · have i1 : (k : Int) < (n : Int) := by omega
      have hso := HS.out.dr HD.out
      have HTK : Hid (∀ j, Sl (wo.drewN j) A k c (zs.take k)) := fun j => (hso.dr ⟨j, rfl⟩).take (by omega)
      obtain ⟨b, off, rfl, hc⟩ := hso.at_ hlt
      have hsl := fun W => slice_hd (some ⟨b, off, none⟩) n c (k := k) (by omega) hcap W
      have HO : Hid (ordP zs m k = (decide (0 ≤ zs[k]?.getD 0) && decide (zs[k]?.getD 0 < m) && decide (ixI (zs.take k) (zs[k]?.getD 0) < 0))) := rfl
      have HFK := Lib.hid (HF.out k hlt)
      have HKS : Hid (ordP zs m k = true → ∀ j, j < k + 1 → ordP zs m j = true) := fun h j hj => by
        by_cases e : j = k
        · rw [e]; exact h
        · exact HK.out j (by omega)
      generalize zs[k]?.getD 0 = z at *
      have HIX : Hid (∀ j, Calls Try.prog 50 #[.slice (some ⟨b, off, none⟩) k c, .int .i64 z] (wo.drewN j) fun e w' => e = .returned (.int .i64 (ixI (zs.take k) z)) ∧ wo.drewN j = w') := fun j => index_any (zs.take k) z _ k c (wo.drewN j) (HTK.out j)
      generalize ixI (zs.take k) z = r at *
      clear hso
      by_cases h0 : z < 0
      · have HX := Lib.hid (HFK.out (by rw [HO.out, decide_eq_false (show ¬ 0 ≤ z by omega)]; rfl))
        have d0 : decide (z < 0) = true := decide_eq_true h0
        clear HFK HKS HO h0
        go_wp2
        go_quiet (fail)
        go_wp2
        go_ret
        exact ⟨bend HX.out, HD.out.more _⟩
      · have d0 : decide (z < 0) = false := decide_eq_false h0
        by_cases h1 : m ≤ z
        · have HX := Lib.hid (HFK.out (by rw [HO.out, decide_eq_false (show ¬ z < m by omega), Bool.and_false]; rfl))
          have d1 : decide (m ≤ z) = true := decide_eq_true h1
          clear HFK HKS HO h0 h1
          go_wp2
          go_quiet (fail)
          go_wp2
          go_ret
          exact ⟨bend HX.out, HD.out.more _⟩
        · have d1 : decide (m ≤ z) = false := decide_eq_false h1
          by_cases h2 : 0 ≤ r
          · have HX := Lib.hid (HFK.out (by rw [HO.out, decide_eq_false (show ¬ r < 0 by omega), Bool.and_false]))
            have d2 : decide (0 ≤ r) = true := decide_eq_true h2
            clear HFK HKS HO h0 h1 h2
            go_wp2
            go_quiet ((go_at_call 50; (with_reducible exact quiet_same (HIX.out _))))
            go_wp2
            go_ret
            exact ⟨bend HX.out, HD.out.more _⟩
          · have HX := Lib.hid (HKS.out (by rw [HO.out, decide_eq_true (show 0 ≤ z by omega), decide_eq_true (show z < m by omega), decide_eq_true (show r < 0 by omega)]; rfl))
            have d2 : decide (0 ≤ r) = false := decide_eq_false h2
            clear HFK HKS HO h0 h1 h2
            go_wp2
            go_quiet ((go_at_call 50; (with_reducible exact quiet_same (HIX.out _))))
            go_wp2
            exact ⟨⟨k + 1, by omega, by go_num, HX.out, HD.out.more _⟩, by simp [intOf]; omega⟩
    · have hkn : k = n := by omega
      have HX := Lib.hid (HN.out _ (by rw [← hkn]; exact HK.out) rfl)
      have i1 : ¬ (k : Int) < (n : Int) := by omega
      clear hkn
      go_wp2
      go_ret
      exact ⟨bend HX.out, HD.out⟩
end Go.Proofs.Ytcnjkdkkflpgnaa
