import Derived.Test.YtfeohcknopdamaaT14
import Derived.Test.YtfeohcknopdamaaT09
import Derived.Deep.Cut
/- Layer 10: settings, their positions, adjacent settings; plain mathematics. -/
namespace Go.Proofs.Ytfeohcknopdamaa
set_option linter.unusedVariables false

/-- All sizes are at least 1. -/
theorem allD_cons {z : Int} {zs : List Int} : allD (z :: zs) = (dialB z && allD zs) := by
  rw [Bool.eq_iff_iff, Bool.and_eq_true]
  unfold allD
  rw [allB_iff, allB_iff]
  constructor
  · intro h
    refine ⟨h 0 (by simp), fun j hj => ?_⟩
    exact h (j + 1) (by simpa using hj)
  · rintro ⟨h0, h⟩ j hj
    match j, hj with
    | 0, _ => exact h0
    | j + 1, hj => exact h j (by simpa using hj)
theorem dialB_nat {z : Int} (h : dialB z = true) : ∃ x : Nat, z = (x : Int) ∧ 1 ≤ x ∧ x ≤ 10 := by
  unfold dialB at h
  rw [Bool.and_eq_true, decide_eq_true_iff, decide_eq_true_iff] at h
  exact ⟨z.toNat, by omega, by omega, by omega⟩
theorem prodL_one : ∀ {zs : List Int}, allD zs = true → 1 ≤ prodL zs
  | [], _ => Nat.le_refl _
  | z :: zs, h => by
    rw [allD_cons, Bool.and_eq_true] at h
    obtain ⟨x, rfl, h1, h2⟩ := dialB_nat h.1
    rw [prodL, Int.toNat_natCast]
    exact Nat.mul_pos h1 (prodL_one h.2)
/-- A setting of these dials. -/
def inB (z x : Int) : Bool := decide (0 ≤ x) && decide (x < z)
def settB (zs xs : List Int) : Bool := decide (xs.length = zs.length) && allB (fun j => inB (atI zs j) (atI xs j)) xs.length
/-- The position of a setting. -/
def stP : List Int → List Int → Nat
  | z :: zs, x :: xs => x.toNat * prodL zs + dirN (prodL zs) (decide (x.toNat % 2 = 1)) (stP zs xs)
  | _, _ => 0
theorem dirN_dirN {L x : Nat} {t : Bool} (h : x < L) : dirN L t (dirN L t x) = x := by
  unfold dirN
  cases t
  · rfl
  · rw [if_pos rfl, if_pos rfl]; omega
theorem settB_cons {z x : Int} {zs xs : List Int} : settB (z :: zs) (x :: xs) = (inB z x && settB zs xs) := by
  rw [Bool.eq_iff_iff]
  unfold settB
  simp only [Bool.and_eq_true, allB_iff, decide_eq_true_iff, List.length_cons]
  constructor
  · rintro ⟨h1, h2⟩
    exact ⟨h2 0 (by omega), by omega, fun j hj => h2 (j + 1) (by omega)⟩
  · rintro ⟨h0, h1, h2⟩
    refine ⟨by omega, fun j hj => ?_⟩
    match j, hj with
    | 0, _ => exact h0
    | j + 1, hj => exact h2 j (by omega)
theorem settB_nil : settB [] [] = true := rfl
theorem settB_len {zs xs : List Int} (h : settB zs xs = true) : xs.length = zs.length := by
  unfold settB at h
  rw [Bool.and_eq_true, decide_eq_true_iff] at h
  exact h.1
theorem setF_sett : ∀ (zs : List Int) (a : Nat), allD zs = true → a < prodL zs → settB zs (setF zs a) = true
  | [], _, _, _ => rfl
  | z :: zs, a, h, ha => by
    rw [allD_cons, Bool.and_eq_true] at h
    obtain ⟨x, rfl, h1, h2⟩ := dialB_nat h.1
    have hp := prodL_one h.2
    rw [prodL, Int.toNat_natCast] at ha
    rw [setF, settB_cons, Bool.and_eq_true]
    refine ⟨?_, setF_sett zs _ h.2 (dirN_lt (Nat.mod_lt _ hp))⟩
    have : a / prodL zs < x := (Nat.div_lt_iff_lt_mul hp).2 ha
    generalize a / prodL zs = q at *
    unfold inB
    rw [Bool.and_eq_true, decide_eq_true_iff, decide_eq_true_iff]
    omega
theorem stP_setF : ∀ (zs : List Int) (a : Nat), allD zs = true → a < prodL zs → stP zs (setF zs a) = a
  | [], a, _, ha => by rw [prodL] at ha; show 0 = a; omega
  | z :: zs, a, h, ha => by
    rw [allD_cons, Bool.and_eq_true] at h
    have hp := prodL_one h.2
    rw [setF, stP, stP_setF zs _ h.2 (dirN_lt (Nat.mod_lt _ hp)), Int.toNat_natCast, dirN_dirN (Nat.mod_lt _ hp)]
    have := Nat.div_add_mod a (prodL zs)
    rw [Nat.mul_comm] at this
    exact this
theorem stP_lt : ∀ (zs xs : List Int), allD zs = true → settB zs xs = true → stP zs xs < prodL zs
  | [], [], _, _ => Nat.one_pos
  | [], x :: xs, _, h => by have := settB_len h; simp at this
  | z :: zs, [], _, h => by have := settB_len h; simp at this
  | z :: zs, x :: xs, h, hs => by
    rw [allD_cons, Bool.and_eq_true] at h
    rw [settB_cons, Bool.and_eq_true] at hs
    obtain ⟨y, rfl, h1, h2⟩ := dialB_nat h.1
    have h0 := hs.1
    unfold inB at h0
    rw [Bool.and_eq_true, decide_eq_true_iff, decide_eq_true_iff] at h0
    have hi := dirN_lt (t := decide (x.toNat % 2 = 1)) (stP_lt zs xs h.2 hs.2)
    rw [stP, prodL, Int.toNat_natCast]
    have hx : x.toNat + 1 ≤ y := by omega
    have := Nat.mul_le_mul_right (prodL zs) hx
    rw [Nat.add_mul, Nat.one_mul] at this
    omega
/-- How far two lists are apart. -/
def far : List Int → List Int → Nat
  | x :: xs, y :: ys => (x - y).natAbs + far xs ys
  | _, _ => 0
theorem far_self : ∀ xs, far xs xs = 0
  | [] => rfl
  | x :: xs => by rw [far, far_self xs]; omega
theorem far_comm : ∀ xs ys, far xs ys = far ys xs
  | [], [] => rfl
  | [], _ :: _ => rfl
  | _ :: _, [] => rfl
  | x :: xs, y :: ys => by rw [far, far, far_comm xs ys]; omega
theorem setF_step : ∀ (zs : List Int) (a : Nat), allD zs = true → a + 1 < prodL zs → far (setF zs a) (setF zs (a + 1)) = 1
  | [], a, _, ha => by rw [prodL] at ha; omega
  | z :: zs, a, h, ha => by
    rw [allD_cons, Bool.and_eq_true] at h
    have hp := prodL_one h.2
    have ih := fun b => setF_step zs b h.2
    rw [setF, setF, far]
    generalize prodL zs = P at *
    have h1 := Nat.div_add_mod a P
    have hr := Nat.mod_lt a hp
    by_cases hc : a % P + 1 < P
    · have e1 : (a + 1) / P = a / P := by
        rw [show a + 1 = P * (a / P) + (a % P + 1) by omega, Nat.mul_add_div hp, Nat.div_eq_of_lt hc, Nat.add_zero]
      have e2 : (a + 1) % P = a % P + 1 := by
        rw [show a + 1 = P * (a / P) + (a % P + 1) by omega, Nat.mul_add_mod, Nat.mod_eq_of_lt hc]
      rw [e1, e2]
      generalize a / P = q at *
      generalize a % P = r at *
      have h0 : ((q : Int) - (q : Int)).natAbs = 0 := by omega
      rw [h0, Nat.zero_add]
      rcases hd : decide (q % 2 = 1) with _ | _
      · show far (setF zs r) (setF zs (r + 1)) = 1
        exact ih r hc
      · show far (setF zs (P - 1 - r)) (setF zs (P - 1 - (r + 1))) = 1
        rw [far_comm, show P - 1 - r = P - 1 - (r + 1) + 1 by omega]
        exact ih _ (by omega)
    · have e1 : (a + 1) / P = a / P + 1 := by
        rw [show a + 1 = P * (a / P + 1) by rw [Nat.mul_add]; omega, Nat.mul_div_cancel_left _ hp]
      have e2 : (a + 1) % P = 0 := by
        rw [show a + 1 = P * (a / P + 1) by rw [Nat.mul_add]; omega, Nat.mul_mod_right]
      have e3 : a % P = P - 1 := by omega
      rw [e1, e2, e3]
      generalize a / P = q at *
      have h0 : ((q : Int) - ((q + 1 : Nat) : Int)).natAbs = 1 := by omega
      rw [h0]
      have : dirN P (decide (q % 2 = 1)) (P - 1) = dirN P (decide ((q + 1) % 2 = 1)) 0 := by
        unfold dirN
        by_cases hq : q % 2 = 1
        · rw [decide_eq_true hq, decide_eq_false (by omega), if_pos rfl, if_neg (by decide)]; omega
        · rw [decide_eq_false hq, decide_eq_true (by omega), if_pos rfl, if_neg (by decide)]; omega
      rw [this, far_self]
/-- The sum over the first k places. -/
def farK (xs ys : List Int) : Nat → Nat
  | 0 => 0
  | k + 1 => farK xs ys k + (atI xs k - atI ys k).natAbs
theorem farK_cons {x y : Int} {xs ys : List Int} : ∀ k, farK (x :: xs) (y :: ys) (k + 1) = (x - y).natAbs + farK xs ys k
  | 0 => by show 0 + (x - y).natAbs = (x - y).natAbs + 0; omega
  | k + 1 => by rw [farK, farK_cons k, farK]; show _ + (atI xs k - atI ys k).natAbs = _; omega
theorem farK_all : ∀ (xs ys : List Int), xs.length = ys.length → farK xs ys xs.length = far xs ys
  | [], [], _ => rfl
  | [], _ :: _, h => by simp at h
  | _ :: _, [], h => by simp at h
  | x :: xs, y :: ys, h => by rw [List.length_cons, farK_cons, far, farK_all xs ys (by simpa using h)]
theorem farK_le {xs ys : List Int} : ∀ d k, farK xs ys k ≤ farK xs ys (k + d)
  | 0, k => Nat.le_refl _
  | d + 1, k => Nat.le_trans (farK_le d k) (by show _ ≤ farK xs ys (k + d) + _; omega)
end Go.Proofs.Ytfeohcknopdamaa
/- Layer 10: parts of slices; the reference's Sizes, Product, Settings. -/
namespace Go.Proofs.Ytfeohcknopdamaa
open Go.RowKit
set_option linter.unusedVariables false

theorem Try.elemInts : Try.prog.underlying 22 = some (.slice (Try.prog.elem 22)) := by kernel_rfl
theorem Try.sizeInts (W : World) : (sizeOf (Try.prog.elem 22)).run Try.prog W = .ok 1 W := by kernel_rfl
theorem slice_hd (X : Option Addr) (m d : Nat) {k : Nat} (hk : k ≤ m) (hm : m ≤ d) (W : World) : (Instr.slice 22 (.slice X m d) none (some (.int .i64 (k : Int))) none).run Try.prog W = .ok (.slice X k d) W := by
  rw [run_slice_h W 22 X m d Try.elemInts .i64 (k : Int) (by omega) (by omega), Try.sizeInts W]
  cases X <;> simp [Result.andThen, sliced, Addr.add]
/-- Where the rest of a slice begins. -/
def tlA (X : Option Addr) (d k : Nat) : Option Addr := if d = k then X else X.map (·.add k)
theorem slice_tl (X : Option Addr) (m d : Nat) {k : Nat} (hk : k ≤ m) (hm : m ≤ d) (W : World) : (Instr.slice 22 (.slice X m d) (some (.int .i64 (k : Int))) none none).run Try.prog W = .ok (.slice (tlA X d k) (m - k) (d - k)) W := by
  rw [run_slice_l W 22 X m d Try.elemInts .i64 (k : Int) (by omega) (by omega), Try.sizeInts W]
  simp [Result.andThen, sliced, tlA]
theorem Sl.drop {w : World} {n c : Nat} {A : Option Addr} {zs : List Int} (h : Sl w A n c zs) {k : Nat} (hk : k ≤ n) : Sl w (tlA A c k) (n - k) (c - k) (zs.drop k) := by
  have hl := h.len
  have hc := h.cap
  refine ⟨by rw [List.length_drop, hl], by omega, by have := h.big; omega, fun e => ?_, fun j hj => ?_, fun b off e hn => ?_⟩
  · unfold tlA at e
    by_cases hck : c = k
    · omega
    · rw [if_neg hck] at e
      cases A with
      | none => have := h.nil rfl; omega
      | some a => cases e
  · rw [List.length_drop] at hj
    obtain ⟨b, off, e, hcell⟩ := h.rd (k + j) (by omega)
    refine ⟨b, off + k, ?_, ?_⟩
    · unfold tlA
      rw [if_neg (by omega), e]; simp [Addr.add]
    · rw [List.getElem?_drop, Nat.add_assoc]; exact hcell
  · unfold tlA at e
    rw [if_neg (by omega)] at e
    cases A with
    | none => cases e
    | some a =>
      obtain ⟨b', off', e', _⟩ := h.rd 0 (by omega)
      have e' := Option.some.inj e'
      subst e'
      have e : some ((⟨b', off', none⟩ : Addr).add k) = some ⟨b, off, none⟩ := e
      have e1 : ((⟨b', off', none⟩ : Addr).add k).block = b := congrArg Addr.block (Option.some.inj e)
      have e1 : b' = b := by rw [← e1]; unfold Addr.add; split <;> rfl
      rw [← e1]
      exact h.old b' off' rfl (by omega)
theorem apps_law {P : Program} (w : World) {ops : Array Oper} {rest : List Oper} {o : Oper} {a : Act} {Q : Exit → Act → World → Prop} (hgd : o.guard = none) (s x : Operand) (t : TypeId)
    (ho : o.op = .call { callee := .builtin .append, args := #[s, x], argTypes := #[t, t] })
    (B : Nat) (e : TypeId) (i : TypeInfo) (ht : P.underlying t = some (.slice e)) (hI : P.info? e = some i ∧ i.zero = some (.int .i64 0) ∧ i.size = 1 ∧ i.bytes = 8)
    (v : Value) (zs : List Int) (hs : a.eval s = v) (hown : Ow w B e v zs) (A : Option Addr) (m c : Nat) (ys : List Int) (hx : a.eval x = .slice A m c) (hr : Sl w A m c ys) (hn : zs.length + m ≤ 1099511627776) (hB : B ≤ w.heap.size)
    (h : ∀ v' w', Ow w' B e v' (zs ++ ys) → w.grownBy w' v.ownBlock → wpList P ops Q rest (a.put o.dst v') w') : wpList P ops Q (o :: rest) a w := by
  refine app_any w hgd s x t ho B e i ht hI.1 hI.2.1 hI.2.2.1 hI.2.2.2 v zs.length (ints zs) hs hown A m c ys hx hr (by omega) hB fun v' w' h1 h2 => h v' w' ?_ h2
  unfold Ow
  rw [List.length_append, show ints (zs ++ ys) = ints zs ++ ints ys from by simp [ints], hr.len]
  exact h1
theorem sizesR_any (zs : List Int) (A : Option Addr) (n c : Nat) (w : World) (h : Sl w A n c zs) :
    Calls Try.prog 47 #[.slice A n c] w fun e w' => e = .returned (.bool (sizesB zs)) ∧ w = w' := by
  have hbig := h.big
  have HL : Hid (zs.length = n) := h.len
  have HS := Lib.hid h
  have HBAD : Hid (∀ k, k < n → dialB (atI zs k) = false → false = sizesB zs) := fun k hk h => by
    rw [sizesB, allD, ← allB_bad (p := fun j => dialB (atI zs j)) (by rw [HL.out]; exact hk) h, Bool.and_false]
  have HGOOD : Hid ((∀ k, k < n → dialB (atI zs k) = true) → decide ((n : Int) ≤ 12) = sizesB zs) := fun h => by
    rw [sizesB, allD, ← allB_good (p := fun j => dialB (atI zs j)) (by rw [HL.out]; exact h), Bool.and_true, HL.out]
    by_cases h0 : n ≤ 12
    · rw [decide_eq_true h0, decide_eq_true (by omega)]
    · rw [decide_eq_false h0, decide_eq_false (by omega)]
  clear h
  go_enter Try.func47, Try.ntmps47
  go_wp2
  go_loopw [3] (fun i w' => ∃ k : Nat, k ≤ n ∧ i = .int .i64 (k : Int) ∧ Hid (∀ j, j < k → dialB (atI zs j) = true) ∧ w = w') (fun i _ => n - (intOf i).toNat)
  case atStart => exact ⟨0, Nat.zero_le _, by go_num, fun j hj => absurd hj (Nat.not_lt_zero _), rfl⟩
  case round =>
    obtain ⟨k, hk, rfl, HK, rfl⟩ := hrel
    by_cases hlt : k < n
    · have i1 : (k : Int) < (n : Int) := by omega
      have HBK := Lib.hid (HBAD.out k hlt)
      have HKS : Hid (dialB (atI zs k) = true → ∀ j, j < k + 1 → dialB (atI zs j) = true) := fun h j hj => by
        by_cases e : j = k
        · rw [e]; exact h
        · exact HK.out j (by omega)
      obtain ⟨b, off, rfl, hcell⟩ := HS.out.at_ hlt
      rw [show zs[k]?.getD 0 = atI zs k from rfl] at hcell
      generalize atI zs k = z at *
      have hdef : dialB z = (decide (1 ≤ z) && decide (z ≤ 10)) := rfl
      by_cases h1 : z < 1
      · have HX := Lib.hid (HBK.out (by rw [hdef, decide_eq_false (show ¬ 1 ≤ z by omega)]; rfl))
        have d1 : decide (z < 1) = true := decide_eq_true h1
        clear hdef HBK HKS
        go_wp2
        go_ret
        exact ⟨bend HX.out, rfl⟩
      · have d1 : decide (z < 1) = false := decide_eq_false h1
        by_cases h2 : 10 < z
        · have HX := Lib.hid (HBK.out (by rw [hdef, decide_eq_false (show ¬ z ≤ 10 by omega)]; simp))
          have d2 : decide (z > 10) = true := decide_eq_true h2
          have d2' : decide (10 < z) = true := decide_eq_true h2
          clear hdef HBK HKS
          go_wp2
          go_ret
          exact ⟨bend HX.out, rfl⟩
        · have d2 : decide (z > 10) = false := decide_eq_false h2
          have d2' : decide (10 < z) = false := decide_eq_false h2
          have HX := Lib.hid (HKS.out (by rw [hdef, decide_eq_true (show 1 ≤ z by omega), decide_eq_true (show z ≤ 10 by omega)]; rfl))
          clear hdef HBK HKS
          go_wp2
          exact ⟨⟨k + 1, by omega, by go_num, HX.out, trivial⟩, by simp [intOf]; omega⟩
    · have hkn : k = n := by omega
      have HX := Lib.hid (HGOOD.out (by rw [← hkn]; exact HK.out))
      have i1 : ¬ (k : Int) < (n : Int) := by omega
      clear hkn
      go_wp2
      go_ret
      exact ⟨bend HX.out, rfl⟩
theorem productR_any (zs : List Int) (A : Option Addr) (n c : Nat) (w : World) (h : Sl w A n c zs) (hs : sizesB zs = true) :
    Calls Try.prog 48 #[.slice A n c] w fun e w' => e = .returned (.int .i64 ((prodL zs : Nat) : Int)) ∧ w = w' := by
  have hbig := h.big
  have HS := Lib.hid h
  have HL : Hid (zs.length = n) := h.len
  have HA : Hid (allD zs = true) := by
    rw [sizesB, Bool.and_eq_true] at hs; exact hs.2
  have HB := Lib.hid (fun k hk => prodL_le hs k hk)
  clear h hs
  go_enter Try.func48, Try.ntmps48
  go_wp2
  go_loopw [3, 4] (fun p i w' => ∃ k q : Nat, k ≤ n ∧ i = .int .i64 (k : Int) ∧ p = .int .i64 (q : Int) ∧ Hid (q * prodL (zs.drop k) = prodL zs) ∧ w = w') (fun _ i _ => n - (intOf i).toNat)
  case atStart => exact ⟨0, 1, Nat.zero_le _, by go_num, rfl, by rw [Hid, List.drop_zero, Nat.one_mul], rfl⟩
  case round =>
    obtain ⟨k, q, hk, rfl, rfl, HQ, rfl⟩ := hrel
    by_cases hlt : k < n
    · have i1 : (k : Int) < (n : Int) := by omega
      obtain ⟨b, off, rfl, hcell⟩ := HS.out.at_ hlt
      rw [show zs[k]?.getD 0 = atI zs k from rfl] at hcell
      obtain ⟨x, hx, hx1, hx2⟩ := allD_at HA.out (j := k) (by rw [HL.out]; exact hlt)
      have HQ2 : Hid (q * x * prodL (zs.drop (k + 1)) = prodL zs) := by
        rw [Hid, Nat.mul_assoc, ← prodL_split (by rw [HL.out]; exact hlt) x hx]
        exact HQ.out
      have hqx : q * x ≤ 1000000000000 := by
        have h1 := HB.out (k + 1) (by rw [HL.out]; omega)
        have h2 := (HB.out 0 (Nat.zero_le _)).2
        rw [List.drop_zero, ← HQ2.out] at h2
        exact Nat.le_trans (Nat.le_mul_of_pos_right _ h1.1) h2
      rw [hx] at hcell
      clear hx
      have v1 : IntKind.i64.wrap ((q : Int) * (x : Int)) = ((q * x : Nat) : Int) := by
        rw [← Int.natCast_mul]
        exact IntWalk.i64_in _ (by omega)
      go_wp2
      exact ⟨⟨k + 1, q * x, by omega, by go_num, rfl, HQ2.out, trivial⟩, by simp [intOf]; omega⟩
    · have hkn : k = n := by omega
      have HX : Hid (q = prodL zs) := by
        have := HQ.out
        rw [List.drop_of_length_le (by rw [HL.out]; omega), prodL, Nat.mul_one] at this
        exact this
      have i1 : ¬ (k : Int) < (n : Int) := by omega
      clear hkn
      go_wp2
      go_ret
      exact ⟨by rw [← HX.out]; rfl, rfl⟩
set_option maxHeartbeats 1600000 in
theorem settingsR_any (zs xs : List Int) (A B : Option Addr) (n c m d : Nat) (w : World) (hz : Sl w A n c zs) (hx : Sl w B m d xs) :
    Calls Try.prog 50 #[.slice A n c, .slice B m d] w fun e w' => e = .returned (.bool (settB zs xs)) ∧ Dr w w' := by
  have hbig := hx.big
  have hbig2 := hz.big
  have HL : Hid (zs.length = n) := hz.len
  have HM : Hid (xs.length = m) := hx.len
  have HZ := Lib.hid (fun V (hV : Dr w V) => hz.below (hV.below w.heap.size) (Nat.le_refl _))
  have HX := Lib.hid (fun V (hV : Dr w V) => hx.below (hV.below w.heap.size) (Nat.le_refl _))
  have hdef : settB zs xs = (decide (m = n) && allB (fun j => inB (atI zs j) (atI xs j)) m) := by rw [settB, hx.len, hz.len]
  clear hz hx
  by_cases hnm : m = n
  · subst hnm
    rw [decide_eq_true rfl, Bool.true_and] at hdef
    rw [hdef]
    have HBAD : Hid (∀ k, k < m → inB (atI zs k) (atI xs k) = false → false = allB (fun j => inB (atI zs j) (atI xs j)) m) := fun k hk h => allB_bad (p := fun j => inB (atI zs j) (atI xs j)) hk h
    have HGOOD : Hid ((∀ k, k < m → inB (atI zs k) (atI xs k) = true) → true = allB (fun j => inB (atI zs j) (atI xs j)) m) := fun h => allB_good (p := fun j => inB (atI zs j) (atI xs j)) h
    clear hdef
    generalize allB (fun j => inB (atI zs j) (atI xs j)) m = res at *
    have hb : ((m : Int) != m) = false := by simp
    go_enter Try.func50, Try.ntmps50
    go_wp2
    go_loopw [5] (fun i w' => ∃ k : Nat, k ≤ m ∧ i = .int .i64 (k : Int) ∧ Hid (∀ j, j < k → inB (atI zs j) (atI xs j) = true) ∧ Hid (Dr w w')) (fun i _ => m - (intOf i).toNat)
    case atStart => exact ⟨0, Nat.zero_le _, by go_num, fun j hj => absurd hj (Nat.not_lt_zero _), Dr.refl _⟩
    case round =>
      obtain ⟨k, hk, rfl, HK, HD⟩ := hrel
      obtain ⟨wo, rfl⟩ : ∃ wo : World, wo = wr := ⟨_, rfl⟩
      by_cases hlt : k < m
      · have i1 : (k : Int) < (m : Int) := by omega
        have HBK := Lib.hid (HBAD.out k hlt)
        have HKS : Hid (inB (atI zs k) (atI xs k) = true → ∀ j, j < k + 1 → inB (atI zs j) (atI xs j) = true) := fun h j hj => by
          by_cases e : j = k
          · rw [e]; exact h
          · exact HK.out j (by omega)
        obtain ⟨b1, o1, rfl, c1⟩ := (HZ.out wo HD.out).at_ hlt
        obtain ⟨b2, o2, rfl, c2⟩ := (HX.out wo HD.out).at_ hlt
        rw [show zs[k]?.getD 0 = atI zs k from rfl] at c1
        rw [show xs[k]?.getD 0 = atI xs k from rfl] at c2
        generalize atI zs k = z at *
        generalize atI xs k = x at *
        have hin : inB z x = (decide (0 ≤ x) && decide (x < z)) := rfl
        by_cases h1 : x < 0
        · have HY := Lib.hid (HBK.out (by rw [hin, decide_eq_false (show ¬ 0 ≤ x by omega)]; rfl))
          have d1 : decide (x < 0) = true := decide_eq_true h1
          clear hin HBK HKS
          go_wp2
          go_quiet (fail)
          go_wp2
          go_ret
          exact ⟨bend HY.out, HD.out.more _⟩
        · have d1 : decide (x < 0) = false := decide_eq_false h1
          by_cases h2 : z ≤ x
          · have HY := Lib.hid (HBK.out (by rw [hin, decide_eq_false (show ¬ x < z by omega)]; simp))
            have d2 : decide (x ≥ z) = true := decide_eq_true h2
            have d2' : decide (z ≤ x) = true := decide_eq_true h2
            clear hin HBK HKS
            go_wp2
            go_quiet (fail)
            go_wp2
            go_ret
            exact ⟨bend HY.out, HD.out.more _⟩
          · have d2 : decide (x ≥ z) = false := decide_eq_false h2
            have d2' : decide (z ≤ x) = false := decide_eq_false h2
            have HY := Lib.hid (HKS.out (by rw [hin, decide_eq_true (show 0 ≤ x by omega), decide_eq_true (show x < z by omega)]; rfl))
            clear hin HBK HKS
            go_wp2
            go_quiet (fail)
            go_wp2
            exact ⟨⟨k + 1, by omega, by go_num, HY.out, HD.out.more _⟩, by simp [intOf]; omega⟩
      · have hkn : k = m := by omega
        have HY := Lib.hid (HGOOD.out (by rw [← hkn]; exact HK.out))
        have i1 : ¬ (k : Int) < (m : Int) := by omega
        clear hkn
        go_wp2
        go_ret
        exact ⟨bend HY.out, HD.out⟩
  · rw [decide_eq_false hnm, Bool.false_and] at hdef
    rw [hdef]
    have hb : ((m : Int) != n) = true := by simp; omega
    clear hdef
    go_enter Try.func50, Try.ntmps50
    go_wp2
    go_ret
    exact ⟨rfl, Dr.refl _⟩
end Go.Proofs.Ytfeohcknopdamaa
/- Layer 10: the reference's Setting and SettingAt. -/
namespace Go.Proofs.Ytfeohcknopdamaa
open Go.RowKit
set_option linter.unusedVariables false

theorem sizesB_cons {z : Int} {zs : List Int} (h : sizesB (z :: zs) = true) : ∃ x : Nat, z = (x : Int) ∧ 1 ≤ x ∧ x ≤ 10 ∧ sizesB zs = true ∧ zs.length ≤ 11 := by
  rw [sizesB, Bool.and_eq_true, decide_eq_true_iff, allD_cons, Bool.and_eq_true, List.length_cons] at h
  obtain ⟨x, e, h1, h2⟩ := dialB_nat h.2.1
  exact ⟨x, e, h1, h2, by rw [sizesB, Bool.and_eq_true, decide_eq_true_iff]; exact ⟨by omega, h.2.2⟩, by omega⟩
theorem sizesB_prod {zs : List Int} (h : sizesB zs = true) : 1 ≤ prodL zs ∧ prodL zs ≤ 1000000000000 := by
  have := prodL_le h 0 (Nat.zero_le _)
  rwa [List.drop_zero] at this
theorem sl_tail {w : World} {A : Option Addr} {n c : Nat} {z : Int} {zs : List Int} (h : Sl w A (n + 1) c (z :: zs)) : Sl w (tlA A c 1) n (c - 1) zs := h.drop (k := 1) (by omega)
set_option maxRecDepth 100000 in
set_option maxHeartbeats 3200000 in
theorem settingR_any : ∀ (zs : List Int) (a : Nat) (A : Option Addr) (n c : Nat) (w : World), Sl w A n c zs → sizesB zs = true → a < prodL zs →
    Calls Try.prog 49 #[.slice A n c, .int .i64 (a : Int)] w fun e w' => (∃ v, e = .returned v ∧ Ow w' w.heap.size 3 v (setF zs a)) ∧ Below w.heap.size w w'
  | [], a, A, n, c, w, h, _, _ => by
    obtain rfl : n = 0 := by have := h.len; simpa using this.symm
    rw [setF]
    clear h
    go_enter Try.func49, Try.ntmps49
    go_wp2
    go_ret
    exact ⟨⟨_, rfl, Ow.nil _ _ _⟩, Below.refl _ _⟩
  | z :: zs, a, A, 0, c, w, h, _, _ => by have := h.len; simp at this
  | z :: zs, a, A, n + 1, c, w, h, hs, ha => by
    obtain ⟨i0, hi0, hz0, hz1, hz2⟩ := info_parts Try.infoInt
    have HI0 : Hid (Try.prog.info? 3 = some i0 ∧ i0.zero = some (.int .i64 0) ∧ i0.size = 1 ∧ i0.bytes = 8) := ⟨hi0, hz0, hz1, hz2⟩
    obtain ⟨x, rfl, hx1, hx2, hs2, hl11⟩ := sizesB_cons hs
    have hcap := h.cap
    have hbig := h.big
    have hst : ∀ W, (Instr.slice 22 (.slice A (n + 1) c) (some (.int .i64 1)) none none).run Try.prog W = .ok (.slice (tlA A c 1) n (c - 1)) W := fun W => slice_tl A (n + 1) c (k := 1) (by omega) hcap W
    have htl := sl_tail h
    have HPR := Lib.hid (productR_any zs (tlA A c 1) n (c - 1) w htl hs2)
    obtain ⟨hp1, hp2⟩ := sizesB_prod hs2
    have hlt : a / prodL zs < x := by
      rw [prodL, Int.toNat_natCast] at ha
      exact (Nat.div_lt_iff_lt_mul hp1).2 ha
    have hap : a ≤ 10 * prodL zs := by
      rw [prodL, Int.toNat_natCast] at ha
      have := Nat.mul_le_mul_right (prodL zs) hx2
      omega
    have hrl : a % prodL zs < prodL zs := Nat.mod_lt _ hp1
    rw [setF]
    have HIH := fun V (hV : Below w.heap.size w V) (b : Nat) (hb : b < prodL zs) => settingR_any zs b (tlA A c 1) n (c - 1) V (htl.below hV (Nat.le_refl _)) hs2 hb
    have HLN : Hid (∀ b, (setF zs b).length ≤ 1000) := fun b => by rw [setF_len]; omega
    have D2 : Hid ((a : Int).tdiv (prodL zs : Int) = ((a / prodL zs : Nat) : Int)) := by
      rw [Hid, Int.tdiv_eq_ediv_of_nonneg (by omega), ← Int.natCast_ediv]
    have D3 : Hid ((a : Int).tmod (prodL zs : Int) = ((a % prodL zs : Nat) : Int)) := by
      rw [Hid, Int.tmod_eq_emod_of_nonneg (by omega), ← Int.natCast_emod]
    have E2 : Hid ((a : Int) / (prodL zs : Int) = ((a / prodL zs : Nat) : Int)) := by rw [Hid, ← Int.natCast_ediv]
    have E3 : Hid ((a : Int) % (prodL zs : Int) = ((a % prodL zs : Nat) : Int)) := by rw [Hid, ← Int.natCast_emod]
    clear h hs ha hi0 hz0 hz1 hz2 htl hs2
    generalize a / prodL zs = y at *
    generalize a % prodL zs = r at *
    generalize hL : prodL zs = L at *
    have HLL := Lib.hid hL
    have g1 : ¬ ((L : Int) = 0) := by omega
    have W2 : Hid (wrap64 (y : Int) = (y : Int)) := IntWalk.wrap64_in _ ⟨by omega, by omega⟩
    have W3 : Hid (wrap64 (r : Int) = (r : Int)) := IntWalk.wrap64_in _ ⟨by omega, by omega⟩
    have HR : Hid (∀ V (b : Nat), Below w.heap.size w V → b < L → Calls Try.prog 49 #[.slice (tlA A c 1) n (c - 1), .int .i64 (b : Int)] V fun e w' => (∃ v, e = .returned v ∧ Ow w' V.heap.size 3 v (setF zs b)) ∧ Below V.heap.size V w') := fun V b hV hb => HIH V hV b hb
    have HBV : Hid (∀ k, Below w.heap.size w ((w.drewN k).alloc (.cells #[.int .i64 (y : Int)] 3))) := fun k => (below_dn (Below.refl _ w) k).alloc (Nat.le_refl _) _
    have HON : Hid (∀ k, Ow ((w.drewN k).alloc (.cells #[.int .i64 (y : Int)] 3)) w.heap.size 3 (.slice (some ⟨w.heap.size, 0, none⟩) 1 1) [(y : Int)]) := fun k => Ow.one (w.drewN k) w.heap.size 3 (y : Int) (Nat.le_refl _)
    clear HIH hL
    have g2 := W2.out
    have g3 := W3.out
    have d2 := D2.out
    have d3 := D3.out
    have e2 := E2.out
    have e3 := E3.out
    by_cases hpar : y % 2 = 1
    · rw [decide_eq_true hpar, show dirN L true r = L - 1 - r from rfl]
      have b1 : ((y : Int) % 2 == 1) = true := by rw [beq_iff_eq]; omega
      have b2 : ((y : Int).tmod 2 == 1) = true := by rw [Int.tmod_eq_emod_of_nonneg (by omega)]; exact b1
      obtain ⟨a2, ha2⟩ : ∃ a2, a2 = L - 1 - r := ⟨_, rfl⟩
      have ha2l : a2 < L := by omega
      have V1 : Hid (IntKind.i64.wrap ((L : Int) - 1 - (r : Int)) = (a2 : Int)) := by rw [Hid, show (L : Int) - 1 - (r : Int) = (a2 : Int) by omega]; exact IntWalk.i64_in _ (by omega)
      rw [← ha2]
      clear ha2
      go_enter Try.func49, Try.ntmps49
      go_upto_region 4 with (go_at_call 48; (with_reducible refine HPR.out.mono ?_); rintro e w1 ⟨rfl, rfl⟩)
      go_quiet (fail)
      clear d2 d3 e2 e3 g2 g3
      have v1 := V1.out
      go_wp2_with (first
        | (go_at_call 49; (with_reducible refine (HR.out _ a2 (HBV.out _) ha2l).mono ?_); rintro e w2 ⟨⟨v, rfl, hv⟩, hb⟩; have HV := Lib.hid hv; have HO1 := Lib.hid ((HON.out _).below hb (Nat.le_refl _)); have HB2 := Lib.hid ((HBV.out _).trans (hb.mono (HBV.out _).size)); clear hv hb)
        | (at_builtin; go_must (refine app_law _ rfl (.tmp 30) (.tmp 34) 22 rfl w.heap.size 3 i0 Try.underlying22 HI0.out _ [(y : Int)] rfl HO1.out _ (setF zs a2) _ rfl HV.out (by have := HLN.out a2; simp; omega) HB2.out.size ?_); intro v3 w3 hv3 hg3; have HV3 := Lib.hid hv3; have HB3 := Lib.hid (HB2.out.grown hg3 HB2.out.size (fun k e => (HO1.out.lt e).1)); clear hv3 hg3))
      go_ret
      exact ⟨⟨v3, rfl, HV3.out⟩, HB3.out⟩
    · rw [decide_eq_false hpar, show dirN L false r = r from rfl]
      have b1 : ((y : Int) % 2 == 1) = false := by rw [beq_eq_false_iff_ne]; omega
      have b2 : ((y : Int).tmod 2 == 1) = false := by rw [Int.tmod_eq_emod_of_nonneg (by omega)]; exact b1
      go_enter Try.func49, Try.ntmps49
      go_upto_region 4 with (go_at_call 48; (with_reducible refine HPR.out.mono ?_); rintro e w1 ⟨rfl, rfl⟩)
      go_quiet (fail)
      clear d2 d3 e2 e3 g2 g3
      go_wp2_with (first
        | (go_at_call 49; (with_reducible refine (HR.out _ r (HBV.out _) hrl).mono ?_); rintro e w2 ⟨⟨v, rfl, hv⟩, hb⟩; have HV := Lib.hid hv; have HO1 := Lib.hid ((HON.out _).below hb (Nat.le_refl _)); have HB2 := Lib.hid ((HBV.out _).trans (hb.mono (HBV.out _).size)); clear hv hb)
        | (at_builtin; go_must (refine app_law _ rfl (.tmp 30) (.tmp 34) 22 rfl w.heap.size 3 i0 Try.underlying22 HI0.out _ [(y : Int)] rfl HO1.out _ (setF zs r) _ rfl HV.out (by have := HLN.out r; simp; omega) HB2.out.size ?_); intro v3 w3 hv3 hg3; have HV3 := Lib.hid hv3; have HB3 := Lib.hid (HB2.out.grown hg3 HB2.out.size (fun k e => (HO1.out.lt e).1)); clear hv3 hg3))
      go_ret
      exact ⟨⟨v3, rfl, HV3.out⟩, HB3.out⟩
set_option maxRecDepth 100000 in
set_option maxHeartbeats 3200000 in
theorem settingAtR_any : ∀ (zs xs : List Int) (A B : Option Addr) (n c m d : Nat) (w : World), Sl w A n c zs → Sl w B m d xs → sizesB zs = true → settB zs xs = true →
    Calls Try.prog 51 #[.slice A n c, .slice B m d] w fun e w' => e = .returned (.int .i64 ((stP zs xs : Nat) : Int)) ∧ Dr w w'
  | zs, [], A, B, n, c, m, d, w, h, hx, _, _ => by
    obtain rfl : m = 0 := by have := hx.len; simpa using this.symm
    rw [show stP zs [] = 0 by cases zs <;> rfl]
    clear h hx
    go_enter Try.func51, Try.ntmps51
    go_wp2
    go_ret
    exact ⟨rfl, Dr.refl _⟩
  | [], x :: xs, A, B, n, c, m, d, w, h, hx, _, hst => by have := settB_len hst; simp at this
  | z :: zs, x :: xs, A, B, 0, c, m, d, w, h, hx, _, hst => by have := h.len; simp at this
  | z :: zs, x :: xs, A, B, n + 1, c, 0, d, w, h, hx, _, hst => by have := hx.len; simp at this
  | z :: zs, x :: xs, A, B, n + 1, c, m + 1, d, w, h, hx, hs, hst => by
    obtain ⟨q, rfl, hq1, hq2, hs2, hl11⟩ := sizesB_cons hs
    rw [settB_cons, Bool.and_eq_true] at hst
    obtain ⟨y, rfl, hyq⟩ : ∃ y : Nat, x = (y : Int) ∧ y < q := by
      have h0 := hst.1
      rw [inB, Bool.and_eq_true, decide_eq_true_iff, decide_eq_true_iff] at h0
      exact ⟨x.toNat, by omega, by omega⟩
    have hcap := h.cap
    have hbig := h.big
    have hcap2 := hx.cap
    have hbig2 := hx.big
    have hsl : ∀ W, (Instr.slice 22 (.slice A (n + 1) c) (some (.int .i64 1)) none none).run Try.prog W = .ok (.slice (tlA A c 1) n (c - 1)) W := fun W => slice_tl A (n + 1) c (k := 1) (by omega) hcap W
    have hsl2 : ∀ W, (Instr.slice 22 (.slice B (m + 1) d) (some (.int .i64 1)) none none).run Try.prog W = .ok (.slice (tlA B d 1) m (d - 1)) W := fun W => slice_tl B (m + 1) d (k := 1) (by omega) hcap2 W
    have htl := sl_tail h
    have htx := sl_tail hx
    have HPR := Lib.hid (productR_any zs (tlA A c 1) n (c - 1) w htl hs2)
    have HR : Hid (∀ V, Dr w V → Calls Try.prog 51 #[.slice (tlA A c 1) n (c - 1), .slice (tlA B d 1) m (d - 1)] V fun e w' => e = .returned (.int .i64 ((stP zs xs : Nat) : Int)) ∧ Dr V w') := fun V hV => settingAtR_any zs xs (tlA A c 1) (tlA B d 1) n (c - 1) m (d - 1) V (htl.below (hV.below w.heap.size) (Nat.le_refl _)) (htx.below (hV.below w.heap.size) (Nat.le_refl _)) hs2 hst.2
    obtain ⟨hp1, hp2⟩ := sizesB_prod hs2
    have ha := stP_lt zs xs (by rw [sizesB, Bool.and_eq_true] at hs2; exact hs2.2) hst.2
    obtain ⟨b, off, rfl, hcell⟩ := hx.at_ (k := 0) (by omega)
    rw [Nat.add_zero, show ((y : Int) :: xs)[0]?.getD 0 = (y : Int) from rfl] at hcell
    rw [stP, Int.toNat_natCast]
    clear h hx hs hst htl htx hs2
    generalize stP zs xs = a at *
    generalize prodL zs = L at *
    have hyL : y * L ≤ 10 * L := Nat.mul_le_mul_right L (by omega)
    have V2 : Hid (IntKind.i64.wrap ((y : Int) * (L : Int)) = ((y * L : Nat) : Int)) := by
      rw [Hid, ← Int.natCast_mul]; exact IntWalk.i64_in _ (by omega)
    by_cases hpar : y % 2 = 1
    · rw [decide_eq_true hpar, show dirN L true a = L - 1 - a from rfl]
      have b1 : ((y : Int) % 2 == 1) = true := by rw [beq_iff_eq]; omega
      have b2 : ((y : Int).tmod 2 == 1) = true := by rw [Int.tmod_eq_emod_of_nonneg (by omega)]; exact b1
      obtain ⟨a2, ha2⟩ : ∃ a2, a2 = L - 1 - a := ⟨_, rfl⟩
      have ha2l : a2 < L := by omega
      have V1 : Hid (IntKind.i64.wrap ((L : Int) - 1 - (a : Int)) = (a2 : Int)) := by rw [Hid, show (L : Int) - 1 - (a : Int) = (a2 : Int) by omega]; exact IntWalk.i64_in _ (by omega)
      have V3 : Hid (IntKind.i64.wrap (((y * L : Nat) : Int) + (a2 : Int)) = ((y * L + a2 : Nat) : Int)) := by
        rw [Hid, ← Int.natCast_add]; exact IntWalk.i64_in _ (by omega)
      rw [← ha2]
      clear ha2 hyL
      generalize y * L = p at *
      generalize p + a2 = s at *
      go_enter Try.func51, Try.ntmps51
      go_upto_region 4 with (go_at_call 48; (with_reducible refine HPR.out.mono ?_); rintro e w1 ⟨rfl, rfl⟩)
      go_quiet ((go_at_call 51; exact quiet_dr (HR.out _ ⟨_, rfl⟩)))
      have v1 := V1.out
      have v2 := V2.out
      have v3 := V3.out
      go_wp2
      go_ret
      exact ⟨rfl, ⟨_, rfl⟩⟩
    · rw [decide_eq_false hpar, show dirN L false a = a from rfl]
      have b1 : ((y : Int) % 2 == 1) = false := by rw [beq_eq_false_iff_ne]; omega
      have b2 : ((y : Int).tmod 2 == 1) = false := by rw [Int.tmod_eq_emod_of_nonneg (by omega)]; exact b1
      have V3 : Hid (IntKind.i64.wrap (((y * L : Nat) : Int) + (a : Int)) = ((y * L + a : Nat) : Int)) := by
        rw [Hid, ← Int.natCast_add]; exact IntWalk.i64_in _ (by omega)
      clear hyL
      generalize y * L = p at *
      generalize p + a = s at *
      go_enter Try.func51, Try.ntmps51
      go_upto_region 4 with (go_at_call 48; (with_reducible refine HPR.out.mono ?_); rintro e w1 ⟨rfl, rfl⟩)
      go_quiet ((go_at_call 51; exact quiet_dr (HR.out _ ⟨_, rfl⟩)))
      have v2 := V2.out
      have v3 := V3.out
      go_wp2
      go_ret
      exact ⟨rfl, ⟨_, rfl⟩⟩
end Go.Proofs.Ytfeohcknopdamaa
