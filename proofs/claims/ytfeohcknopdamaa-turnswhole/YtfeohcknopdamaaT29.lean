import Derived.Test.YtfeohcknopdamaaT12
import Derived.Test.YtfeohcknopdamaaT03
import Derived.Test.YtfeohcknopdamaaT10
/- Layer 10: groupings, their positions, the next grouping, the sum; plain mathematics. -/
namespace Go.Proofs.Ytfeohcknopdamaa
set_option linter.unusedVariables false

/-- The grouping at a position: l things are left, g groups are there. -/
def gF : Nat → Nat → Nat → List Int
  | 0, _, _ => []
  | l + 1, g, a => ((min (a / wy l g) g : Nat) : Int) :: gF l (max g (min (a / wy l g) g + 1)) (a - min (a / wy l g) g * wy l g)
theorem gF_len : ∀ l g a, (gF l g a).length = l
  | 0, _, _ => rfl
  | l + 1, g, a => by rw [gF, List.length_cons, gF_len l]
/-- The next one, in two cases. -/
theorem gF_old {l g a : Nat} (h : a < g * wy l g) : gF (l + 1) g a = ((a / wy l g : Nat) : Int) :: gF l g (a % wy l g) ∧ a / wy l g < g ∧ a % wy l g < wy l g := by
  have hp := wy_pos l g
  have h1 : a / wy l g < g := (Nat.div_lt_iff_lt_mul hp).2 h
  have h2 := Nat.div_add_mod a (wy l g)
  rw [Nat.mul_comm] at h2
  refine ⟨?_, h1, Nat.mod_lt _ hp⟩
  rw [gF, Nat.min_eq_left (Nat.le_of_lt h1), Nat.max_eq_left h1]
  rw [show a - a / wy l g * wy l g = a % wy l g by omega]
theorem gF_new {l g a : Nat} (h : g * wy l g ≤ a) : gF (l + 1) g a = ((g : Nat) : Int) :: gF l (g + 1) (a - g * wy l g) := by
  have hp := wy_pos l g
  have h1 : g ≤ a / wy l g := (Nat.le_div_iff_mul_le hp).2 h
  rw [gF, Nat.min_eq_right h1, Nat.max_eq_right (Nat.le_succ g)]
/-- A grouping, when g groups are there already. -/
def grB : Nat → List Int → Bool
  | _, [] => true
  | g, x :: xs => (decide (0 ≤ x) && decide (x ≤ (g : Int))) && grB (max g (x.toNat + 1)) xs
/-- Its position. -/
def gP : Nat → List Int → Nat
  | _, [] => 0
  | g, x :: xs => x.toNat * wy xs.length g + gP (max g (x.toNat + 1)) xs
theorem gF_gr : ∀ l g a, a < wy l g → grB g (gF l g a) = true
  | 0, _, _, _ => rfl
  | l + 1, g, a, h => by
    rw [wy] at h
    by_cases hc : a < g * wy l g
    · obtain ⟨e, h1, h2⟩ := gF_old hc
      have ih := gF_gr l g _ h2
      rw [e]
      generalize a / wy l g = q at *
      rw [grB, Int.toNat_natCast, Nat.max_eq_left h1, ih, decide_eq_true (by omega), decide_eq_true (by omega)]; rfl
    · rw [gF_new (by omega), grB, Int.toNat_natCast, Nat.max_eq_right (Nat.le_succ g), gF_gr l (g + 1) _ (by omega), decide_eq_true (by omega), decide_eq_true (by omega)]; rfl
theorem gP_gF : ∀ l g a, a < wy l g → gP g (gF l g a) = a
  | 0, g, a, h => by rw [wy] at h; show 0 = a; omega
  | l + 1, g, a, h => by
    rw [wy] at h
    by_cases hc : a < g * wy l g
    · obtain ⟨e, h1, h2⟩ := gF_old hc
      have h3 := Nat.div_add_mod a (wy l g)
      rw [Nat.mul_comm] at h3
      rw [e, gP, Int.toNat_natCast, Nat.max_eq_left h1, gP_gF l g _ h2, gF_len]
      exact h3
    · rw [gF_new (by omega), gP, Int.toNat_natCast, Nat.max_eq_right (Nat.le_succ g), gP_gF l (g + 1) _ (by omega), gF_len]
      omega
theorem gP_lt : ∀ (xs : List Int) (g : Nat), grB g xs = true → gP g xs < wy xs.length g
  | [], _, _ => Nat.one_pos
  | x :: xs, g, h => by
    rw [grB, Bool.and_eq_true, Bool.and_eq_true, decide_eq_true_iff, decide_eq_true_iff] at h
    obtain ⟨⟨h1, h2⟩, h3⟩ := h
    have ih := gP_lt xs _ h3
    rw [gP, List.length_cons, wy]
    by_cases hc : x.toNat + 1 ≤ g
    · rw [Nat.max_eq_left hc] at ih ⊢
      have := Nat.mul_le_mul_right (wy xs.length g) hc
      rw [Nat.add_mul, Nat.one_mul] at this
      omega
    · have e : x.toNat = g := by omega
      rw [e, Nat.max_eq_right (show g ≤ g + 1 by omega)] at ih ⊢
      omega
/-- The first difference is a step up. -/
def lexL : List Int → List Int → Prop
  | x :: xs, y :: ys => x < y ∨ (x = y ∧ lexL xs ys)
  | _, _ => False
theorem gF_lex : ∀ l g a, a + 1 < wy l g → lexL (gF l g a) (gF l g (a + 1))
  | 0, g, a, h => by rw [wy] at h; omega
  | l + 1, g, a, h => by
    rw [wy] at h
    have hp := wy_pos l g
    by_cases hc : a + 1 < g * wy l g
    · obtain ⟨e, h1, h2⟩ := gF_old (l := l) (g := g) (a := a) (by omega)
      obtain ⟨e', h1', h2'⟩ := gF_old hc
      rw [e, e', lexL]
      have ih := gF_lex l g (a % wy l g)
      generalize wy l g = P at *
      have h3 := Nat.div_add_mod a P
      by_cases h4 : a % P + 1 < P
      · have e1 : (a + 1) / P = a / P := by
          rw [show a + 1 = P * (a / P) + (a % P + 1) by omega, Nat.mul_add_div hp, Nat.div_eq_of_lt h4, Nat.add_zero]
        have e2 : (a + 1) % P = a % P + 1 := by
          rw [show a + 1 = P * (a / P) + (a % P + 1) by omega, Nat.mul_add_mod, Nat.mod_eq_of_lt h4]
        right
        rw [e1, e2]
        exact ⟨rfl, ih h4⟩
      · left
        have e1 : (a + 1) / P = a / P + 1 := by
          rw [show a + 1 = P * (a / P + 1) by rw [Nat.mul_add]; omega, Nat.mul_div_cancel_left _ hp]
        rw [e1]; omega
    · by_cases hd : a < g * wy l g
      · obtain ⟨e, h1, h2⟩ := gF_old hd
        rw [e, gF_new (by omega), lexL]
        left
        generalize a / wy l g = q at *
        omega
      · rw [gF_new (by omega), gF_new (by omega), lexL]
        right
        refine ⟨rfl, ?_⟩
        have := gF_lex l (g + 1) (a - g * wy l g) (by omega)
        rwa [show a - g * wy l g + 1 = a + 1 - g * wy l g by omega] at this
theorem gF_last : ∀ l g, gF l g (wy l g - 1) = (List.range l).map fun i => ((g + i : Nat) : Int)
  | 0, _ => rfl
  | l + 1, g => by
    have h1 := wy_pos l (g + 1)
    rw [gF_new (by rw [wy]; omega), wy, show g * wy l g + wy l (g + 1) - 1 - g * wy l g = wy l (g + 1) - 1 by omega, gF_last l (g + 1), List.range_succ_eq_map, List.map_cons, List.map_map]
    rw [Nat.add_zero]
    congr 1
    refine List.map_congr_left fun i _ => ?_
    show ((g + 1 + i : Nat) : Int) = ((g + (i + 1) : Nat) : Int)
    omega
/-- Sums. -/
def sumF (f : Nat → Nat) : Nat → Nat
  | 0 => 0
  | n + 1 => sumF f n + f n
theorem sumF_add (f g : Nat → Nat) : ∀ n, sumF (fun i => f i + g i) n = sumF f n + sumF g n
  | 0 => rfl
  | n + 1 => by rw [sumF, sumF, sumF, sumF_add f g n]; omega
theorem sumF_mul (f : Nat → Nat) (c : Nat) : ∀ n, sumF (fun i => c * f i) n = c * sumF f n
  | 0 => rfl
  | n + 1 => by rw [sumF, sumF, sumF_mul f c n, Nat.mul_add]
theorem sumF_congr {f g : Nat → Nat} : ∀ n, (∀ i, i < n → f i = g i) → sumF f n = sumF g n
  | 0, _ => rfl
  | n + 1, h => by rw [sumF, sumF, sumF_congr n (fun i hi => h i (by omega)), h n (by omega)]
theorem sumF_first (f : Nat → Nat) : ∀ n, sumF f (n + 1) = f 0 + sumF (fun i => f (i + 1)) n
  | 0 => by rw [sumF, sumF, sumF]; omega
  | n + 1 => by rw [sumF, sumF_first f n, sumF]; omega
/-- The sum over the numbers of the things that are not in the new group. -/
theorem wy_sum : ∀ x h, wy x (h + 1) = sumF (fun k => chs x k * wy k h) (x + 1)
  | 0, h => by rw [wy, sumF, sumF, chs, wy]
  | x + 1, h => by
    have i1 := wy_sum x h
    have i2 := wy_sum x (h + 1)
    have e1 : sumF (fun k => chs (x + 1) k * wy k h) (x + 2) = sumF (fun k => chs x k * wy k h) (x + 1) + sumF (fun k => chs x k * wy (k + 1) h) (x + 1) := by
      rw [sumF_first, show sumF (fun i => chs (x + 1) (i + 1) * wy (i + 1) h) (x + 1) = sumF (fun i => chs x (i + 1) * wy (i + 1) h + chs x i * wy (i + 1) h) (x + 1) from sumF_congr _ fun i _ => by rw [chs, Nat.add_mul], sumF_add]
      have e2 := sumF_first (fun k => chs x k * wy k h) (x + 1)
      rw [sumF, chs_over x (x + 1) (by omega), Nat.zero_mul, Nat.add_zero, chs_zero] at e2
      rw [chs_zero, e2]
      omega
    have e3 : sumF (fun k => chs x k * wy (k + 1) h) (x + 1) = h * sumF (fun k => chs x k * wy k h) (x + 1) + sumF (fun k => chs x k * wy k (h + 1)) (x + 1) := by
      rw [← sumF_mul, ← sumF_add]
      exact sumF_congr _ fun k _ => by rw [wy, Nat.mul_add, Nat.mul_left_comm]
    rw [e1, e3, ← i1, ← i2, wy, Nat.add_mul, Nat.one_mul]
    omega
theorem wy_bell (n : Nat) : wy (n + 1) 0 = sumF (fun k => chs n k * wy k 0) (n + 1) := by
  rw [wy, Nat.zero_mul, Nat.zero_add]
  exact wy_sum n 0
end Go.Proofs.Ytfeohcknopdamaa
/- Layer 10: isGrouping; the reference's Groupings and Groups. -/
namespace Go.Proofs.Ytfeohcknopdamaa
open Go.RowKit
set_option linter.unusedVariables false

/-- A list as a function. -/
def fl (N : Nat) (f : Nat → Int) : List Int := (List.range N).map f
theorem fl_len (N : Nat) (f : Nat → Int) : (fl N f).length = N := by simp [fl]
theorem fl_at {N j : Nat} (f : Nat → Int) (h : j < N) : atI (fl N f) j = f j := by
  rw [atI_get (by rw [fl_len]; exact h)]
  unfold fl
  rw [List.getElem_map, List.getElem_range]
theorem fl_ext {N : Nat} {f g : Nat → Int} (h : ∀ j, j < N → f j = g j) : fl N f = fl N g := by
  unfold fl
  exact List.map_congr_left fun j hj => h j (List.mem_range.1 hj)
theorem fl_zero (N : Nat) : List.replicate N (0 : Int) = fl N fun _ => 0 := by
  refine atI_ext (by rw [List.length_replicate, fl_len]) fun j hj => ?_
  rw [List.length_replicate] at hj
  rw [fl_at _ hj, atI_get (by rw [List.length_replicate]; exact hj), List.getElem_replicate]
theorem fl_set {N j : Nat} {f : Nat → Int} {x : Int} (h : j < N) : (fl N f).set j x = fl N fun i => if i = j then x else f i := by
  refine atI_ext (by rw [List.length_set, fl_len, fl_len]) fun i hi => ?_
  rw [List.length_set, fl_len] at hi
  rw [atI_set (by rw [fl_len]; exact hi), fl_at _ hi, fl_at _ hi]
  by_cases e : j = i
  · rw [if_pos e, if_pos e.symm]
  · rw [if_neg e, if_neg (fun h => e h.symm)]
theorem grB_drop {zs : List Int} {k u : Nat} (h : k < zs.length) : grB u (zs.drop k) = ((decide (0 ≤ atI zs k) && decide (atI zs k ≤ (u : Int))) && grB (max u ((atI zs k).toNat + 1)) (zs.drop (k + 1))) := by
  rw [show zs.drop k = atI zs k :: zs.drop (k + 1) from by rw [List.drop_eq_getElem_cons h, atI_get h], grB]
/-- A grouping of at most 20 things. -/
def grpB (zs : List Int) : Bool := decide (zs.length ≤ 20) && grB 0 zs
set_option maxHeartbeats 1600000 in
theorem groupingsR_any (zs : List Int) (A : Option Addr) (n c : Nat) (w : World) (h : Sl w A n c zs) :
    Calls Try.prog 43 #[.slice A n c] w fun e w' => e = .returned (.bool (grpB zs)) ∧ w = w' := by
  have hbig := h.big
  have HL : Hid (zs.length = n) := h.len
  have HS := Lib.hid h
  have HBAD : Hid (grB 0 zs = false → false = grpB zs) := fun h => by rw [grpB, h, Bool.and_false]
  have HGOOD : Hid (grB 0 zs = true → decide ((n : Int) ≤ 20) = grpB zs) := fun h => by
    rw [grpB, h, Bool.and_true, HL.out]
    by_cases h0 : n ≤ 20
    · rw [decide_eq_true h0, decide_eq_true (by omega)]
    · rw [decide_eq_false h0, decide_eq_false (by omega)]
  have HDR := Lib.hid (fun k u (hk : k < zs.length) => grB_drop (zs := zs) (k := k) (u := u) hk)
  clear h
  go_enter Try.func43, Try.ntmps43
  go_wp2
  go_loopw [3, 4] (fun s i w' => ∃ k u : Nat, k ≤ n ∧ u ≤ k ∧ i = .int .i64 (k : Int) ∧ s = .int .i64 (u : Int) ∧ Hid (grB 0 zs = grB u (zs.drop k)) ∧ w = w') (fun _ i _ => n - (intOf i).toNat)
  case atStart => exact ⟨0, 0, Nat.zero_le _, Nat.le_refl _, by go_num, by go_num, by rw [Hid, List.drop_zero], rfl⟩
  case round =>
    obtain ⟨k, u, hk, hu, rfl, rfl, HK, rfl⟩ := hrel
    by_cases hlt : k < n
    · have i1 : (k : Int) < (n : Int) := by omega
      have hdr := HDR.out k u (by rw [HL.out]; exact hlt)
      rw [← HK.out] at hdr
      obtain ⟨b, off, rfl, hcell⟩ := HS.out.at_ hlt
      rw [show zs[k]?.getD 0 = atI zs k from rfl] at hcell
      generalize atI zs k = z at *
      by_cases h1 : z < 0
      · have HX := Lib.hid (HBAD.out (by rw [hdr, decide_eq_false (show ¬ 0 ≤ z by omega)]; rfl))
        have d1 : decide (z < 0) = true := decide_eq_true h1
        clear hdr
        go_wp2
        go_ret
        exact ⟨bend HX.out, rfl⟩
      · have d1 : decide (z < 0) = false := decide_eq_false h1
        by_cases h2 : (u : Int) < z
        · have HX := Lib.hid (HBAD.out (by rw [hdr, decide_eq_false (show ¬ z ≤ (u : Int) by omega), Bool.and_false]; rfl))
          have d2 : decide (z > (u : Int)) = true := decide_eq_true h2
          have d2' : decide ((u : Int) < z) = true := decide_eq_true h2
          clear hdr
          go_wp2
          go_ret
          exact ⟨bend HX.out, rfl⟩
        · have d2 : decide (z > (u : Int)) = false := decide_eq_false h2
          have d2' : decide ((u : Int) < z) = false := decide_eq_false h2
          rw [decide_eq_true (show 0 ≤ z by omega), decide_eq_true (show z ≤ (u : Int) by omega)] at hdr
          obtain ⟨x, rfl⟩ : ∃ x : Nat, z = (x : Int) := ⟨z.toNat, by omega⟩
          rw [Int.toNat_natCast] at hdr
          have HX : Hid (grB 0 zs = grB (max u (x + 1)) (zs.drop (k + 1))) := hdr
          clear hdr
          by_cases hux : u < x + 1
          · have m1 : (u : Int) < (x : Int) + 1 := by omega
            have HM : Hid (max u (x + 1) = x + 1) := Nat.max_eq_right (by omega)
            go_wp2
            exact ⟨⟨k + 1, x + 1, by omega, by omega, by go_num, by go_num, by rw [Hid, HX.out, HM.out], trivial⟩, by simp [intOf]; omega⟩
          · have m1 : ¬ (u : Int) < (x : Int) + 1 := by omega
            have HM : Hid (max u (x + 1) = u) := Nat.max_eq_left (by omega)
            go_wp2
            exact ⟨⟨k + 1, u, by omega, by omega, by go_num, by go_num, by rw [Hid, HX.out, HM.out], trivial⟩, by simp [intOf]; omega⟩
    · have hkn : k = n := by omega
      have HX := Lib.hid (HGOOD.out (by rw [HK.out, hkn, List.drop_of_length_le (by rw [HL.out]; exact Nat.le_refl _)]; rfl))
      have i1 : ¬ (k : Int) < (n : Int) := by omega
      clear hkn
      go_wp2
      go_ret
      exact ⟨bend HX.out, rfl⟩
set_option maxHeartbeats 1600000 in
theorem isGrouping_any (zs : List Int) (A : Option Addr) (n c : Nat) (w : World) (h : Sl w A n c zs) :
    Calls Try.prog 68 #[.slice A n c] w fun e w' => e = .returned (.bool (grpB zs)) ∧ w = w' := by
  have hbig := h.big
  have HL : Hid (zs.length = n) := h.len
  have HS := Lib.hid h
  have HDR := Lib.hid (fun k u (hk : k < zs.length) => grB_drop (zs := zs) (k := k) (u := u) hk)
  have hdef : grpB zs = (decide (n ≤ 20) && grB 0 zs) := by rw [grpB, h.len]
  clear h
  by_cases h20 : n ≤ 20
  · rw [decide_eq_true h20, Bool.true_and] at hdef
    rw [hdef]
    have d0 : decide ((n : Int) > 20) = false := decide_eq_false (by omega)
    have d0' : decide (20 < (n : Int)) = false := decide_eq_false (by omega)
    have d0'' : decide (20 < n) = false := decide_eq_false (by omega)
    have hg : ∃ r, r = grB 0 zs := ⟨_, rfl⟩
    obtain ⟨r, hr⟩ := hg
    rw [← hr]
    have HR := Lib.hid hr
    clear hdef hr
    go_enter Try.func68, Try.ntmps68
    go_wp2
    go_loopw [3, 11] (fun s i w' => ∃ k u : Nat, k ≤ n ∧ u ≤ k ∧ i = .int .i64 (k : Int) ∧ s = .int .i64 (u : Int) ∧ Hid (r = grB u (zs.drop k)) ∧ w = w') (fun _ i _ => n - (intOf i).toNat)
    case atStart => exact ⟨0, 0, Nat.zero_le _, Nat.le_refl _, by go_num, by go_num, by rw [Hid, List.drop_zero]; exact HR.out, rfl⟩
    case round =>
      obtain ⟨k, u, hk, hu, rfl, rfl, HK, rfl⟩ := hrel
      by_cases hlt : k < n
      · have i1 : (k : Int) < (n : Int) := by omega
        have hdr := HDR.out k u (by rw [HL.out]; exact hlt)
        rw [← HK.out] at hdr
        obtain ⟨b, off, rfl, hcell⟩ := HS.out.at_ hlt
        rw [show zs[k]?.getD 0 = atI zs k from rfl] at hcell
        generalize atI zs k = z at *
        have HB := Lib.hid (fun w => isBetween_any z 0 (u : Int) w)
        rcases hl : (decide (0 ≤ z) && decide (z ≤ (u : Int))) with _ | _
        · rw [hl] at HB hdr
          have HX : Hid (false = r) := by rw [Hid, hdr]; rfl
          clear hl hdr
          go_wp2_with (go_at_call 55; refine (HB.out _).mono ?_; rintro e w1 ⟨rfl, rfl⟩)
          go_ret
          exact ⟨bend HX.out, rfl⟩
        · rw [hl] at HB hdr
          rw [Bool.and_eq_true, decide_eq_true_iff, decide_eq_true_iff] at hl
          obtain ⟨x, rfl⟩ : ∃ x : Nat, z = (x : Int) := ⟨z.toNat, by omega⟩
          rw [Int.toNat_natCast] at hdr
          have HX : Hid (r = grB (max u (x + 1)) (zs.drop (k + 1))) := hdr
          have hxu : x ≤ u := by omega
          clear hdr hl
          by_cases hux : u < x + 1
          · have m1 : (u : Int) < (x : Int) + 1 := by omega
            have HM : Hid (max u (x + 1) = x + 1) := Nat.max_eq_right (by omega)
            go_wp2_with (go_at_call 55; refine (HB.out _).mono ?_; rintro e w1 ⟨rfl, rfl⟩)
            exact ⟨⟨k + 1, x + 1, by omega, by omega, by go_num, by go_num, by rw [Hid, HX.out, HM.out], trivial⟩, by simp [intOf]; omega⟩
          · have m1 : ¬ (u : Int) < (x : Int) + 1 := by omega
            have HM : Hid (max u (x + 1) = u) := Nat.max_eq_left (by omega)
            go_wp2_with (go_at_call 55; refine (HB.out _).mono ?_; rintro e w1 ⟨rfl, rfl⟩)
            exact ⟨⟨k + 1, u, by omega, by omega, by go_num, by go_num, by rw [Hid, HX.out, HM.out], trivial⟩, by simp [intOf]; omega⟩
      · have hkn : k = n := by omega
        have HX : Hid (true = r) := by rw [Hid, HK.out, hkn, List.drop_of_length_le (by rw [HL.out]; exact Nat.le_refl _)]; rfl
        have i1 : ¬ (k : Int) < (n : Int) := by omega
        clear hkn
        go_wp2
        go_ret
        exact ⟨bend HX.out, rfl⟩
  · rw [decide_eq_false h20, Bool.false_and] at hdef
    rw [hdef]
    have d0 : decide ((n : Int) > 20) = true := decide_eq_true (by omega)
    have d0' : decide (20 < (n : Int)) = true := decide_eq_true (by omega)
    clear hdef
    go_enter Try.func68, Try.ntmps68
    go_wp2
    go_ret
    exact ⟨rfl, rfl⟩
def gOne (k j : Nat) : Int := if j < k then 1 else 0
def gWay (N i j : Nat) : Int := if j + i < N then ((wy i j : Nat) : Int) else 0
def gNew (i k j : Nat) : Int := if j < k then ((wy (i + 1) j : Nat) : Int) else 0
set_option maxRecDepth 100000 in
set_option maxHeartbeats 6400000 in
theorem groupsR_any (u m : Nat) (w : World) (hum : u + m ≤ 20) :
    Calls Try.prog 41 #[.int .i64 (u : Int), .int .i64 (m : Int)] w fun e w' => e = .returned (.int .i64 ((wy m u : Nat) : Int)) ∧ Below w.heap.size w w' := by
  obtain ⟨i0, hi0, hz0, hz1, hz2⟩ := info_parts Try.infoInt
  have HI0 : Hid (Try.prog.info? 3 = some i0 ∧ i0.zero = some (.int .i64 0) ∧ i0.size = 1 ∧ i0.bytes = 8) := ⟨hi0, hz0, hz1, hz2⟩
  clear hi0 hz0 hz1 hz2
  obtain ⟨N, hN⟩ : ∃ N, N = u + m + 2 := ⟨_, rfl⟩
  have HN := Lib.hid hN
  have hN22 : N ≤ 22 := by omega
  have hN2 : 2 ≤ N := by omega
  have hm20 : m ≤ 20 := by omega
  have hmN : m + 2 ≤ N := by omega
  clear hN
  go_enter Try.func41, Try.ntmps41
  go_wp2_with (at_make; go_must (refine make_law _ rfl (.tmp 13) (.tmp 13) 22 rfl w.heap.size 3 i0 Try.underlying22 HI0.out _ _ N rfl rfl (by have := HN.out; omega) (by have := HN.out; omega) (by omega) (Nat.le_refl _) ?_); intro w2 ho2 hg2; rw [fl_zero] at ho2; have HO2 := Lib.hid ho2; have HB2 := Lib.hid ((Below.refl w.heap.size w).grown hg2 (Nat.le_refl _) (fun _ e => by cases e)); clear ho2 hg2)
  go_loopw [6] (fun i w' => ∃ k : Nat, k ≤ N ∧ i = .int .i64 (k : Int) ∧ Hid (Ow w' w.heap.size 3 (.slice (some ⟨w.heap.size, 0, none⟩) N N) (fl N (gOne k))) ∧ Hid (Below w.heap.size w w')) (fun i _ => N - (intOf i).toNat)
  case atStart =>
    refine ⟨0, Nat.zero_le _, by go_num, ?_, HB2.out⟩
    rw [Hid, show fl N (gOne 0) = fl N fun _ => 0 from fl_ext fun j _ => by unfold gOne; rw [if_neg (Nat.not_lt_zero _)]]
    exact HO2.out
  case round =>
    obtain ⟨k, hk, rfl, HO, HB⟩ := hrel
    obtain ⟨wo, rfl⟩ : ∃ wo : World, wo = wr := ⟨_, rfl⟩
    clear HO2 HB2
    by_cases hlt : k < N
    · have i1 : (k : Int) < (N : Int) := by omega
      have HLN : Hid ((fl N (gOne k)).length = N) := fl_len _ _
      have hc := HO.out.cellAt HLN.out (k := k) hlt
      have hf := HO.out.free HLN.out k
      have HST : Hid ((fl N (gOne k)).set k 1 = fl N (gOne (k + 1))) := by
        rw [Hid, fl_set hlt]
        refine fl_ext fun j hj => ?_
        unfold gOne
        by_cases e : j = k
        · rw [if_pos e, if_pos (by omega)]
        · rw [if_neg e]
          by_cases e2 : j < k
          · rw [if_pos e2, if_pos (by omega)]
          · rw [if_neg e2, if_neg (by omega)]
      go_wp2
      exact ⟨⟨k + 1, by omega, by go_num, by rw [Hid, ← HST.out]; exact HO.out.put HLN.out k 1, HB.out.setCell (p := ⟨w.heap.size, k, none⟩) (Nat.le_refl _) _⟩, by simp [intOf]; omega⟩
    · have hkN : k = N := by omega
      have i1 : ¬ (k : Int) < (N : Int) := by omega
      have HO3 : Hid (Ow wo w.heap.size 3 (.slice (some ⟨w.heap.size, 0, none⟩) N N) (fl N (gWay N 0))) := by
        rw [Hid, show fl N (gWay N 0) = fl N (gOne k) from fl_ext fun j hj => by unfold gOne gWay; rw [if_pos (by omega), if_pos (by omega)]; rfl]
        exact HO.out
      clear hkN HO
      go_wp2
      go_loopw [5, 7] (fun v i w' => ∃ (i' g : Nat), i' ≤ m ∧ i = .int .i64 (i' : Int) ∧ v = .slice (some ⟨g, 0, none⟩) N N ∧ Hid (Ow w' w.heap.size 3 (.slice (some ⟨g, 0, none⟩) N N) (fl N (gWay N i'))) ∧ Hid (Below w.heap.size w w')) (fun _ i _ => m - (intOf i).toNat)
      case atStart => exact ⟨0, w.heap.size, Nat.zero_le _, by go_num, rfl, HO3.out, HB.out⟩
      case round =>
        obtain ⟨i, g, hi, rfl, rfl, HO, HB⟩ := hrel
        obtain ⟨wm, rfl⟩ : ∃ wm : World, wm = wr := ⟨_, rfl⟩
        clear HO3
        by_cases hlt : i < m
        · have i2 : (i : Int) < (m : Int) := by omega
          obtain ⟨A1, c1, e1, hs1⟩ := HO.out.sl_len (fl_len _ _) (by omega)
          cases e1
          have HS1 := Lib.hid (fun V (hV : Below wm.heap.size wm V) => hs1.below hV (Nat.le_refl _))
          clear hs1
          go_wp2_with (at_make; go_must (refine make_law _ rfl (.tmp 30) (.tmp 30) 22 rfl wm.heap.size 3 i0 Try.underlying22 HI0.out _ _ N rfl rfl rfl rfl (by omega) (Nat.le_refl _) ?_); intro w3 ho3 hg3; rw [fl_zero] at ho3; have HO3 := Lib.hid ho3; have HB3 := Lib.hid ((Below.refl wm.heap.size wm).grown hg3 (Nat.le_refl _) (fun _ e => by cases e)); clear ho3 hg3)
          obtain ⟨q, hq⟩ : ∃ q, q = N - i := ⟨_, rfl⟩
          have V0 : Hid (IntKind.i64.wrap ((N : Int) - (i : Int)) = (q : Int)) := by rw [Hid, show (N : Int) - (i : Int) = (q : Int) by omega]; exact IntWalk.i64_in _ (by omega)
          have HQ := Lib.hid hq
          have hq1 : 1 ≤ q := by omega
          have hqN : q ≤ N := by omega
          clear hq
          go_loopw [9] (fun j w' => ∃ k : Nat, k + 1 ≤ q ∧ j = .int .i64 (k : Int) ∧ Hid (Ow w' wm.heap.size 3 (.slice (some ⟨wm.heap.size, 0, none⟩) N N) (fl N (gNew i k))) ∧ Hid (Below wm.heap.size wm w')) (fun j _ => q - (intOf j).toNat)
          case atStart =>
            refine ⟨0, by omega, by go_num, ?_, HB3.out⟩
            rw [Hid, show fl N (gNew i 0) = fl N fun _ => 0 from fl_ext fun j _ => by unfold gNew; rw [if_neg (Nat.not_lt_zero _)]]
            exact HO3.out
          case round =>
            obtain ⟨k, hk, rfl, HON, HBN⟩ := hrel
            obtain ⟨wi, rfl⟩ : ∃ wi : World, wi = wr := ⟨_, rfl⟩
            clear HO3 HB3
            by_cases hkq : k + 1 < q
            · have i3 : (k : Int) + 1 < (q : Int) := by omega
              have v0 := V0.out
              have hq := HQ.out
              have hx := wy_le (l := i + 1) (g := k) (by omega)
              have hwy : wy (i + 1) k = k * wy i k + wy i (k + 1) := rfl
              obtain ⟨b1, o1, eA, e1⟩ := (HS1.out wi HBN.out).at_ (k := k) (by omega)
              cases eA
              have hx1 : wi.cell? ⟨g, 0 + k, none⟩ = some (.int .i64 ((wy i k : Nat) : Int)) := by
                rw [e1, show (fl N (gWay N i))[k]?.getD 0 = atI (fl N (gWay N i)) k from rfl, fl_at _ (by omega), gWay, if_pos (by omega)]
              obtain ⟨b2, o2, eA, e2⟩ := (HS1.out wi HBN.out).at_ (k := k + 1) (by omega)
              cases eA
              have hx2 : wi.cell? ⟨g, 0 + (k + 1), none⟩ = some (.int .i64 ((wy i (k + 1) : Nat) : Int)) := by
                rw [e2, show (fl N (gWay N i))[k + 1]?.getD 0 = atI (fl N (gWay N i)) (k + 1) from rfl, fl_at _ (by omega), gWay, if_pos (by omega)]
              rw [Nat.zero_add] at hx1 hx2
              have HLN : Hid ((fl N (gNew i k)).length = N) := fl_len _ _
              have hc := HON.out.cellAt HLN.out (k := k) (by omega)
              have hf := HON.out.free HLN.out k
              have HST : Hid ((fl N (gNew i k)).set k ((wy (i + 1) k : Nat) : Int) = fl N (gNew i (k + 1))) := by
                rw [Hid, fl_set (by omega)]
                refine fl_ext fun j hj => ?_
                unfold gNew
                by_cases e : j = k
                · rw [if_pos e, if_pos (by omega), e]
                · rw [if_neg e]
                  by_cases e2 : j < k
                  · rw [if_pos e2, if_pos (by omega)]
                  · rw [if_neg e2, if_neg (by omega)]
              clear e1 e2 hq v0
              have hkx : k * wy i k ≤ 474869816156751 := by omega
              generalize wy (i + 1) k = z at *
              generalize wy i (k + 1) = y at *
              generalize wy i k = x at *
              have V1 : Hid (wrap64 ((k : Int) * (x : Int)) = ((k * x : Nat) : Int)) := by rw [Hid, ← Int.natCast_mul]; exact IntWalk.wrap64_in _ ⟨by omega, by omega⟩
              have V2 : Hid (wrap64 (((k * x : Nat) : Int) + (y : Int)) = (z : Int)) := by rw [Hid, ← Int.natCast_add, ← hwy]; exact IntWalk.wrap64_in _ ⟨by omega, by omega⟩
              have V3 : Hid (IntKind.i64.wrap ((k : Int) * (x : Int)) = ((k * x : Nat) : Int)) := by rw [Hid, ← Int.natCast_mul]; exact IntWalk.i64_in _ (by omega)
              have V4 : Hid (IntKind.i64.wrap (((k * x : Nat) : Int) + (y : Int)) = (z : Int)) := by rw [Hid, ← Int.natCast_add, ← hwy]; exact IntWalk.i64_in _ (by omega)
              clear hwy hkx hx
              generalize k * x = p at *
              have f1 : (k : Int) < (N : Int) := by omega
              have f2 : (k : Int) + 1 < (N : Int) := by omega
              have f3 : (0 : Int) ≤ (k : Int) + 1 := by omega
              have v0 := V0.out
              have v1 := V1.out
              have v2 := V2.out
              go_wp2
              go_region
              have HO5 : Hid (Ow (wi.setCell ⟨wm.heap.size, k, none⟩ (.int .i64 (z : Int))).drew wm.heap.size 3 (.slice (some ⟨wm.heap.size, 0, none⟩) N N) (fl N (gNew i (k + 1)))) := by
                rw [Hid, ← HST.out]
                exact HON.out.put HLN.out k _
              have HB5 : Hid (Below wm.heap.size wm (wi.setCell ⟨wm.heap.size, k, none⟩ (.int .i64 (z : Int))).drew) := (HBN.out.setCell (p := ⟨wm.heap.size, k, none⟩) (Nat.le_refl _) _).drew
              clear v0 v1 v2 f1 f2 f3 hc hf hx1 hx2 HON HBN
              generalize (wi.setCell ⟨wm.heap.size, k, none⟩ (.int .i64 (z : Int))).drew = w5 at HO5 HB5 ⊢
              go_wp2
              exact ⟨⟨k + 1, by omega, by go_num, HO5.out, HB5.out⟩, by simp [intOf]; omega⟩
            · have i3 : ¬ (k : Int) + 1 < (q : Int) := by omega
              have v0 := V0.out
              have HO5 : Hid (Ow wi w.heap.size 3 (.slice (some ⟨wm.heap.size, 0, none⟩) N N) (fl N (gWay N (i + 1)))) := by
                rw [Hid, show fl N (gWay N (i + 1)) = fl N (gNew i k) from fl_ext fun j hj => by
                  have := HQ.out
                  unfold gWay gNew
                  by_cases e : j < k
                  · rw [if_pos e, if_pos (by omega)]
                  · rw [if_neg e, if_neg (by omega)]]
                exact HON.out.base HB.out.size
              have HB5 : Hid (Below w.heap.size w wi) := HB.out.trans (HBN.out.mono HB.out.size)
              go_wp2
              clear v0
              exact ⟨⟨i + 1, wm.heap.size, by omega, by go_num, rfl, HO5.out, HB5.out⟩, by simp [intOf]; omega⟩
        · have him : i = m := by omega
          have i2 : ¬ (i : Int) < (m : Int) := by omega
          have hn := HN.out
          have hc := cellI HO.out (fl_len _ _) (k := u) (by omega)
          rw [fl_at _ (by omega), gWay, if_pos (by omega), him] at hc
          have f1 : (u : Int) < (N : Int) := by omega
          clear him hn
          go_wp2
          go_ret
          exact ⟨rfl, HB.out⟩
end Go.Proofs.Ytfeohcknopdamaa
