import Derived.Test.YtmnnehpoaedifaaJ13
import Derived.Test.YtmnnehpoaedifaaJ00
import Derived.Test.YtmnnehpoaedifaaJ07
import Derived.Test.YtmnnehpoaedifaaJ14
import Derived.Test.YtmnnehpoaedifaaJ02
/- Contracts of package shunt: areBelow, arePositions, isBlock. -/
namespace Go.Proofs.Ytmnnehpoaedifaa
open Go.RowKit

def inB (zs : List Int) (lim : Int) (i : Nat) : Bool := decide (0 ≤ zs[i]?.getD 0) && decide (zs[i]?.getD 0 < lim)
def belowB (zs : List Int) (k lim : Int) : Bool := decide ((zs.length : Int) = k) && allB (inB zs lim) zs.length
def posB (zs : List Int) (k lim : Int) : Bool := belowB zs k lim && ascB zs

theorem areBelow_any (A : Option Addr) (n c : Nat) (zs : List Int) (k lim : Int) (w : World) (hs : Sl w A n c zs) :
    Calls Try.prog 78 #[.slice A n c, .int .i64 k, .int .i64 lim] w fun e w' => e = .returned (.bool (belowB zs k lim)) ∧ w = w' := by
  have hcap := hs.cap
  have hbig := hs.big
  have HS := Lib.hid hs; clear hs
  by_cases hk : (n : Int) = k
  · subst hk
    have g0 : ((n : Int) != (n : Int)) = false := by simp
    have HB0 : Hid (belowB zs n lim = allB (inB zs lim) n) := by unfold belowB; rw [Hid, HS.out.len]; simp
    go_enter Try.func78, Try.ntmps78
    go_wp2
    go_loopw [8, 15] (fun _ i w' => ∃ j : Nat, j ≤ n ∧ i = .int .i64 j ∧ Hid (∀ t, t < j → inB zs lim t = true) ∧ w = w') (fun _ i _ => n - (intOf i).toNat)
    case atStart => exact ⟨0, by omega, by go_num, fun t ht => absurd ht (by omega), rfl⟩
    case round =>
      obtain ⟨j, hj, rfl, HOK, rfl⟩ := hrel
      by_cases hlt : j < n
      · obtain ⟨b0, off0, rfl, hcx⟩ := HS.out.at_ hlt
        obtain ⟨x, hx⟩ : ∃ x, x = zs[j]?.getD 0 := ⟨_, rfl⟩
        rw [← hx] at hcx
        have HX := Lib.hid hx; clear hx
        by_cases h1 : x < 0
        · have g1 : decide (x < 0) = true := by simpa using h1
          have HB : Hid (false = belowB zs n lim) := by
            rw [Hid, HB0.out]
            exact allB_bad hlt (by unfold inB; rw [← HX.out, decide_eq_false (by omega)]; rfl)
          go_wp2
          go_ret
          exact ⟨bend HB.out, rfl⟩
        · have g1 : decide (x < 0) = false := by simpa using h1
          by_cases h2 : lim ≤ x
          · have g2 : decide (lim ≤ x) = true := by simpa using h2
            have HB : Hid (false = belowB zs n lim) := by
              rw [Hid, HB0.out]
              exact allB_bad hlt (by unfold inB; rw [← HX.out, decide_eq_false (p := x < lim) (by omega), Bool.and_false])
            go_wp2
            go_ret
            exact ⟨bend HB.out, rfl⟩
          · have g2 : decide (lim ≤ x) = false := by simpa using h2
            have HN : Hid (∀ t, t < j + 1 → inB zs lim t = true) := ok_step HOK.out (by unfold inB; rw [← HX.out, decide_eq_true (by omega), decide_eq_true (by omega)]; rfl)
            go_wp2
            go_roundw
            case rel => exact ⟨j + 1, by omega, by go_num, HN, by first | rfl | trivial⟩
            case measure => simp [intOf]; omega
      · obtain rfl : j = n := by omega
        have HB : Hid (true = belowB zs j lim) := by rw [Hid, HB0.out]; exact allB_good HOK.out
        go_wp2
        go_ret
        exact ⟨bend HB.out, rfl⟩
  · have g0 : ((n : Int) != k) = true := by simpa using hk
    have HB : Hid (false = belowB zs k lim) := by unfold belowB; rw [Hid, HS.out.len, decide_eq_false hk]; rfl
    go_enter Try.func78, Try.ntmps78
    go_wp2
    go_ret
    exact ⟨bend HB.out, rfl⟩

set_option maxHeartbeats 800000 in
theorem arePositions_any (A : Option Addr) (n c : Nat) (zs : List Int) (k lim : Int) (w : World) (hs : Sl w A n c zs) (hn : n ≤ 1099511627776) :
    Calls Try.prog 77 #[.slice A n c, .int .i64 k, .int .i64 lim] w fun e w' => e = .returned (.bool (posB zs k lim)) ∧ Dr w w' := by
  have HA := Lib.hid (areBelow_any A n c zs k lim w hs)
  have HS := Lib.hid hs; clear hs
  cases hb : belowB zs k lim with
  | false =>
    rw [hb] at HA
    have HB : Hid (false = posB zs k lim) := by unfold posB; rw [hb]; rfl
    clear hb
    go_enter Try.func77, Try.ntmps77
    go_wp2_with (go_at_call 78; refine HA.out.mono ?_; clear HA; rintro e w1 ⟨rfl, rfl⟩)
    go_ret
    exact ⟨bend HB.out, Dr.refl _⟩
  | true =>
    rw [hb] at HA
    have HP : Hid (posB zs k lim = allB (fun i => decide (zs[i]?.getD 0 < zs[i + 1]?.getD 0)) (n - 1)) := by unfold posB ascB; rw [Hid, hb, HS.out.len]; rfl
    have hk : k = n := by
      unfold belowB at hb
      simp only [Bool.and_eq_true, decide_eq_true_eq] at hb
      rw [← hb.1, HS.out.len]
    have HBB := Lib.hid hb; clear hb
    subst hk
    go_enter Try.func77, Try.ntmps77
    go_wp2_with (go_at_call 78; refine HA.out.mono ?_; clear HA; rintro e w1 ⟨rfl, rfl⟩)
    go_loopw [7] (fun i w' => ∃ j : Nat, (j + 1 ≤ n ∨ j = 0) ∧ i = .int .i64 ((j : Int) + 1) ∧ Hid (∀ t, t < j → (fun i => decide (zs[i]?.getD 0 < zs[i + 1]?.getD 0)) t = true) ∧ Dr w w') (fun i _ => n - (intOf i).toNat)
    case atStart => exact ⟨0, by omega, by go_num, fun t ht => absurd ht (by omega), Dr.refl _⟩
    case round =>
      obtain ⟨j, hj, rfl, HOK, hW⟩ := hrel
      by_cases hlt : j + 1 < n
      · obtain ⟨b0, off0, rfl, hcx⟩ := HS.out.cells (by omega)
        have hc1 := (hW.cell _).trans (hcx (j + 1) hlt)
        have hc0 := (hW.cell _).trans (hcx j (by omega))
        clear hcx
        obtain ⟨x, hx⟩ : ∃ x, x = zs[j]?.getD 0 := ⟨_, rfl⟩
        obtain ⟨y, hy⟩ : ∃ y, y = zs[j + 1]?.getD 0 := ⟨_, rfl⟩
        rw [← hx] at hc0
        rw [← hy] at hc1
        have HX := Lib.hid hx; clear hx
        have HY := Lib.hid hy; clear hy
        have hw1 : IntKind.i64.wrap (j : Int) = j := IntWalk.i64_in _ (by omega)
        by_cases h1 : y ≤ x
        · have g1 : decide (y ≤ x) = true := by simpa using h1
          have HB : Hid (false = posB zs n lim) := by
            rw [Hid, HP.out]
            exact allB_bad (k := j) (by omega) (by show decide (zs[j]?.getD 0 < zs[j + 1]?.getD 0) = false; rw [← HX.out, ← HY.out]; exact decide_eq_false (by omega))
          go_wp2
          go_quiet (fail)
          go_wp2
          go_ret
          exact ⟨bend HB.out, hW.more _⟩
        · have g1 : decide (y ≤ x) = false := by simpa using h1
          have HN : Hid (∀ t, t < j + 1 → (fun i => decide (zs[i]?.getD 0 < zs[i + 1]?.getD 0)) t = true) := ok_step HOK.out (by show decide (zs[j]?.getD 0 < zs[j + 1]?.getD 0) = true; rw [← HX.out, ← HY.out]; exact decide_eq_true (by omega))
          go_wp2
          go_quiet (fail)
          go_wp2
          go_roundw
          case rel => exact ⟨j + 1, .inl (by omega), by go_num, HN, hW.more _⟩
          case measure => simp [intOf]; omega
      · have HB : Hid (true = posB zs n lim) := by
          rw [Hid, HP.out]
          exact allB_good (fun t ht => HOK.out t (by omega))
        have hd : ¬ ((j : Int) + 1 < n) := by omega
        go_wp2
        go_ret
        exact ⟨bend HB.out, hW⟩
end Go.Proofs.Ytmnnehpoaedifaa
/- Contracts of package shunt: isBlock, planSorts. -/
namespace Go.Proofs.Ytmnnehpoaedifaa
open Go.RowKit

/-- Ascending positions are different ones. -/
theorem belowB_asc {zs : List Int} {k lim : Int} : (belowB zs k lim && ascB zs) = (decide ((zs.length : Int) = k) && atB zs lim && ascB zs) := by
  cases ha : ascB zs with
  | false => simp
  | true =>
    have hd := diff_of_asc ha
    rw [Bool.and_true, Bool.and_true]
    unfold belowB
    congr 1
    rw [Bool.eq_iff_iff, atB_iff, allB_iff]
    constructor
    · intro h
      refine ⟨hd, fun i hi => ?_⟩
      have := h i hi
      unfold inB at this
      simp at this
      exact this
    · rintro ⟨_, h⟩ i hi
      have := h i hi
      unfold inB
      simp
      exact this
theorem posB_at {zs : List Int} {k lim : Int} (h : posB zs k lim = true) : (zs.length : Int) = k ∧ ∀ i, i < zs.length → 0 ≤ zs[i]?.getD 0 ∧ zs[i]?.getD 0 < lim := by
  unfold posB belowB at h
  simp only [Bool.and_eq_true, decide_eq_true_eq] at h
  refine ⟨h.1.1, fun i hi => ?_⟩
  have := (allB_iff.1 h.1.2) i hi
  unfold inB at this
  simp at this
  exact this
theorem sblock_pos (o l : List Int) : sblockB o l = (posB l 3 o.length && (decide (elt o (l[2]?.getD 0) < elt o (l[0]?.getD 0)) && decide (elt o (l[0]?.getD 0) < elt o (l[1]?.getD 0)))) := by
  unfold sblockB posB
  rw [belowB_asc]
  congr 2
  congr 1
  rw [Bool.eq_iff_iff]
  simp
  omega

set_option maxHeartbeats 800000 in
theorem isBlock_any (A B : Option Addr) (n c m d : Nat) (o l : List Int) (w : World) (hs : Sl w A n c o) (hl : Sl w B m d l) (hbig : n ≤ 1099511627776) (hbig' : m ≤ 1099511627776) :
    Calls Try.prog 57 #[.slice A n c, .slice B m d] w fun e w' => e = .returned (.bool (sblockB o l)) ∧ Dr w w' := by
  have HA := arePositions_any B m d l 3 (n : Int) w hl hbig'
  have HS := Lib.hid hs; clear hs
  have HL := Lib.hid hl; clear hl
  have HSB : Hid (sblockB o l = (posB l 3 n && (decide (elt o (l[2]?.getD 0) < elt o (l[0]?.getD 0)) && decide (elt o (l[0]?.getD 0) < elt o (l[1]?.getD 0))))) := by rw [Hid, sblock_pos, HS.out.len]
  cases hb : posB l 3 (n : Int) with
  | false =>
    rw [hb] at HA
    have HAA := Lib.hid HA; clear HA
    have HB : Hid (false = sblockB o l) := by rw [Hid, HSB.out, hb]; rfl
    clear hb
    go_enter Try.func57, Try.ntmps57
    go_wp2_with (go_at_call 77; refine HAA.out.mono ?_; clear HAA; rintro e w1 ⟨rfl, hd1⟩)
    go_ret
    exact ⟨bend HB.out, hd1⟩
  | true =>
    rw [hb] at HA
    have HAA := Lib.hid HA; clear HA
    obtain ⟨h3, hin⟩ := posB_at hb
    rw [HL.out.len] at h3 hin
    have hm : m = 3 := by omega
    subst hm
    obtain ⟨x, hx⟩ : ∃ x : Nat, l[0]?.getD 0 = (x : Int) := ⟨(l[0]?.getD 0).toNat, by have := hin 0 (by omega); omega⟩
    obtain ⟨y, hy⟩ : ∃ y : Nat, l[1]?.getD 0 = (y : Int) := ⟨(l[1]?.getD 0).toNat, by have := hin 1 (by omega); omega⟩
    obtain ⟨z, hz⟩ : ∃ z : Nat, l[2]?.getD 0 = (z : Int) := ⟨(l[2]?.getD 0).toNat, by have := hin 2 (by omega); omega⟩
    have hxn : x < n := by have := (hin 0 (by omega)).2; rw [hx] at this; omega
    have hyn : y < n := by have := (hin 1 (by omega)).2; rw [hy] at this; omega
    have hzn : z < n := by have := (hin 2 (by omega)).2; rw [hz] at this; omega
    obtain ⟨b0, off0, rfl, hc⟩ := HS.out.cells (by omega)
    obtain ⟨b1, off1, rfl, hd⟩ := HL.out.cells (by omega)
    have HC := Lib.hid hc; clear hc
    have HD := Lib.hid hd; clear hd
    rw [hb, hx, hy, hz] at HSB
    have HIN := Lib.hid hin; clear hin
    have HX := Lib.hid hx; clear hx
    have HY := Lib.hid hy; clear hy
    have HZ := Lib.hid hz; clear hz
    obtain ⟨a, ha⟩ : ∃ a : Int, a = o[x]?.getD 0 := ⟨_, rfl⟩
    obtain ⟨b, hbb⟩ : ∃ a : Int, a = o[y]?.getD 0 := ⟨_, rfl⟩
    obtain ⟨e, he⟩ : ∃ a : Int, a = o[z]?.getD 0 := ⟨_, rfl⟩
    have HSB2 : Hid (sblockB o l = (decide (e < a) && decide (a < b))) := by
      rw [Hid, HSB.out, ha, hbb, he]; unfold elt; simp
    have HCE : Hid (∀ W, Dr w W → (W.cell? ⟨b1, off1, none⟩ = some (.int .i64 x) ∧ W.cell? ⟨b1, off1 + 1, none⟩ = some (.int .i64 y) ∧ W.cell? ⟨b1, off1 + 2, none⟩ = some (.int .i64 z)) ∧
        W.cell? ⟨b0, off0 + x, none⟩ = some (.int .i64 a) ∧ W.cell? ⟨b0, off0 + y, none⟩ = some (.int .i64 b) ∧ W.cell? ⟨b0, off0 + z, none⟩ = some (.int .i64 e)) := fun W h => by
      refine ⟨⟨?_, ?_, ?_⟩, ?_, ?_, ?_⟩
      · have := (h.cell _).trans (HD.out 0 (by omega)); rw [HX.out] at this; exact this
      · have := (h.cell _).trans (HD.out 1 (by omega)); rw [HY.out] at this; exact this
      · have := (h.cell _).trans (HD.out 2 (by omega)); rw [HZ.out] at this; exact this
      · rw [ha]; exact (h.cell _).trans (HC.out x hxn)
      · rw [hbb]; exact (h.cell _).trans (HC.out y hyn)
      · rw [he]; exact (h.cell _).trans (HC.out z hzn)
    clear ha hbb he hb h3 HSB
    by_cases h1 : e < a
    · have g1 : decide (e < a) = true := by simpa using h1
      by_cases h2 : a < b
      · have g2 : decide (a < b) = true := by simpa using h2
        have HB : Hid (true = sblockB o l) := by rw [Hid, HSB2.out, g1, g2]; rfl
        clear h1 h2
        go_enter Try.func57, Try.ntmps57
        go_wp2_with (go_at_call 77; refine HAA.out.mono ?_; clear HAA; rintro q w1 ⟨rfl, hd1⟩; obtain ⟨⟨c1, c2, c3⟩, c4, c5, c6⟩ := HCE.out _ hd1)
        go_quiet (fail)
        go_wp2
        go_ret
        exact ⟨bend HB.out, hd1.more _⟩
      · have g2 : decide (a < b) = false := by simpa using h2
        have HB : Hid (false = sblockB o l) := by rw [Hid, HSB2.out, g2, Bool.and_false]
        clear h1 h2
        go_enter Try.func57, Try.ntmps57
        go_wp2_with (go_at_call 77; refine HAA.out.mono ?_; clear HAA; rintro q w1 ⟨rfl, hd1⟩; obtain ⟨⟨c1, c2, c3⟩, c4, c5, c6⟩ := HCE.out _ hd1)
        go_quiet (fail)
        go_wp2
        go_ret
        exact ⟨bend HB.out, hd1.more _⟩
    · have g1 : decide (e < a) = false := by simpa using h1
      have HB : Hid (false = sblockB o l) := by rw [Hid, HSB2.out, g1, Bool.false_and]
      clear h1
      go_enter Try.func57, Try.ntmps57
      go_wp2_with (go_at_call 77; refine HAA.out.mono ?_; clear HAA; rintro q w1 ⟨rfl, hd1⟩; obtain ⟨⟨c1, c2, c3⟩, c4, c5, c6⟩ := HCE.out _ hd1)
      go_quiet (fail)
      go_wp2
      go_ret
      exact ⟨bend HB.out, hd1.more _⟩
end Go.Proofs.Ytmnnehpoaedifaa
/- Contract of package shunt: planSorts; the promise of CheckStack. -/
namespace Go.Proofs.Ytmnnehpoaedifaa
open Go.RowKit

theorem plan_end {o : List Int} {p : ByteArray} {r : List Int} {nx wa : Nat} (h : PlanInv o p p.size r nx wa) (h2 : p.size = 2 * o.length) : wa = o.length + 1 ∧ planB o p.data.toList = true := by
  have h1 := h.1
  have hsz : p.size = p.data.toList.length := by simp
  rw [hsz] at h1
  unfold planTo at h1
  rw [List.take_length] at h1
  have hc := plan_count o p.data.toList [] 0 1 r nx wa (Nat.zero_le _) h1
  rw [← hsz] at hc
  simp at hc
  refine ⟨by omega, ?_⟩
  unfold planB planTo
  rw [List.take_length, h1, ← hsz]
  simp [h2]
/-- What the loop of planSorts keeps. -/
structure Plans (w w' : World) (vs : Value) (r : List Int) : Prop where
  pile : Pile w' w.heap.size (w.heap.size + 1) 3 vs r
  below : Below w.heap.size w w'
theorem Plans.turn {w w1 w2 : World} {vs vs' : Value} {r r' : List Int} (h : Plans w w1 vs r) (hp : Pile w2 w.heap.size (w.heap.size + 1) 3 vs' r') (hg : Tn w1 w2 (PB w.heap.size vs)) : Plans w w2 vs' r' :=
  ⟨hp, h.below.trans (hg.below (fun k hk => by
      rcases hk with rfl | hk
      · omega
      · have := (h.pile.own.lt hk).1; omega) h.below.size)⟩

set_option maxHeartbeats 1600000 in
theorem planSortsL_any (A : Option Addr) (n c : Nat) (zs : List Int) (p : ByteArray) (w : World) (hs : Sl w A n c zs) (hbig : n ≤ 60) (hp : p.size ≤ 1099511627776) :
    Calls Try.prog 56 #[.slice A n c, .string p] w fun e w' => e = .returned (.bool (planB zs p.data.toList)) ∧ Below w.heap.size w w' := by
  have HS := Lib.hid hs; clear hs
  by_cases h2n : p.size = 2 * n
  · have g0 : ((p.size : Int) != 2 * (n : Int)) = false := by simp; omega
    have H2 := Lib.hid h2n; clear h2n
    go_enter Try.func56, Try.ntmps56
    go_wp2
    have HE0 : Hid (Plans w (w.alloc (.cells #[.slice none 0 0] 80)) (.slice none 0 0) []) :=
      ⟨⟨by simp, by simp, Ow.nil _ _ _, Nat.lt_succ_self _, by simp⟩, (Below.refl _ _).alloc (Nat.le_refl _) _⟩
    go_loopw [6, 7, 8, 9, 10, 19, 25, 38] (fun ar lf _ _ _ i _ _ w' => ∃ (k : Nat) (r : List Int) (nx l : Nat) (vs : Value), k ≤ p.size ∧ i = .int .i64 k ∧ ar = .int .i64 nx ∧ lf = .int .i64 l ∧ nx ≤ n ∧ l ≤ k ∧ r.length ≤ nx ∧ Hid (PlanInv zs p k r nx (l + 1)) ∧ Hid (Plans w w' vs r)) (fun _ _ _ _ _ i _ _ _ => p.size - (intOf i).toNat)
    case atStart => exact ⟨0, [], 0, 0, _, by omega, by go_num, rfl, rfl, by omega, by omega, by simp, ⟨rfl, by omega, by simp, by omega, by omega⟩, HE0⟩
    case round =>
      obtain ⟨k, r, nx, l, vs, hk, rfl, rfl, rfl, hnx, hl, hrn, HP, HT⟩ := hrel
      obtain ⟨wo, rfl⟩ : ∃ wo : World, wo = wr := ⟨_, rfl⟩
      by_cases hlt : k < p.size
      · by_cases h105 : p[k].toNat = 105
        · have g1 : ((p[k].toNat : Int) == 105) = true := by rw [h105]; rfl
          by_cases hx : nx < n
          · obtain ⟨b0, off0, rfl, hcx⟩ := HS.out.at_ hx
            have hb0 := HS.out.old b0 off0 rfl (by omega)
            have hcxr := (HT.out.below.cell (p := ⟨b0, off0 + nx, none⟩) hb0).trans hcx
            clear hcx
            have HNN := Lib.hid (HP.out.push hlt h105 (by rw [HS.out.len]; exact hx))
            clear h105
            have g2 : ((nx : Int) == (n : Int)) = false := by simp; omega
            have H1 := Lib.hid (push_any (zs[nx]?.getD 0) HT.out.pile (by omega))
            have HRN := Lib.hid hrn; clear hrn
            go_wp2_with (go_at_call 76; refine H1.out.mono ?_; clear H1; rintro e w2 ⟨rfl, vs2, hp2, ht2, hat2⟩; have HT2 := Lib.hid (HT.out.turn hp2 ht2); clear hp2 ht2 hat2)
            go_roundw
            case rel => exact ⟨k + 1, _, nx + 1, l, vs2, by omega, by go_num, by go_num, rfl, by omega, by omega, by have := HRN.out; simp; omega, HNN, HT2⟩
            case measure => simp [intOf]; omega
          · have g2 : ((nx : Int) == (n : Int)) = true := by simp; omega
            have HB : Hid (false = planB zs p.data.toList) := HP.out.fails hlt (by
              unfold planStep
              rw [if_neg (fun h => hx (by have := h.2; rw [HS.out.len] at this; exact this))]
              cases r <;> simp [h105])
            clear h105
            go_wp2
            go_ret
            exact ⟨bend HB.out, HT.out.below⟩
        · have g1 : ((p[k].toNat : Int) == 105) = false := by simp; omega
          by_cases h111 : p[k].toNat = 111
          · have g3 : ((p[k].toNat : Int) == 111) = true := by rw [h111]; rfl
            have H1 := Lib.hid (pop_any HT.out.pile (by omega))
            cases r with
            | nil =>
              have HB : Hid (false = planB zs p.data.toList) := HP.out.fails hlt (by unfold planStep; rw [if_neg (by rw [h111]; omega)])
              clear h105 h111
              go_wp2_with (go_at_call 75; refine H1.out.mono ?_; clear H1; rintro e w2 ⟨rfl, vs2, hp2, ht2, hat2⟩; have HT2 := Lib.hid (HT.out.turn hp2 (ht2.mono fun _ _ h => .inl h)); clear hp2 ht2 hat2)
              go_ret
              exact ⟨bend HB.out, HT2.out.below⟩
            | cons t r =>
              simp only [List.headD_cons, List.isEmpty_cons, Bool.not_false] at H1
              by_cases ht : t = (l : Int) + 1
              · have g4 : (t != (l : Int) + 1) = false := by simpa using ht
                have HNN := Lib.hid (HP.out.pop hlt h111 (by omega))
                clear h105 h111 ht
                have HRN := Lib.hid hrn; clear hrn
                go_wp2_with (go_at_call 75; refine H1.out.mono ?_; clear H1; rintro e w2 ⟨rfl, vs2, hp2, ht2, hat2⟩; have HT2 := Lib.hid (HT.out.turn hp2 (ht2.mono fun _ _ h => .inl h)); clear hp2 ht2 hat2)
                go_roundw
                case rel => exact ⟨k + 1, r, nx, l + 1, vs2, by omega, by go_num, rfl, by go_num, by omega, by omega, by have := HRN.out; simp at this; omega, HNN, HT2⟩
                case measure => simp [intOf]; omega
              · have g4 : (t != (l : Int) + 1) = true := by simpa using ht
                have HB : Hid (false = planB zs p.data.toList) := HP.out.fails hlt (by unfold planStep; rw [if_neg (by rw [h111]; omega)]; simp; intro _; omega)
                clear h105 h111 ht
                go_wp2_with (go_at_call 75; refine H1.out.mono ?_; clear H1; rintro e w2 ⟨rfl, vs2, hp2, ht2, hat2⟩; have HT2 := Lib.hid (HT.out.turn hp2 (ht2.mono fun _ _ h => .inl h)); clear hp2 ht2 hat2)
                go_ret
                exact ⟨bend HB.out, HT2.out.below⟩
          · have g3 : ((p[k].toNat : Int) == 111) = false := by simp; omega
            have HB : Hid (false = planB zs p.data.toList) := HP.out.fails hlt (by unfold planStep; rw [if_neg (fun h => h105 h.1)]; cases r <;> simp [h111])
            clear h105 h111
            go_wp2
            go_ret
            exact ⟨bend HB.out, HT.out.below⟩
      · obtain rfl : k = p.size := by omega
        have hE := plan_end HP.out (by rw [HS.out.len]; exact H2.out)
        rw [HS.out.len] at hE
        have hln : l = n := by omega
        have HB : Hid (true = planB zs p.data.toList) := hE.2.symm
        clear hE
        subst hln
        have g5 : ((l : Int) == (l : Int)) = true := by simp
        go_wp2
        go_ret
        exact ⟨bend HB.out, HT.out.below⟩
  · have g0 : ((p.size : Int) != 2 * (n : Int)) = true := by simp; omega
    have HB : Hid (false = planB zs p.data.toList) := by
      unfold planB; rw [Hid, HS.out.len]
      simp [h2n]
    clear h2n
    go_enter Try.func56, Try.ntmps56
    go_wp2
    go_ret
    exact ⟨bend HB.out, Below.refl _ _⟩
end Go.Proofs.Ytmnnehpoaedifaa
