import Derived.Test.YtmbdjjkgjnemiaaT05
import Derived.Deep.DeepMust
import Derived.StillTailTactics
/- Layer 6, mathematics: depths. -/
namespace Go.Proofs.Ytmbdjjkgjnemiaa
open Go.RowKit
set_option linter.unusedVariables false

/-- The depth, as far as r rounds tell. -/
def dep (N : List Nd) : Nat → Nat → Nat
  | 0, _ => 0
  | r + 1, i => if 4 ≤ (nd N i).k then 1 + max (dep N r (nd N i).a) (dep N r (nd N i).b) else 0
theorem dep_leaf {N : List Nd} {i : Nat} (h : ¬ 4 ≤ (nd N i).k) (r : Nat) : dep N r i = 0 := by
  cases r with
  | zero => rfl
  | succ r => exact if_neg h
theorem dep_part {N : List Nd} {i : Nat} (h : 4 ≤ (nd N i).k) (r : Nat) : dep N (r + 1) i = 1 + max (dep N r (nd N i).a) (dep N r (nd N i).b) := if_pos h
theorem dep_le (N : List Nd) : ∀ r i, dep N r i ≤ r
  | 0, _ => Nat.le_refl _
  | r + 1, i => by
    unfold dep
    split
    · have := dep_le N r (nd N i).a
      have := dep_le N r (nd N i).b
      omega
    · omega
theorem dep_mono (N : List Nd) : ∀ r i, dep N r i ≤ dep N (r + 1) i
  | 0, _ => Nat.zero_le _
  | r + 1, i => by
    by_cases h : 4 ≤ (nd N i).k
    · rw [dep_part h, dep_part h]
      have := dep_mono N r (nd N i).a
      have := dep_mono N r (nd N i).b
      omega
    · rw [dep_leaf h]; omega
theorem dep_monos (N : List Nd) (i : Nat) {r s : Nat} (h : r ≤ s) : dep N r i ≤ dep N s i := by
  obtain ⟨d, rfl⟩ := Nat.exists_eq_add_of_le h
  induction d with
  | zero => exact Nat.le_refl _
  | succ d ih => exact Nat.le_trans (ih (by omega)) (dep_mono N _ i)
/-- Once the rounds outrun the depth, it stands. -/
theorem dep_fin {N : List Nd} : ∀ {r i : Nat}, dep N r i < r → ∀ d, dep N (r + d) i = dep N r i
  | 0, i, h, _ => by omega
  | r + 1, i, h, d => by
    rw [show r + 1 + d = r + d + 1 from by omega]
    by_cases h4 : 4 ≤ (nd N i).k
    · rw [dep_part h4] at h
      rw [dep_part h4, dep_part h4, dep_fin (by omega) d, dep_fin (by omega) d]
    · rw [dep_leaf h4, dep_leaf h4]
def uD (N : List Nd) (r : Nat) : Nat → Nat := fun i => if dep N r i = r then i else i + 1
theorem uD_iff {N : List Nd} {r i : Nat} : uD N r i = i ↔ dep N r i = r := by
  unfold uD
  split
  · simp [*]
  · simp [*]
theorem dep_back {N : List Nd} {r i : Nat} (h : dep N (r + 1) i = r + 1) : dep N r i = r := by
  rcases Nat.lt_or_ge (dep N r i) r with hl | hl
  · have := dep_fin hl 1
    omega
  · have := dep_le N r i
    omega
/-- No node drops out in round r. -/
def Stay (N : List Nd) (r : Nat) : Prop := ∀ i, i < N.length → dep N r i = r → dep N (r + 1) i = r + 1
theorem stay_next {N : List Nd} (hok : OkN N) {r : Nat} (h : Stay N r) : Stay N (r + 1) := fun i hi e => by
  by_cases h4 : 4 ≤ (nd N i).k
  · rw [dep_part h4] at e ⊢
    have ha := dep_le N (r + 1) (nd N i).a
    have hb := dep_le N (r + 1) (nd N i).b
    have ha' := dep_le N r (nd N i).a
    have hb' := dep_le N r (nd N i).b
    rcases (by omega : dep N r (nd N i).a = r ∨ dep N r (nd N i).b = r) with h1 | h1
    · have := h _ (hok.a i hi) h1
      omega
    · have := h _ (hok.b i hi) h1
      omega
  · rw [dep_leaf h4] at e; omega
theorem cnt_drop {N : List Nd} (hok : OkN N) : ∀ r, ¬ Stay N r → cntF (uD N (r + 1)) N.length + (r + 1) ≤ N.length
  | 0, h => by
    obtain ⟨h1, h2⟩ := cnt_mono (u := uD N 1) (v := uD N 0) N.length fun i hi e => uD_iff.2 rfl
    have := cnt_le (uD N 0) N.length
    rcases Nat.lt_or_ge (cntF (uD N 1) N.length) (cntF (uD N 0) N.length) with hl | hl
    · show cntF (uD N 1) N.length + 1 ≤ _
      omega
    · exact absurd (fun i hi e => uD_iff.1 (h2 (by omega) i hi (uD_iff.2 e))) h
  | r + 1, h => by
    have ih := cnt_drop hok r fun hs => h (stay_next hok hs)
    obtain ⟨h1, h2⟩ := cnt_mono (u := uD N (r + 2)) (v := uD N (r + 1)) N.length fun i hi e => uD_iff.2 (dep_back (uD_iff.1 e))
    rcases Nat.lt_or_ge (cntF (uD N (r + 2)) N.length) (cntF (uD N (r + 1)) N.length) with hl | hl
    · show cntF (uD N (r + 2)) N.length + (r + 2) ≤ _
      omega
    · exact absurd (fun i hi e => uD_iff.1 (h2 (by omega) i hi (uD_iff.2 e))) h
/-- As many rounds as nodes tell whether the depth is infinite. -/
theorem dep_inf {N : List Nd} (hok : OkN N) {i : Nat} (hi : i < N.length) (h : dep N N.length i = N.length) : ∀ d, dep N (N.length + d) i = N.length + d := by
  have hst : Stay N N.length := by
    rcases Classical.em (Stay N N.length) with hs | hs
    · exact hs
    · have := cnt_drop hok _ hs
      omega
  have all : ∀ d, Stay N (N.length + d) := fun d => by
    induction d with
    | zero => exact hst
    | succ d ih => exact stay_next hok ih
  intro d
  induction d with
  | zero => exact h
  | succ d ih => exact all d i hi ih
/-- In place: after r rounds and the first j nodes of the next one. -/
structure DpI (N : List Nd) (r j : Nat) (D : Nat → Nat) : Prop where
  lo : ∀ i, i < N.length → dep N r i ≤ D i
  l2 : ∀ i, i < j → dep N (r + 1) i ≤ D i
  hi : ∀ i, i < N.length → D i ≤ dep N (r * N.length + j) i
theorem DpI.start (N : List Nd) : DpI N 0 0 (fun _ => 0) := ⟨fun _ _ => Nat.le_refl _, fun _ h => absurd h (Nat.not_lt_zero _), fun _ _ => Nat.zero_le _⟩
theorem DpI.round {N : List Nd} {r : Nat} {D : Nat → Nat} (h : DpI N r N.length D) : DpI N (r + 1) 0 D := ⟨h.l2, fun _ h => absurd h (Nat.not_lt_zero _), fun i hi => by rw [Nat.succ_mul, Nat.add_zero]; exact h.hi i hi⟩
theorem DpI.skip {N : List Nd} {r j : Nat} {D : Nat → Nat} (h : DpI N r j D) (h4 : ¬ 4 ≤ (nd N j).k) : DpI N r (j + 1) D :=
  ⟨h.lo, fun i hi => by
    by_cases e : i = j
    · subst e; rw [dep_leaf h4]; omega
    · exact h.l2 i (by omega), fun i hi => Nat.le_trans (h.hi i hi) (by rw [← Nat.add_assoc]; exact dep_mono N _ i)⟩
theorem DpI.put {N : List Nd} {r j : Nat} {D : Nat → Nat} (h : DpI N r j D) (hok : OkN N) (hj : j < N.length) (h4 : 4 ≤ (nd N j).k) : DpI N r (j + 1) (fun i => if i = j then 1 + max (D (nd N j).a) (D (nd N j).b) else D i) := by
  have ha := hok.a j hj
  have hb := hok.b j hj
  have la := h.lo _ ha
  have lb := h.lo _ hb
  have ua := h.hi _ ha
  have ub := h.hi _ hb
  have lower : dep N (r + 1) j ≤ 1 + max (D (nd N j).a) (D (nd N j).b) := by rw [dep_part h4]; omega
  refine ⟨fun i hi => ?_, fun i hi => ?_, fun i hi => ?_⟩
  · by_cases e : i = j
    · subst e; rw [if_pos rfl]; exact Nat.le_trans (dep_mono N r i) lower
    · rw [if_neg e]; exact h.lo i hi
  · by_cases e : i = j
    · subst e; rw [if_pos rfl]; exact lower
    · rw [if_neg e]; exact h.l2 i (by omega)
  · rw [← Nat.add_assoc]
    by_cases e : i = j
    · subst e; rw [if_pos rfl, dep_part h4]; omega
    · rw [if_neg e]; exact Nat.le_trans (h.hi i hi) (dep_mono N _ i)
theorem DpI.bound {N : List Nd} {r j : Nat} {D : Nat → Nat} (h : DpI N r j D) {i : Nat} (hi : i < N.length) : D i ≤ r * N.length + j := Nat.le_trans (h.hi i hi) (dep_le N _ i)
theorem DpI.end {N : List Nd} {D : Nat → Nat} (h : DpI N N.length 0 D) {i : Nat} (hi : i < N.length) (hpos : 1 ≤ N.length) : (dep N N.length i < N.length → D i = dep N N.length i) ∧ (N.length ≤ dep N N.length i → N.length ≤ D i) := by
  have lo := h.lo i hi
  have up := h.hi i hi
  refine ⟨fun hl => ?_, fun hl => by omega⟩
  have hge : N.length ≤ N.length * N.length + 0 := Nat.le_trans (Nat.le_mul_of_pos_right _ hpos) (Nat.le_add_right _ _)
  obtain ⟨d, hd⟩ := Nat.exists_eq_add_of_le hge
  rw [hd, dep_fin hl d] at up
  omega
end Go.Proofs.Ytmbdjjkgjnemiaa
/- Layer 6: Depth. -/
namespace Go.Proofs.Ytmbdjjkgjnemiaa
open Go.RowKit
set_option linter.unusedVariables false

theorem Sl.one (w : World) (e : Nat) (a : Int) : Sl (w.alloc (.cells #[.int .i64 a] e)) (some ⟨w.heap.size, 0, none⟩) 1 1 [a] := by
  obtain ⟨A, z, h, hs⟩ := (Ow.one w 0 e a (by omega)).sl_len (n := 1) rfl (by omega)
  injection h with h1 h2 h3
  subst h1; subst h3
  exact hs
theorem i64_small {x : Nat} (h : x ≤ 1000000) : IntKind.i64.wrap (1 + (x : Int)) = ((1 + x : Nat) : Int) := by rw [IntWalk.i64_in _ (by omega)]; omega
/-- What Depth keeps between rounds. -/
structure DpS (N : List Nd) (w : World) (n s r j : Nat) (wr : World) : Prop where
  i : ∃ D, DpI N r j D ∧ Ow wr w.heap.size 3 (.slice (some ⟨s, 0, none⟩) n n) (tabL n D)
  bl : Below w.heap.size w wr
set_option maxRecDepth 100000 in
set_option maxHeartbeats 6400000 in
theorem depth_any (N : List Nd) (A : Option Addr) (n c i : Nat) (w : World) (hN : Nl w A n c N) (hok : OkN N) (hi : i < n) (hn : n ≤ 24)
    (hv : ∀ g W, Below w.heap.size w W → Sl W (some ⟨g, 0, none⟩) 1 1 [(i : Int)] → Calls Try.prog 40 #[.slice A n c, .slice (some ⟨g, 0, none⟩) 1 1] W fun e w' => e = .returned (.bool true) ∧ Below W.heap.size W w') :
    Calls Try.prog 31 #[.slice A n c, .int .i64 (i : Int)] w fun e w' => ((dep N n i < n ∧ e = .returned (.tuple #[.int .i64 (dep N n i : Nat), .int .i64 0])) ∨ (dep N n i = n ∧ e = .returned (.tuple #[.int .i64 0, .int .i64 6]))) ∧ Below w.heap.size w w' := by
  have HL : Hid (N.length = n) := hN.len
  have hpos : 1 ≤ n := by rw [← HL.out]; exact hok.pos
  have HN := Lib.hid hN
  have HOK := Lib.hid hok
  have HV := Lib.hid hv
  obtain ⟨i0, hi0, hz0, hz1, hz2⟩ := info_parts Try.infoInt
  have HI : Hid (Try.prog.info? 3 = some i0 ∧ i0.zero = some (.int .i64 0) ∧ i0.size = 1 ∧ i0.bytes = 8) := ⟨hi0, hz0, hz1, hz2⟩
  have HB0 : Hid (Below w.heap.size w (w.alloc (.cells #[.int .i64 (i : Int)] 3))) := (Below.refl _ w).alloc (Nat.le_refl _) _
  have HSL : Hid (Sl (w.alloc (.cells #[.int .i64 (i : Int)] 3)) (some ⟨w.heap.size, 0, none⟩) 1 1 [(i : Int)]) := Sl.one w 3 (i : Int)
  clear hN hok hv hi0 hz0 hz1 hz2
  go_enter Try.func31, Try.ntmps31
  go_wp2_with (first
    | (go_at_call 40; refine (HV.out _ _ HB0.out HSL.out).mono ?_; rintro e w1 ⟨rfl, hb1⟩; have HB1 := Lib.hid (HB0.out.trans (hb1.mono HB0.out.size)); clear hb1)
    | (at_make; go_must (refine make_law _ rfl (.tmp 15) (.tmp 15) 69 rfl w.heap.size 3 i0 Try.underlying69 HI.out _ _ n rfl rfl (by omega) (by omega) (by omega) HB1.out.size ?_); intro w2 ho2 hg2; have HO2 := Lib.hid ho2; have HG2 := Lib.hid hg2; clear ho2 hg2))
  have HD0 : Hid (DpS N w n w1.heap.size 0 0 w2) := ⟨⟨_, DpI.start N, by
    have := HO2.out
    rw [tabL_zero (fun _ => 0)] at this
    rw [show tabL n (upTo (fun _ => 0) 0) = tabL n (fun _ => 0) from tabL_congr fun i _ => by simp [upTo]] at this
    exact this⟩, HB1.out.trans ⟨HG2.out.os, HG2.out.tape, HG2.out.output, HG2.out.size, fun k hk => HG2.out.block k (by have := HB1.out.size; omega) (by simp)⟩⟩
  have HLO : Hid (w.heap.size ≤ w1.heap.size) := HB1.out.size
  clear HO2 HG2 HB1 HSL HB0
  generalize w1.heap.size = s at *
  go_loopw [19] (fun r w' => ∃ k : Nat, k ≤ n ∧ r = .int .i64 (k : Int) ∧ Hid (DpS N w n s k 0 w')) (fun r _ => n - (intOf r).toNat)
  case atStart => exact ⟨0, by omega, by go_num, HD0.out⟩
  case round =>
    obtain ⟨k, hk, rfl, HD⟩ := hrel
    obtain ⟨wo, rfl⟩ : ∃ wo : World, wo = wr := ⟨_, rfl⟩
    clear HD0
    by_cases hlt : k < n
    · have i1 : (k : Int) < (n : Int) := by omega
      go_wp2
      clear i1
      go_loopw [23] (fun r w' => ∃ j : Nat, j ≤ n ∧ r = .int .i64 (j : Int) ∧ Hid (DpS N w n s k j w')) (fun r _ => n - (intOf r).toNat)
      case atStart => exact ⟨0, by omega, by go_num, HD.out⟩
      case round =>
        obtain ⟨j, hj, rfl, HJ⟩ := hrel
        obtain ⟨wi, rfl⟩ : ∃ wi : World, wi = wr := ⟨_, rfl⟩
        clear HD
        by_cases hlt2 : j < n
        · have i1 : (j : Int) < (n : Int) := by omega
          obtain ⟨⟨D, hD, hO⟩, hbl⟩ := HJ.out
          obtain ⟨b, off, rfl, hb, c0, c1, c2⟩ := (HN.out.below hbl (Nat.le_refl _)).rows j hlt2
          have hk6 := HOK.out.kind j (by rw [HL.out]; exact hlt2)
          have hap := HOK.out.a j (by rw [HL.out]; exact hlt2)
          have hbp := HOK.out.b j (by rw [HL.out]; exact hlt2)
          rw [HL.out] at hap hbp
          by_cases h4 : 4 ≤ (nd N j).k
          · have hput := hD.put HOK.out (by rw [HL.out]; exact hlt2) h4
            have hDa := hD.bound (by rw [HL.out]; exact hap)
            have hDb := hD.bound (by rw [HL.out]; exact hbp)
            rw [HL.out] at hDa hDb
            have hkn : k * n ≤ 24 * 24 := Nat.mul_le_mul (by omega) hn
            obtain ⟨x, hx⟩ : ∃ x, x = nd N j := ⟨_, rfl⟩
            rw [← hx] at c0 c1 c2 hap hbp h4 hput hDa hDb hk6
            obtain ⟨kk, p, q⟩ := x
            dsimp only at c0 c1 c2 hap hbp h4 hput hDa hDb hk6
            obtain ⟨d1, hd1⟩ : ∃ d, d = D p := ⟨_, rfl⟩
            obtain ⟨d2, hd2⟩ : ∃ d, d = D q := ⟨_, rfl⟩
            rw [← hd1, ← hd2] at hput
            rw [← hd1] at hDa
            rw [← hd2] at hDb
            have HHP := Lib.hid (fun W => hasParts_is ⟨kk, p, q⟩ true W (by rw [hasB'_nat kk hk6]; exact decide_eq_true h4))
            have HFC : Hid (∀ w1, Below wi.heap.size wi w1 → Ow w1 w.heap.size 3 (.slice (some ⟨s, 0, none⟩) n n) (tabL n D) ∧ w1.cell? ⟨s, p, none⟩ = some (.int .i64 (d1 : Int)) ∧ w1.cell? ⟨s, q, none⟩ = some (.int .i64 (d2 : Int))) := fun w1 hb1 => by
              have ho := hO.below hb1 (Nat.le_refl _)
              refine ⟨ho, ?_, ?_⟩
              · rw [ho.cellAt (tabL_len _ _) hap, tabL_at _ hap, ← hd1]
              · rw [ho.cellAt (tabL_len _ _) hbp, tabL_at _ hbp, ← hd2]
            have HPU := Lib.hid hput
            have HBL := Lib.hid hbl
            have HX := Lib.hid hx
            have j1 : (p : Int) < (n : Int) := by omega
            have j2 : (q : Int) < (n : Int) := by omega
            clear hx hd1 hd2 hput hO hD hbl hap hbp h4
            go_wp2_with (go_at_call 51; refine (HHP.out _).mono ?_; rintro e w3 ⟨rfl, hb3⟩)
            have hb8 : Below wi.heap.size wi w3 := ((Below.refl _ wi).alloc (Nat.le_refl _) _).trans (hb3.mono (by simp))
            have h8 : w3.drew.heap[wi.heap.size]? = some (.cells #[.int .i64 (kk : Int), .int .i64 (p : Int), .int .i64 (q : Int)] 59 (0, 0)) := (hb3.block wi.heap.size (by simp)).trans (heap_alloc_new wi _)
            have m1 := cell_in h8 (i := 1) rfl
            have m2 := cell_in h8 (i := 2) rfl
            obtain ⟨ho3, n1, n2⟩ := HFC.out w3.drew hb8.drew
            have hce := ho3.cellAt (tabL_len _ _) hlt2
            have hcf := ho3.free (tabL_len _ _) j
            have HB8 := Lib.hid hb8.drew
            have HO3 := Lib.hid ho3
            obtain ⟨u, hu⟩ : ∃ u, (tabL n D)[j]?.getD 0 = u := ⟨_, rfl⟩
            rw [hu] at hce
            clear hb8 h8 ho3 hb3 c0 c1 c2 i1 hu
            have hw1 := i64_small (x := d1) (by omega)
            have hw2 := i64_small (x := d2) (by omega)
            have HRD : Hid (∀ z : Nat, z = 1 + max d1 d2 → DpS N w n s k (j + 1) (w3.drew.setCell ⟨s, j, none⟩ (.int .i64 (z : Int)))) := fun z hz => by
              refine ⟨⟨_, HPU.out, ?_⟩, ?_⟩
              · rw [← hz, ← tabL_set D j z hlt2]
                exact HO3.out.put (tabL_len _ _) j (z : Int)
              · exact (HBL.out.trans (HB8.out.mono HBL.out.size)).setCell (p := ⟨s, j, none⟩) HLO.out _
            rcases Nat.lt_or_ge d1 d2 with hm | hm
            · have hm1 : (d1 : Int) < (d2 : Int) := by omega
              have HZ := Lib.hid (HRD.out (1 + d2) (by omega))
              clear hDa hDb hkn
              go_still_tail 15, (by kernel_rfl)
              change wpList _ _ _ _ _ w3.drew
              go_wp2
              exact ⟨⟨j + 1, by omega, by go_num, HZ.out⟩, by simp [intOf] <;> omega⟩
            · have hm1 : ¬ (d1 : Int) < (d2 : Int) := by omega
              have HZ := Lib.hid (HRD.out (1 + d1) (by omega))
              clear hDa hDb hkn
              go_still_tail 15, (by kernel_rfl)
              change wpList _ _ _ _ _ w3.drew
              go_wp2
              exact ⟨⟨j + 1, by omega, by go_num, HZ.out⟩, by simp [intOf] <;> omega⟩
          · have HHP := Lib.hid (fun W => hasParts_is ⟨(nd N j).k, (nd N j).a, (nd N j).b⟩ false W (by rw [hasB'_nat _ hk6]; exact decide_eq_false h4))
            have HSK := Lib.hid (hD.skip h4)
            have HO := Lib.hid hO
            have HBL := Lib.hid hbl
            generalize nd N j = x at c0 c1 c2 HHP
            obtain ⟨kk, p, q⟩ := x
            dsimp only at c0 c1 c2 HHP
            clear hO hbl hD hap hbp h4 hk6
            go_wp2_with (go_at_call 51; refine (HHP.out _).mono ?_; rintro e w3 ⟨rfl, hb3⟩; have HB3 : Hid (Below wi.heap.size wi w3) := ((Below.refl _ wi).alloc (Nat.le_refl _) _).trans (hb3.mono (by simp)); clear hb3)
            exact ⟨⟨j + 1, by omega, by go_num, ⟨_, HSK.out, HO.out.below HB3.out (Nat.le_refl _)⟩, HBL.out.trans (HB3.out.mono HBL.out.size)⟩, by simp [intOf] <;> omega⟩
        · have i1 : ¬ (j : Int) < (n : Int) := by omega
          have hjn : j = n := by omega
          have HR : Hid (DpS N w n s (k + 1) 0 wi) := by
            obtain ⟨⟨D, hD, hO⟩, hbl⟩ := HJ.out
            refine ⟨⟨D, ?_, hO⟩, hbl⟩
            rw [hjn, ← HL.out] at hD
            exact hD.round
          clear hjn
          go_wp2
          exact ⟨⟨k + 1, by omega, by go_num, HR.out⟩, by simp [intOf] <;> omega⟩
    · have hkn : k = n := by omega
      subst hkn
      have i1 : ¬ (k : Int) < (k : Int) := by omega
      obtain ⟨⟨D, hD, hO⟩, hbl⟩ := HD.out
      rw [← HL.out] at hD
      have hend := hD.end (i := i) (by rw [HL.out]; exact hi) (by rw [HL.out]; exact hpos)
      rw [HL.out] at hend
      have hcell := hO.cellAt (tabL_len _ _) hi
      rw [tabL_at _ hi] at hcell
      have HBL := Lib.hid hbl
      have hdl := dep_le N k i
      have j1 : (i : Int) < (k : Int) := by omega
      by_cases hf : dep N k i < k
      · rw [hend.1 hf] at hcell
        have j2 : ¬ (k : Int) ≤ ((dep N k i : Nat) : Int) := by omega
        have j3 : ¬ ((dep N k i : Nat) : Int) ≥ (k : Int) := by omega
        clear hend hO hD hbl
        have HF := Lib.hid hf
        clear hf
        generalize hdd : dep N k i = dd at *
        go_wp2
        go_ret2
        exact ⟨.inl ⟨HF.out, rfl⟩, HBL.out⟩
      · have hge := hend.2 (by omega)
        have HE : Hid (dep N k i = k) := by rw [Hid]; omega
        have j2 : (k : Int) ≤ ((D i : Nat) : Int) := by omega
        have j3 : ((D i : Nat) : Int) ≥ (k : Int) := by omega
        clear hend hO hD hbl hf hdl
        go_wp2
        go_ret2
        exact ⟨.inr ⟨HE.out, rfl⟩, HBL.out⟩
end Go.Proofs.Ytmbdjjkgjnemiaa
