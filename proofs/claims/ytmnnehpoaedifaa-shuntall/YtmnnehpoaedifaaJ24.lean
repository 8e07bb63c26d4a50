import Derived.Test.YtmnnehpoaedifaaJ15
import Derived.Test.YtmnnehpoaedifaaJ05
import Derived.OwnWalk
import Derived.Laws.EntriesVeiled
import Derived.Test.YtmnnehpoaedifaaJ10
/- Promise of package shunt: Count. -/
namespace Go.Proofs.Ytmnnehpoaedifaa
open Go.RowKit

theorem run_index_tab (W : World) (i : Nat) (hi : i < 31) : (Instr.index 75 (.agg catArr) (.int .i64 (i : Int))).run Try.prog W = .ok (.int .i64 ((cat i : Nat) : Int)) W := by
  obtain ⟨i0, hi0, hz0, hz1, hz2⟩ := info_parts Try.infoInt
  have hc := catArr_at hi
  have h31 : (i : Int) < 31 := by omega
  simp [Instr.index, run_underlying Try.underlying75, run_underlying Try.underlying3, asIntOf, part, isAgg, sizeOf, typeInfo, hi0, hz1, hc, h31, go_sem]
  intro h
  omega

set_option maxHeartbeats 800000 in
theorem count_ok : CountOk := by
  intro n w
  have HQ := Lib.hid (isCounted_any n)
  cases hk : (decide (0 ≤ n) && decide (n ≤ 30)) with
  | false =>
    have HQ2 : Hid (∀ W, Calls Try.prog 70 #[.int .i64 n] W fun e w' => e = .returned (.bool false) ∧ W = w') := by rw [← hk]; exact HQ.out
    have HK : Hid (¬ (0 ≤ n ∧ n ≤ 30)) := fun h => by simp [h.1, h.2] at hk
    clear hk HQ
    go_enter Try.func39, Try.ntmps39
    go_wp2_with (go_at_call 70; refine (HQ2.out _).mono ?_; rintro e w2 ⟨rfl, rfl⟩)
    go_ret2
    exact ⟨_, _, rfl, fun h1 h2 => absurd ⟨h1, h2⟩ HK.out, fun _ => ⟨rfl, rfl⟩, Below.refl _ _⟩
  | true =>
    have HQ2 : Hid (∀ W, Calls Try.prog 70 #[.int .i64 n] W fun e w' => e = .returned (.bool true) ∧ W = w') := by rw [← hk]; exact HQ.out
    obtain ⟨hk1, hk2⟩ : 0 ≤ n ∧ n ≤ 30 := by simpa using hk
    obtain ⟨q, rfl⟩ : ∃ q : Nat, n = q := ⟨n.toNat, by omega⟩
    clear hk HQ
    have hrun := fun W => run_index_tab W q (by omega)
    have HC := Lib.hid (counts_any w)
    have HB : Hid (0 ≤ (q : Int) ∧ (q : Int) ≤ 30) := ⟨hk1, hk2⟩
    clear hk1 hk2
    go_enter Try.func39, Try.ntmps39
    go_wp2_with (first | (go_at_call 70; refine (HQ2.out _).mono ?_; rintro e w2 ⟨rfl, rfl⟩) | (go_at_call 71; refine HC.out.mono ?_; clear HC; rintro e w3 ⟨rfl, hb3⟩))
    go_ret2
    exact ⟨_, _, rfl, fun _ _ => ⟨by simp, rfl⟩, fun h => absurd HB.out h, hb3⟩
end Go.Proofs.Ytmnnehpoaedifaa
/- Contract of package shunt: the closure of Sortable. -/
namespace Go.Proofs.Ytmnnehpoaedifaa
open Go.RowKit

/-- The closure's variables: the table, the order so far, the closure itself. -/
structure Bld (w0 w : World) (gt go gb : Nat) (v : Value) (zs : List Int) : Prop where
  tab : CatAt w gt
  ord : w.cell? ⟨go, 0, none⟩ = some v
  free : w.frozen? ⟨go, 0, none⟩ = false
  fn : w.cell? ⟨gb, 0, none⟩ = some (.func (.func 72) #[] #[.pointer (some ⟨gt, 0, none⟩), .pointer (some ⟨go, 0, none⟩), .pointer (some ⟨gb, 0, none⟩)])
  own : Ow w w0.heap.size 3 v zs
  nt : v.ownBlock ≠ some gt
  no : v.ownBlock ≠ some go
  nb : v.ownBlock ≠ some gb
  lt : gt < w.heap.size ∧ go < w.heap.size ∧ gb < w.heap.size
  ne : gt ≠ go ∧ gb ≠ go
  lo : w0.heap.size ≤ go
  below : Below w0.heap.size w0 w
theorem Bld.dr {w0 w w' : World} {gt go gb : Nat} {v : Value} {zs : List Int} (h : Bld w0 w gt go gb v zs) (k : Dr w w') : Bld w0 w' gt go gb v zs := by
  obtain ⟨q, rfl⟩ := k
  exact ⟨h.tab, h.ord, h.free, h.fn, h.own.drewN q, h.nt, h.no, h.nb, h.lt, h.ne, h.lo, below_dn h.below q⟩
theorem Bld.drew {w0 w : World} {gt go gb : Nat} {v : Value} {zs : List Int} (h : Bld w0 w gt go gb v zs) : Bld w0 w.drew gt go gb v zs := h.dr ⟨1, rfl⟩
theorem Bld.push {w0 w w1 : World} {gt go gb : Nat} {v v' : Value} {zs zs' : List Int} (h : Bld w0 w gt go gb v zs) (ho : Ow w1 w0.heap.size 3 v' zs') (hg : w.grownBy w1 v.ownBlock)
    (hat : v'.ownBlock = v.ownBlock ∨ ∃ g, v'.ownBlock = some g ∧ w.heap.size ≤ g) : Bld w0 (w1.setCell ⟨go, 0, none⟩ v') gt go gb v' zs' := by
  have hlt := h.lt
  have hne := h.ne
  have hlo := h.lo
  have new : ∀ g, g < w.heap.size → v.ownBlock ≠ some g → v'.ownBlock ≠ some g := fun g h1 h2 e => by
    rcases hat with e1 | ⟨g', e1, e2⟩
    · exact h2 (e1.symm.trans e)
    · rw [e1] at e; injection e with e; omega
  have c1 : w1.cell? ⟨go, 0, none⟩ = some v := grown_cell hg h.ord (fun e => h.no e.symm)
  have f1 : w1.frozen? ⟨go, 0, none⟩ = false := (grown_frozen (p := ⟨go, 0, none⟩) hg hlt.2.1 (fun e => h.no e.symm)).trans h.free
  have hsz := hg.size
  refine ⟨fun i hi => ?_, World.cell?_setCell_same' _ _ _ (by rw [c1]; rfl), by rw [World.frozen?_setCell]; exact f1, ?_, ?_, new gt hlt.1 h.nt, new go hlt.2.1 h.no, new gb hlt.2.2 h.nb, ?_, hne, hlo, ?_⟩
  · rw [World.cell?_setCell_other _ _ _ _ (fun e => by injection e with e1 _; exact hne.1 e1.symm)]
    exact grown_cell hg (h.tab i hi) (fun e => h.nt e.symm)
  · rw [World.cell?_setCell_other _ _ _ _ (fun e => by injection e with e1 _; exact hne.2 e1.symm)]
    exact grown_cell hg h.fn (fun e => h.nb e.symm)
  · exact ho.tn ((Tn.refl w1 (fun k => k = go)).set (fun _ => rfl) _) (fun b hb e => new go hlt.2.1 h.no (by rw [hb, e]))
  · have : (w1.setCell ⟨go, 0, none⟩ v').heap.size = w1.heap.size := by simp [World.setCell]
    omega
  · refine (h.below.grown hg h.below.size (fun k e => (h.own.lt e).1)).setCell (p := ⟨go, 0, none⟩) hlo _

set_option maxHeartbeats 3200000 in
theorem build_any (t : Nat) : ∀ (n k d gt go gb : Nat) (v : Value) (zs : List Int) (w0 w : World), n ≤ t → n ≤ 30 → k < cat n → d + n ≤ 60 → zs.length + n ≤ 60 → Bld w0 w gt go gb v zs →
    Calls Try.prog 72 #[.int .i64 n, .int .i64 ((d : Int) + 1), .int .i64 k, .pointer (some ⟨gt, 0, none⟩), .pointer (some ⟨go, 0, none⟩), .pointer (some ⟨gb, 0, none⟩)] w fun e w' =>
      e = .returned (.tuple #[]) ∧ ∃ v', Bld w0 w' gt go gb v' (zs ++ unrankF t n k d) := by
  induction t with
  | zero =>
    intro n k d gt go gb v zs w0 w h1 _ _ _ _ hB
    obtain rfl : n = 0 := by omega
    rw [unrankF_zero]
    have HB := Lib.hid hB; clear hB
    go_enter Try.func72, Try.ntmps72
    go_wp2_with fail
    refine bodyPost_ret (results_none (fn := Try.f72) rfl _ _ _) rfl ?_
    exact ⟨rfl, v, by rw [List.append_nil]; exact HB.out⟩
  | succ t ih =>
    intro n k d gt go gb v zs w0 w hnt hn hk hd hz hB
    have IH := Lib.hid ih; clear ih
    have HB := Lib.hid hB; clear hB
    by_cases h0 : n = 0
    · subst h0
      rw [unrankF_zero]
      go_enter Try.func72, Try.ntmps72
      go_wp2_with fail
      refine bodyPost_ret (results_none (fn := Try.f72) rfl _ _ _) rfl ?_
      exact ⟨rfl, v, by rw [List.append_nil]; exact HB.out⟩
    · obtain ⟨i0, hi, hz0, hz1, hz2⟩ := info_parts Try.infoInt
      have HI : Hid (Try.prog.info? 3 = some i0 ∧ i0.zero = some (.int .i64 0) ∧ i0.size = 1 ∧ i0.bytes = 8) := ⟨hi, hz0, hz1, hz2⟩
      clear hi hz0 hz1 hz2
      have hkb : k ≤ 3814986502092304 := by have := cat_bound n hn; omega
      have g0 : ((n : Int) == 0) = false := by simp; omega
      have HK := Lib.hid hk; clear hk
      go_enter Try.func72, Try.ntmps72
      go_wp2_with fail
      go_loopw [2, 9] (fun kk f w' => ∃ j k' : Nat, j < n ∧ f = .int .i64 (j : Int) ∧ kk = .int .i64 k' ∧ k' ≤ k ∧ Hid (catSum n j ≤ k ∧ k' = k - catSum n j) ∧ Hid (Bld w0 w' gt go gb v zs)) (fun _ f _ => n + 1 - (intOf f).toNat)
      case atStart => exact ⟨0, k, by omega, by go_num, rfl, Nat.le_refl _, ⟨Nat.zero_le _, rfl⟩, HB⟩
      case round =>
        obtain ⟨j, k', hj, rfl, rfl, hk', HJ, HQ⟩ := hrel
        obtain ⟨p, hp⟩ : ∃ p, p = cat j * cat (n - 1 - j) := ⟨_, rfl⟩
        have hpb : p ≤ 3814986502092304 := by
          rw [hp]; exact Nat.le_trans (catTerm_le n j hj) (cat_bound n hn)
        have HS : Hid (catSum n (j + 1) = catSum n j + p) := by rw [Hid, hp]; rfl
        have hcj := HQ.out.tab j (by omega)
        have hcm := HQ.out.tab (n - 1 - j) (by omega)
        obtain ⟨m, hm⟩ : ∃ m, m = n - 1 - j := ⟨_, rfl⟩
        rw [← hm] at hcm hp
        have hmn : (n : Int) - 1 - (j : Int) = (m : Int) := by omega
        have hmb : m < 31 := by omega
        have hjb : j < 31 := by omega
        have HMN := Lib.hid hmn; clear hmn
        have HMM := Lib.hid hm; clear hm
        have hca : Hid (cat j = cat j) := rfl
        have HM : Hid ((cat j : Int) * (cat m : Int) = (p : Int)) := by rw [Hid, hp]; simp
        have HP := Lib.hid hp; clear hp
        generalize hcae : cat j = ca at *
        generalize hcbe : cat m = cb at *
        have HCA := Lib.hid hcae; clear hcae
        have HCB := Lib.hid hcbe; clear hcbe
        clear hca
        have hmul := HM.out
        have hw0 : IntKind.i64.wrap ((n : Int) - 1) = (n : Int) - 1 := IntWalk.i64_in _ (by omega)
        have hw1 : IntKind.i64.wrap ((n : Int) - 1 - (j : Int)) = (m : Int) := by rw [HMN.out]; exact IntWalk.i64_in _ (by omega)
        have hw2 : IntKind.i64.wrap (p : Int) = p := IntWalk.i64_in _ (by omega)
        by_cases hge : p ≤ k'
        · have g1 : decide ((p : Int) ≤ (k' : Int)) = true := by simp; omega
          have hw3 : IntKind.i64.wrap ((k' : Int) - p) = (k' : Int) - p := IntWalk.i64_in _ (by omega)
          go_wp2_with fail
          go_quiet (fail)
          go_wp2_with fail
          go_quiet (fail)
          go_wp2_with fail
          have hlt : j + 1 < n := by
            have h1 := HS.out
            have h2 := HJ.out
            have h3 := HK.out
            obtain ⟨m', rfl⟩ : ∃ m', n = m' + 1 := ⟨n - 1, by omega⟩
            rw [cat_succ] at h3
            rcases Nat.lt_or_ge (j + 1) (m' + 1) with h | h
            · exact h
            · rw [show m' + 1 = j + 1 from by omega] at h3 h2 h1
              omega
          go_roundw
          case rel =>
            refine ⟨j + 1, k' - p, hlt, by go_num, by go_num, by omega, ⟨?_, ?_⟩, HQ.out.dr ⟨_, rfl⟩⟩
            · have h1 := HS.out; have h2 := HJ.out; omega
            · have h1 := HS.out; have h2 := HJ.out; omega
          case measure => simp [intOf]; omega
        · have g1 : decide ((p : Int) ≤ (k' : Int)) = false := by simp; omega
          have hlt : k < catSum n (j + 1) := by have h1 := HS.out; have h2 := HJ.out; omega
          have hparts := unrank_parts (n := n) (k := k) (j := j) hlt HJ.out.1
          rw [← HJ.out.2, ← HMM.out, HCA.out, HCB.out] at hparts
          have HU : Hid (unrankF (t + 1) n k d = ((j + 1 + d : Nat) : Int) :: (unrankF t j (k' / cb) d ++ unrankF t m (k' % cb) (d + j + 1))) := by
            have h := unrankF_at (t := t) (d := d) (show 0 < n by omega) hj HJ.out.1 hlt
            rw [← HJ.out.2, ← HMM.out, HCB.out] at h
            exact h
          have hcb1 : 1 ≤ cb := by have h := cat_pos m; rw [HCB.out] at h; exact h
          obtain ⟨q, hq⟩ : ∃ q, q = k' / cb := ⟨_, rfl⟩
          obtain ⟨r, hr⟩ : ∃ r, r = k' % cb := ⟨_, rfl⟩
          rw [← hq, ← hr] at hparts HU
          have hqb : q ≤ 3814986502092304 := by rw [hq]; exact Nat.le_trans (Nat.div_le_self _ _) (by omega)
          have hrb : r ≤ 3814986502092304 := by rw [hr]; exact Nat.le_trans (Nat.mod_le _ _) (by omega)
          have HQ0 : Hid ((k' : Int) / (cb : Int) = (q : Int)) := by rw [Hid, hq]; simp
          have HR0 : Hid ((k' : Int) % (cb : Int) = (r : Int)) := by rw [Hid, hr]; simp
          have HPT := Lib.hid hparts; clear hparts
          have HLT := Lib.hid hlt; clear hlt
          clear hq hr
          go_wp2_with fail
          go_quiet (fail)
          clear hw1 hw2 hmul
          have HB1 : Hid (Bld w0 (wr.drewN nq) gt go gb v zs) := HQ.out.dr ⟨_, rfl⟩
          obtain ⟨w1, hw1⟩ : ∃ w1, w1 = wr.drewN nq := ⟨_, rfl⟩
          rw [← hw1] at HB1
          rw [← hw1]
          clear hw1 hcj hcm
          obtain ⟨A, c, hv, _⟩ := HB1.out.own.sl (by omega)
          obtain ⟨L, hL⟩ : ∃ L, zs.length = L := ⟨_, rfl⟩
          have HLL := Lib.hid hL
          rw [hL] at hv hz
          subst hv
          clear hL
          have hord := HB1.out.ord
          have hfree := HB1.out.free
          have hno := HB1.out.no
          have hgl := HB1.out.lt.2.1
          have hws := HB1.out.below.size
          have hzl : zs.length ≤ 1099511627776 := by rw [HLL.out]; omega
          have HZL := Lib.hid hzl; clear hzl
          go_wp2_with (at_builtin; go_must (refine push_law _ rfl (.tmp 39) (.tmp 43) 22 rfl w0.heap.size 3 i0 Try.underlying22 HI.out _ zs ((d : Int) + 1 + j) rfl rfl HB1.out.own HZL.out hws ?_); intro u w2 hv2 hg2 hat2; obtain ⟨g2, cap2, hu, hu1⟩ := hv2.form (by simp); clear hu1; rw [List.length_append, List.length_singleton, HLL.out] at hu; subst hu; have hc2 := grown_cell hg2 hord (fun e => hno e.symm); have hf2 := (grown_frozen (p := ⟨go, 0, none⟩) hg2 hgl (fun e => hno e.symm)).trans hfree; have HB2 := Lib.hid (HB1.out.push hv2 hg2 hat2); clear hv2 hg2 hat2 hord hfree)
          obtain ⟨W1, hW⟩ : ∃ W1, W1 = w2.setCell ⟨go, 0, none⟩ (.slice (some ⟨g2, 0, none⟩) (L + 1) cap2) := ⟨_, rfl⟩
          rw [← hW] at HB2
          rw [← hW]
          clear hW hc2 hf2
          have hfn := HB2.out.fn
          have htm := HB2.out.tab m hmb
          rw [HCB.out] at htm
          have hmn := HMN.out
          have hq0 := HQ0.out
          have hr0 : (k' : Int).tmod (cb : Int) = (r : Int) := by rw [Int.tmod_eq_emod_of_nonneg (by omega)]; exact HR0.out
          have HI1 : Hid (∀ W v' zs', Bld w0 W gt go gb v' zs' → zs'.length + j ≤ 60 → Calls Try.prog 72 #[.int .i64 j, .int .i64 ((d : Int) + 1), .int .i64 q, .pointer (some ⟨gt, 0, none⟩), .pointer (some ⟨go, 0, none⟩), .pointer (some ⟨gb, 0, none⟩)] W fun e w' => e = .returned (.tuple #[]) ∧ ∃ v'', Bld w0 w' gt go gb v'' (zs' ++ unrankF t j q d)) :=
            fun W v' zs' h hl => IH.out j q d gt go gb v' zs' w0 W (by omega) (by omega) (by rw [HCA.out]; exact HPT.out.1) (by omega) hl h
          have HZ1 : Hid ((zs ++ [(d : Int) + 1 + j]).length + j ≤ 60) := by rw [Hid, List.length_append, List.length_singleton, HLL.out]; omega
          go_region_with (go_at_call 72; (first | with_reducible refine (HI1.out _ _ _ HB2.out HZ1.out).mono ?_ | with_reducible refine (HI1.out _ _ _ HB2.out.drew HZ1.out).mono ?_); rintro e w3 ⟨rfl, v3, hB3⟩)
          all_goals
            have HB3 := Lib.hid hB3; clear hB3
            have HZ2 : Hid ((zs ++ [(d : Int) + 1 + j] ++ unrankF t j q d).length + m ≤ 60) := by
              have hl := unrankF_len t j q d (by omega) (by rw [HCA.out]; exact HPT.out.1)
              rw [Hid, List.length_append, List.length_append, List.length_singleton, HLL.out, hl]; omega
            have hfn3 := HB3.out.fn
            have htm3 := HB3.out.tab m hmb
            rw [HCB.out] at htm3
            clear hfn htm hq0
            have HI2 : Hid (∀ W v' zs', Bld w0 W gt go gb v' zs' → zs'.length + m ≤ 60 → Calls Try.prog 72 #[.int .i64 m, .int .i64 ((d : Int) + 1 + j + 1), .int .i64 r, .pointer (some ⟨gt, 0, none⟩), .pointer (some ⟨go, 0, none⟩), .pointer (some ⟨gb, 0, none⟩)] W fun e w' => e = .returned (.tuple #[]) ∧ ∃ v'', Bld w0 w' gt go gb v'' (zs' ++ unrankF t m r (d + j + 1))) :=
              fun W v' zs' h hl => by
                have h' := IH.out m r (d + j + 1) gt go gb v' zs' w0 W (by omega) (by omega) (by rw [HCB.out]; exact HPT.out.2) (by omega) hl h
                rw [show ((d + j + 1 : Nat) : Int) + 1 = (d : Int) + 1 + j + 1 from by omega] at h'
                exact h'
            go_wp2_with fail
            have hw5 : IntKind.i64.wrap ((d : Int) + 1 + j) = (d : Int) + 1 + j := IntWalk.i64_in _ (by omega)
            have hw6 : IntKind.i64.wrap ((d : Int) + 1 + j + 1) = (d : Int) + 1 + j + 1 := IntWalk.i64_in _ (by omega)
            go_region_with (go_at_call 72; (first | with_reducible refine (HI2.out _ _ _ HB3.out HZ2.out).mono ?_ | with_reducible refine (HI2.out _ _ _ HB3.out.drew HZ2.out).mono ?_); rintro e w4 ⟨rfl, v4, hB4⟩)
            all_goals
              have HB4 := Lib.hid hB4; clear hB4 hw5 hw6
              go_wp2_with fail
              go_end0
              refine ⟨rfl, v4, ?_⟩
              have h := HB4.out
              rw [HU.out, show ((j + 1 + d : Nat) : Int) = (d : Int) + 1 + j from by omega]
              simpa using h
end Go.Proofs.Ytmnnehpoaedifaa
/- Promise of package shunt: Sortable. -/
namespace Go.Proofs.Ytmnnehpoaedifaa
open Go.RowKit

theorem cat_one {n : Nat} : (0 : Int) < cat n := by have := cat_pos n; omega

set_option maxHeartbeats 1600000 in
theorem sortable_ok : SortableOk := by
  intro n k w
  have HQ := Lib.hid (isCounted_any n)
  cases hkk : (decide (0 ≤ n) && decide (n ≤ 30)) with
  | false =>
    have HQ2 : Hid (∀ W, Calls Try.prog 70 #[.int .i64 n] W fun e w' => e = .returned (.bool false) ∧ W = w') := by rw [← hkk]; exact HQ.out
    have HK : Hid (¬ (0 ≤ n ∧ n ≤ 30)) := fun h => by simp [h.1, h.2] at hkk
    clear hkk HQ
    go_enter Try.func40, Try.ntmps40
    go_wp2_with (go_at_call 70; refine (HQ2.out _).mono ?_; rintro e w2 ⟨rfl, rfl⟩)
    go_ret2
    exact ⟨_, _, [], rfl, Ow.nil _ _ _, fun h1 h2 => absurd ⟨h1, h2⟩ HK.out, fun _ => ⟨rfl, rfl⟩, Below.refl _ _⟩
  | true =>
    have HQ2 : Hid (∀ W, Calls Try.prog 70 #[.int .i64 n] W fun e w' => e = .returned (.bool true) ∧ W = w') := by rw [← hkk]; exact HQ.out
    obtain ⟨hk1, hk2⟩ : 0 ≤ n ∧ n ≤ 30 := by simpa using hkk
    obtain ⟨q, rfl⟩ : ∃ q : Nat, n = q := ⟨n.toNat, by omega⟩
    have hq30 : q ≤ 30 := by omega
    clear hkk HQ hk1 hk2
    obtain ⟨i0, hi, hz0, hz1, hz2⟩ := info_parts Try.infoInt
    have HI : Hid (Try.prog.info? 3 = some i0 ∧ i0.zero = some (.int .i64 0) ∧ i0.size = 1 ∧ i0.bytes = 8) := ⟨hi, hz0, hz1, hz2⟩
    clear hi hz0 hz1 hz2
    have HC := Lib.hid (counts_any w)
    have hq31 : q < 31 := by omega
    have HTB : Hid (∀ w3 W4 : World, W4 = (w3.alloc (.cells #[.int .i64 0, .int .i64 0, .int .i64 0, .int .i64 0, .int .i64 0, .int .i64 0, .int .i64 0, .int .i64 0, .int .i64 0, .int .i64 0, .int .i64 0, .int .i64 0, .int .i64 0, .int .i64 0, .int .i64 0, .int .i64 0, .int .i64 0, .int .i64 0, .int .i64 0, .int .i64 0, .int .i64 0, .int .i64 0, .int .i64 0, .int .i64 0, .int .i64 0, .int .i64 0, .int .i64 0, .int .i64 0, .int .i64 0, .int .i64 0, .int .i64 0] 75)).setRow w3.heap.size catArr → Below w.heap.size w w3 → CatAt W4 w3.heap.size ∧ Below w.heap.size w W4 ∧ W4.heap.size = w3.heap.size + 1) := fun w3 W4 h hb => by
      subst h
      refine ⟨fun i hi => by rw [cell_setRow_same _ _ _ _ _ _ _ (heap_alloc_new w3 _), catArr_at hi], ?_, by simp [World.setRow]⟩
      have hb' := hb.alloc hb.size (.cells #[.int .i64 0, .int .i64 0, .int .i64 0, .int .i64 0, .int .i64 0, .int .i64 0, .int .i64 0, .int .i64 0, .int .i64 0, .int .i64 0, .int .i64 0, .int .i64 0, .int .i64 0, .int .i64 0, .int .i64 0, .int .i64 0, .int .i64 0, .int .i64 0, .int .i64 0, .int .i64 0, .int .i64 0, .int .i64 0, .int .i64 0, .int .i64 0, .int .i64 0, .int .i64 0, .int .i64 0, .int .i64 0, .int .i64 0, .int .i64 0, .int .i64 0] 75)
      have hsz := hb.size
      exact ⟨hb'.os, hb'.tape, hb'.output, by simpa [World.setRow] using hb'.size, fun k hk => (setRow_other _ _ _ _ (by omega)).trans (hb'.block k hk)⟩
    by_cases hk0 : k < 0
    · have g1 : decide (k < 0) = true := by simpa using hk0
      have HK : Hid (k < 0) := hk0
      clear hk0
      go_enter Try.func40, Try.ntmps40
      go_wp2_with (first | (go_at_call 70; refine (HQ2.out _).mono ?_; clear HQ2; rintro e w2 ⟨rfl, rfl⟩) | (go_at_call 71; refine HC.out.mono ?_; clear HC; rintro e w3 ⟨rfl, hb3⟩; have HB3 := Lib.hid hb3; clear hb3) | (refine wpList_store_row (by rfl) 75 (.tmp 6) (.tmp 12) (by rfl) w3.heap.size catArr (by rfl) (by rfl) 75 _ (heap_alloc_new w3 _) (by rw [catArr_size]; exact Try.infoTab) (by rw [catArr_size]; rfl) catArr_one ?_; (obtain ⟨W4, hW4⟩ : ∃ W4, W4 = (w3.alloc (.cells #[.int .i64 0, .int .i64 0, .int .i64 0, .int .i64 0, .int .i64 0, .int .i64 0, .int .i64 0, .int .i64 0, .int .i64 0, .int .i64 0, .int .i64 0, .int .i64 0, .int .i64 0, .int .i64 0, .int .i64 0, .int .i64 0, .int .i64 0, .int .i64 0, .int .i64 0, .int .i64 0, .int .i64 0, .int .i64 0, .int .i64 0, .int .i64 0, .int .i64 0, .int .i64 0, .int .i64 0, .int .i64 0, .int .i64 0, .int .i64 0, .int .i64 0] 75)).setRow w3.heap.size catArr := ⟨_, rfl⟩); rw [← hW4]; have HW4 := Lib.hid (HTB.out w3 W4 hW4 HB3.out); clear hW4; have htab := HW4.out.1 q hq31))
      go_ret2
      exact ⟨_, _, [], rfl, Ow.nil _ _ _, fun _ _ h => absurd h (by have := HK.out; omega), fun _ => ⟨rfl, rfl⟩, HW4.out.2.1⟩
    · have g1 : decide (k < 0) = false := by simpa using hk0
      obtain ⟨r, rfl⟩ : ∃ r : Nat, k = r := ⟨k.toNat, by omega⟩
      clear hk0
      by_cases hc : cat q ≤ r
      · have HK : Hid (cat q ≤ r) := hc
        have g2 : decide (cat q ≤ r) = true := by simpa using hc
        generalize hcq : cat q = cq at *
        have HCQ := Lib.hid hcq; clear hcq
        go_enter Try.func40, Try.ntmps40
        go_wp2_with (first | (go_at_call 70; refine (HQ2.out _).mono ?_; clear HQ2; rintro e w2 ⟨rfl, rfl⟩) | (go_at_call 71; refine HC.out.mono ?_; clear HC; rintro e w3 ⟨rfl, hb3⟩; have HB3 := Lib.hid hb3; clear hb3) | (refine wpList_store_row (by rfl) 75 (.tmp 6) (.tmp 12) (by rfl) w3.heap.size catArr (by rfl) (by rfl) 75 _ (heap_alloc_new w3 _) (by rw [catArr_size]; exact Try.infoTab) (by rw [catArr_size]; rfl) catArr_one ?_; (obtain ⟨W4, hW4⟩ : ∃ W4, W4 = (w3.alloc (.cells #[.int .i64 0, .int .i64 0, .int .i64 0, .int .i64 0, .int .i64 0, .int .i64 0, .int .i64 0, .int .i64 0, .int .i64 0, .int .i64 0, .int .i64 0, .int .i64 0, .int .i64 0, .int .i64 0, .int .i64 0, .int .i64 0, .int .i64 0, .int .i64 0, .int .i64 0, .int .i64 0, .int .i64 0, .int .i64 0, .int .i64 0, .int .i64 0, .int .i64 0, .int .i64 0, .int .i64 0, .int .i64 0, .int .i64 0, .int .i64 0, .int .i64 0] 75)).setRow w3.heap.size catArr := ⟨_, rfl⟩); rw [← hW4]; have HW4 := Lib.hid (HTB.out w3 W4 hW4 HB3.out); clear hW4; have htab := HW4.out.1 q hq31; rw [HCQ.out] at htab))
        go_ret2
        exact ⟨_, _, [], rfl, Ow.nil _ _ _, fun _ _ _ h => absurd h (by have := HK.out; rw [Int.toNat_natCast, HCQ.out]; omega), fun _ => ⟨rfl, rfl⟩, HW4.out.2.1⟩
      · have HK : Hid (r < cat q) := Nat.not_le.1 hc
        have g2 : decide (cat q ≤ r) = false := by simpa using hc
        generalize hcq : cat q = cq at *
        have HCQ := Lib.hid hcq; clear hcq
        have hqb : 8 * q ≤ 281474976710656 := by omega
        go_enter Try.func40, Try.ntmps40
        go_wp2_with (first | (go_at_call 70; refine (HQ2.out _).mono ?_; clear HQ2; rintro e w2 ⟨rfl, rfl⟩) | (go_at_call 71; refine HC.out.mono ?_; clear HC; rintro e w3 ⟨rfl, hb3⟩; have HB3 := Lib.hid hb3; clear hb3) | (refine wpList_store_row (by rfl) 75 (.tmp 6) (.tmp 12) (by rfl) w3.heap.size catArr (by rfl) (by rfl) 75 _ (heap_alloc_new w3 _) (by rw [catArr_size]; exact Try.infoTab) (by rw [catArr_size]; rfl) catArr_one ?_; (obtain ⟨W4, hW4⟩ : ∃ W4, W4 = (w3.alloc (.cells #[.int .i64 0, .int .i64 0, .int .i64 0, .int .i64 0, .int .i64 0, .int .i64 0, .int .i64 0, .int .i64 0, .int .i64 0, .int .i64 0, .int .i64 0, .int .i64 0, .int .i64 0, .int .i64 0, .int .i64 0, .int .i64 0, .int .i64 0, .int .i64 0, .int .i64 0, .int .i64 0, .int .i64 0, .int .i64 0, .int .i64 0, .int .i64 0, .int .i64 0, .int .i64 0, .int .i64 0, .int .i64 0, .int .i64 0, .int .i64 0, .int .i64 0] 75)).setRow w3.heap.size catArr := ⟨_, rfl⟩); rw [← hW4]; have HW4 := Lib.hid (HTB.out w3 W4 hW4 HB3.out); clear hW4; have htab := HW4.out.1 q hq31; rw [HCQ.out] at htab; have hsz4 := HW4.out.2.1.size) | (at_make; refine wpList_make_own _ rfl (.const (.int .i64 0)) (.tmp 22) 22 rfl w.heap.size 3 i0 (.int .i64 0) 1 Try.underlying22 HI.out.1 HI.out.2.1 HI.out.2.2.1 .i64 .i64 _ q rfl rfl rfl (by rw [HI.out.2.2.2]; exact hqb) (by unfold maxLen; omega) hsz4 ?_; intro w5 ho5 hg5; have HO5 := Lib.hid ho5; clear ho5; have HG5 := Lib.hid hg5; clear hg5))
        have HLT5 : Hid (W4.heap.size < w5.heap.size) := (Ow.lt (zs := []) HO5.out rfl).2
        obtain ⟨W6, hW6⟩ : ∃ W6, W6 = (w5.alloc (.cells #[.slice (some ⟨W4.heap.size, 0, none⟩) 0 q] 22)).alloc (.cells #[.func (.func 72) #[] #[.pointer (some ⟨w3.heap.size, 0, none⟩), .pointer (some ⟨w5.heap.size, 0, none⟩), .pointer (some ⟨w5.heap.size + 1, 0, none⟩)]] 77) := ⟨_, rfl⟩
        rw [← hW6]
        have hb46 : Below W4.heap.size W4 W6 := by
          rw [hW6]
          exact (((Below.refl W4.heap.size W4).grown HG5.out (Nat.le_refl _) (by simp)).alloc HG5.out.size _).alloc (Nat.le_trans HG5.out.size (by simp)) _
        have hlt5 := HLT5.out
        have hs4 := HW4.out.2.2
        have HB6 : Hid (Bld w W6 w3.heap.size w5.heap.size (w5.heap.size + 1) (.slice (some ⟨W4.heap.size, 0, none⟩) 0 q) []) := by
          refine ⟨fun i hi => (Below.cell hb46 (p := ⟨w3.heap.size, i, none⟩) (by show w3.heap.size < W4.heap.size; omega)).trans (HW4.out.1 i hi), by rw [hW6]; simp, by rw [hW6]; simp, by rw [hW6]; simp, ?_, ?_, ?_, ?_, ?_, ?_, ?_, ?_⟩
          · rw [hW6]; exact ((show Ow w5 w.heap.size 3 _ [] from HO5.out).alloc _).alloc _
          · simp [Value.ownBlock]; omega
          · simp [Value.ownBlock]; omega
          · simp [Value.ownBlock]; omega
          · rw [hW6]; simp; omega
          · exact ⟨by omega, by omega⟩
          · have := HB3.out.size; omega
          · exact HW4.out.2.1.trans (hb46.mono HW4.out.2.1.size)
        have H6 := build_any q q r 0 w3.heap.size w5.heap.size (w5.heap.size + 1) _ [] w W6 (Nat.le_refl _) hq30 (by rw [HCQ.out]; exact HK.out) (by omega) (by simp; omega) HB6.out
        rw [show (((0 : Nat) : Int) + 1) = 1 from rfl, List.nil_append] at H6
        refine H6.mono ?_
        rintro e w7 ⟨rfl, v7, hB7⟩
        have HB7 := Lib.hid hB7; clear hB7
        have hord := HB7.out.ord
        clear hW6
        go_wp2
        go_ret2
        exact ⟨_, _, _, rfl, HB7.out.own, fun _ _ _ _ => ⟨by simp, rfl⟩, fun h => absurd ⟨by omega, by omega, by omega, by rw [Int.toNat_natCast, HCQ.out]; have := HK.out; omega⟩ h, HB7.out.below⟩
end Go.Proofs.Ytmnnehpoaedifaa
/- The law ShuntCounts, from what the program's functions promise. -/
namespace Go.Proofs.Ytmnnehpoaedifaa
open Go.RowKit

theorem counts_law (hA : AwakeOk) (hC : CountOk) (hS : SortableOk) (n k : Int) (w : World) :
    Calls Try.prog 9 #[.int .i64 n, .int .i64 k] w fun e w' => e = .returned (.bool true) ∧ Below w.heap.size w w' := by
  have HA := Lib.hid hA; clear hA
  have HC := Lib.hid hC; clear hC
  have HS := Lib.hid hS; clear hS
  by_cases hn : 0 ≤ n ∧ n ≤ 30
  · obtain ⟨m, rfl⟩ : ∃ m : Nat, n = m := ⟨n.toNat, by omega⟩
    have h0 : ¬ (m : Int) < 0 := by omega
    have h30 : ¬ 30 < (m : Int) := by omega
    have HR := fun u => Lib.hid (count_any m u (by omega))
    have HC1 : ∀ u : World, Hid (Calls Try.prog 39 #[.int .i64 m] u fun e w' => e = .returned (.tuple #[.int .i64 (cat m), .int .i64 0]) ∧ Below u.heap.size u w') := fun u => by
      refine (HC.out (m : Int) u).mono ?_
      rintro e w1 ⟨c, x, rfl, h1, _, hb1⟩
      obtain ⟨rfl, rfl⟩ := h1 hn.1 hn.2
      exact ⟨rfl, hb1⟩
    have HCat : Hid (∀ c, c = cat m → c ≤ 3814986502092304) := fun c e => by rw [e]; exact cat_bound m (by omega)
    by_cases hk : 0 ≤ k ∧ k < cat m
    · obtain ⟨q, rfl⟩ : ∃ q : Nat, k = q := ⟨k.toNat, by omega⟩
      have hq : q < cat m := by omega
      have HU := fun u => Lib.hid (unrank_any m m q 0 u (Nat.le_refl _) (by omega) hq (by omega))
      have HL : Hid ((unrankF m m q 0).length = m) := unrankF_len m m q 0 (Nat.le_refl _) hq
      have HS1 : ∀ u : World, Hid (Calls Try.prog 40 #[.int .i64 m, .int .i64 q] u fun e w' => ∃ v, e = .returned (.tuple #[v, .int .i64 0]) ∧ Ow w' u.heap.size 3 v (unrankF m m q 0) ∧ Below u.heap.size u w') := fun u => by
        refine (HS.out (m : Int) (q : Int) u).mono ?_
        rintro e w1 ⟨v, x, zs, rfl, ho, h1, _, hb1⟩
        obtain ⟨rfl, rfl⟩ := h1 hn.1 hn.2 (by omega) (by rw [Int.toNat_natCast]; exact hk.2)
        exact ⟨v, rfl, ho, hb1⟩
      have k0 : ¬ (q : Int) < 0 := by omega
      obtain ⟨C, hCe⟩ : ∃ C, C = cat m := ⟨_, rfl⟩
      rw [← hCe] at HC1 hq HR
      have k1 : ¬ (q : Int) ≥ (C : Int) := by omega
      have HCE := Lib.hid hCe; clear hCe
      clear HS HC hk
      go_enter Try.func9, Try.ntmps9
      go_wp2_with (go_at_call 39; refine (HC1 w).out.mono ?_; rintro e w1 ⟨rfl, hb1⟩)
      go_wp2_with (go_at_call 40; refine (HS1 w1).out.mono ?_; rintro e w2 ⟨v, rfl, ho, hb2⟩; obtain ⟨A, cap, rfl, hsl⟩ := ho.sl (by rw [HL.out]; omega))
      go_wp2_with (go_at_call 41; refine (HR w2).out.mono ?_; rintro e w3 ⟨rfl, hb3⟩)
      go_wp2_with (go_at_call 43; refine (HU w3).out.mono ?_; rintro e w4 ⟨v', rfl, ho', hb4⟩; obtain ⟨A', cap', rfl, hsl'⟩ := ho'.sl (by rw [HL.out]; omega))
      have hsl4 := (hsl.below hb3 (Nat.le_refl _)).below hb4 (Nat.le_refl _)
      have HI := Lib.hid (ints_same A A' _ _ cap cap' w4 rfl (by rw [HL.out]; omega) hsl4.rd hsl'.rd)
      go_wp2_with (first | (go_at_call 42; refine HI.out.mono ?_; rintro e w5 ⟨rfl, hd5⟩) | (go_at_call 22; refine (HA.out _).mono ?_; rintro e w6 ⟨rfl, hb6⟩))
      go_ret
      exact ⟨rfl, ((((Kp.call hb1 hb2).call hb3).call hb4).call (hd5.below _)).call hb6⟩
    · have hkk : k < 0 ∨ ((¬ k < 0) ∧ k ≥ (cat m : Int)) := by omega
      have HS1 : ∀ u : World, Hid (Calls Try.prog 40 #[.int .i64 m, .int .i64 k] u fun e w' => ∃ A c, e = .returned (.tuple #[.slice A 0 c, .int .i64 2]) ∧ Below u.heap.size u w') := fun u => by
        refine (HS.out (m : Int) k u).mono ?_
        rintro e w1 ⟨v, x, zs, rfl, ho, _, h1, hb1⟩
        obtain ⟨rfl, rfl⟩ := h1 (fun h => hk (by rw [Int.toNat_natCast] at h; exact h.2.2))
        obtain ⟨A, cap, rfl, _⟩ := ho.sl (by simp)
        exact ⟨A, cap, rfl, hb1⟩
      obtain ⟨C, hCe⟩ : ∃ C, C = cat m := ⟨_, rfl⟩
      rw [← hCe] at HC1 hkk HR
      clear hCe hk HS HC HCat
      rcases hkk with hk0 | ⟨hk0, hk1⟩
      all_goals
        go_enter Try.func9, Try.ntmps9
        go_wp2_with (go_at_call 39; refine (HC1 w).out.mono ?_; rintro e w1 ⟨rfl, hb1⟩)
        go_wp2_with (go_at_call 40; refine (HS1 w1).out.mono ?_; rintro e w2 ⟨A, cap, rfl, hb2⟩)
        go_wp2_with (go_at_call 41; refine (HR w2).out.mono ?_; rintro e w3 ⟨rfl, hb3⟩)
        go_wp2_with (go_at_call 22; refine (HA.out w3).mono ?_; rintro e w4 ⟨rfl, hb4⟩)
        go_ret
        exact ⟨rfl, ((Kp.call hb1 hb2).call hb3).call hb4⟩
  · have hr : n < 0 ∨ (¬ n < 0 ∧ 30 < n) := by omega
    rcases hr with h0 | ⟨h0, h30⟩
    all_goals
      go_enter Try.func9, Try.ntmps9
      go_wp2_with (go_at_call 39; refine (HC.out n w).mono ?_; rintro e w1 ⟨c, x, rfl, _, h2, hb1⟩; obtain ⟨rfl, rfl⟩ := h2 hn; clear h2)
      go_wp2_with (go_at_call 40; refine (HS.out n k w1).mono ?_; rintro e w2 ⟨v, y, zs, rfl, ho, _, h2, hb2⟩; obtain ⟨rfl, rfl⟩ := h2 (fun h => hn ⟨h.1, h.2.1⟩); clear h2; obtain ⟨A, cap, rfl, _⟩ := ho.sl (by simp))
      go_wp2_with (go_at_call 22; refine (HA.out w2).mono ?_; rintro e w3 ⟨rfl, hb3⟩)
      go_ret
      exact ⟨rfl, (Kp.call hb1 hb2).call hb3⟩
end Go.Proofs.Ytmnnehpoaedifaa
