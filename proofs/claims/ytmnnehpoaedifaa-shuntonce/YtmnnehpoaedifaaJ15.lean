import Derived.Test.YtmnnehpoaedifaaJ13
import Derived.Test.YtmnnehpoaedifaaJ03
import Derived.KernelRfl
import Derived.Test.YtmnnehpoaedifaaJ05
import Derived.Test.YtmnnehpoaedifaaJ10
import Derived.Test.YtmnnehpoaedifaaJ11
/- Contracts of package shunt: isCounted, counts. -/
namespace Go.Proofs.Ytmnnehpoaedifaa
open Go.RowKit

theorem isCounted_any (k : Int) (w : World) : Calls Try.prog 70 #[.int .i64 k] w fun e w' => e = .returned (.bool (decide (0 ≤ k) && decide (k ≤ 30))) ∧ w = w' := by
  by_cases h1 : 0 ≤ k
  · have g1 : decide (0 ≤ k) = true := by simpa using h1
    by_cases h2 : k ≤ 30
    · have g2 : decide (k ≤ 30) = true := by simpa using h2
      go_enter Try.func70, Try.ntmps70
      go_wp2
      go_ret
      exact ⟨by first | rfl | (rw [g1, g2]; rfl), rfl⟩
    · have g2 : decide (k ≤ 30) = false := by simpa using h2
      go_enter Try.func70, Try.ntmps70
      go_wp2
      go_ret
      exact ⟨by first | rfl | (rw [g1, g2]; rfl), rfl⟩
  · have g1 : decide (0 ≤ k) = false := by simpa using h1
    go_enter Try.func70, Try.ntmps70
    go_wp2
    go_ret
    exact ⟨by first | rfl | (rw [g1]; rfl), rfl⟩

/-- The table of the numbers of orders, as a value. -/
def catArr : Array Value := (ints (catRow 30 31)).toArray

theorem Ow.row {w : World} {B e g n : Nat} {zs : List Int} (h : Ow w B e (.slice (some ⟨g, 0, none⟩) n n) zs) (hl : zs.length = n) : w.heap[g]? = some (.cells (ints zs).toArray e (0, 0)) := by
  subst hl
  rcases h.2 with ⟨h1, _⟩ | ⟨g', cap, cur, he, _, hg, _, _, hs, ht⟩
  · cases h1
  · injection he with e1 e2 e3
    injection e1 with e1
    injection e1 with e1
    subst e1
    subst e3
    rw [hg]
    congr 2
    apply Array.toList_inj.1
    rw [← ht, List.take_of_length_le (by simp; omega)]
theorem Ow.lit {w : World} {B e n : Nat} {arr : Array Value} {zs : List Int} (hB : B ≤ w.heap.size) (hn : arr.size = n) (hm : n ≤ 1000) (h : arr.toList = ints zs) : Ow (w.alloc (.cells arr e)) B e (.slice (some ⟨w.heap.size, 0, none⟩) n n) zs := by
  have hl : zs.length = n := by
    have := congrArg List.length h
    simpa [hn] using this.symm
  subst hl
  have h' := World.ownsRow_lit (base := B) (e := e) (size := 1) w arr zs.length hB (by unfold maxLen; omega) (by omega)
  rw [h] at h'
  exact h'
/-- The two arrays of counts. -/
structure Tab (w w' : World) (zs : List Int) : Prop where
  tab : Ow w' w.heap.size 75 (.slice (some ⟨w.heap.size + 1, 0, none⟩) 31 31) zs
  res : Ow w' w.heap.size 75 (.slice (some ⟨w.heap.size, 0, none⟩) 31 31) (List.replicate 31 0)
  below : Below w.heap.size w w'
theorem Tab.put {w w' : World} {zs : List Int} (h : Tab w w' zs) (hl : zs.length = 31) (m : Nat) (x : Int) : Tab w (w'.setCell ⟨w.heap.size + 1, m, none⟩ (.int .i64 x)) (zs.set m x) :=
  ⟨h.tab.put hl m x, h.res.tn ((Tn.refl w' (fun k => k = w.heap.size + 1)).set (fun _ => rfl) _) (fun b hb e => by simp [Value.ownBlock] at hb; omega), h.below.setCell (p := ⟨w.heap.size + 1, m, none⟩) (Nat.le_succ _) _⟩

set_option maxHeartbeats 1600000 in
theorem counts_any (w : World) : Calls Try.prog 71 #[] w fun e w' => e = .returned (.agg catArr) ∧ Below w.heap.size w w' := by
  go_enter Try.func71, Try.ntmps71
  go_wp2
  have HT0 : Hid (Tab w ((w.alloc (.cells #[.int .i64 0, .int .i64 0, .int .i64 0, .int .i64 0, .int .i64 0, .int .i64 0, .int .i64 0, .int .i64 0, .int .i64 0, .int .i64 0, .int .i64 0, .int .i64 0, .int .i64 0, .int .i64 0, .int .i64 0, .int .i64 0, .int .i64 0, .int .i64 0, .int .i64 0, .int .i64 0, .int .i64 0, .int .i64 0, .int .i64 0, .int .i64 0, .int .i64 0, .int .i64 0, .int .i64 0, .int .i64 0, .int .i64 0, .int .i64 0, .int .i64 0] 75)).alloc (.cells #[.int .i64 1, .int .i64 0, .int .i64 0, .int .i64 0, .int .i64 0, .int .i64 0, .int .i64 0, .int .i64 0, .int .i64 0, .int .i64 0, .int .i64 0, .int .i64 0, .int .i64 0, .int .i64 0, .int .i64 0, .int .i64 0, .int .i64 0, .int .i64 0, .int .i64 0, .int .i64 0, .int .i64 0, .int .i64 0, .int .i64 0, .int .i64 0, .int .i64 0, .int .i64 0, .int .i64 0, .int .i64 0, .int .i64 0, .int .i64 0, .int .i64 0] 75)) (catRow 30 1)) := by
    have h1 : Ow (w.alloc (.cells #[.int .i64 0, .int .i64 0, .int .i64 0, .int .i64 0, .int .i64 0, .int .i64 0, .int .i64 0, .int .i64 0, .int .i64 0, .int .i64 0, .int .i64 0, .int .i64 0, .int .i64 0, .int .i64 0, .int .i64 0, .int .i64 0, .int .i64 0, .int .i64 0, .int .i64 0, .int .i64 0, .int .i64 0, .int .i64 0, .int .i64 0, .int .i64 0, .int .i64 0, .int .i64 0, .int .i64 0, .int .i64 0, .int .i64 0, .int .i64 0, .int .i64 0] 75)) w.heap.size 75 (.slice (some ⟨w.heap.size, 0, none⟩) 31 31) (List.replicate 31 0) := Ow.lit (Nat.le_refl _) (by kernel_rfl) (by omega) (by kernel_rfl)
    have h2 : Ow ((w.alloc (.cells #[.int .i64 0, .int .i64 0, .int .i64 0, .int .i64 0, .int .i64 0, .int .i64 0, .int .i64 0, .int .i64 0, .int .i64 0, .int .i64 0, .int .i64 0, .int .i64 0, .int .i64 0, .int .i64 0, .int .i64 0, .int .i64 0, .int .i64 0, .int .i64 0, .int .i64 0, .int .i64 0, .int .i64 0, .int .i64 0, .int .i64 0, .int .i64 0, .int .i64 0, .int .i64 0, .int .i64 0, .int .i64 0, .int .i64 0, .int .i64 0, .int .i64 0] 75)).alloc (.cells #[.int .i64 1, .int .i64 0, .int .i64 0, .int .i64 0, .int .i64 0, .int .i64 0, .int .i64 0, .int .i64 0, .int .i64 0, .int .i64 0, .int .i64 0, .int .i64 0, .int .i64 0, .int .i64 0, .int .i64 0, .int .i64 0, .int .i64 0, .int .i64 0, .int .i64 0, .int .i64 0, .int .i64 0, .int .i64 0, .int .i64 0, .int .i64 0, .int .i64 0, .int .i64 0, .int .i64 0, .int .i64 0, .int .i64 0, .int .i64 0, .int .i64 0] 75)) w.heap.size 75 (.slice (some ⟨(w.alloc (.cells #[.int .i64 0, .int .i64 0, .int .i64 0, .int .i64 0, .int .i64 0, .int .i64 0, .int .i64 0, .int .i64 0, .int .i64 0, .int .i64 0, .int .i64 0, .int .i64 0, .int .i64 0, .int .i64 0, .int .i64 0, .int .i64 0, .int .i64 0, .int .i64 0, .int .i64 0, .int .i64 0, .int .i64 0, .int .i64 0, .int .i64 0, .int .i64 0, .int .i64 0, .int .i64 0, .int .i64 0, .int .i64 0, .int .i64 0, .int .i64 0, .int .i64 0] 75)).heap.size, 0, none⟩) 31 31) (catRow 30 1) := Ow.lit (by simp) (by kernel_rfl) (by omega) (by kernel_rfl)
    rw [show (w.alloc (.cells #[.int .i64 0, .int .i64 0, .int .i64 0, .int .i64 0, .int .i64 0, .int .i64 0, .int .i64 0, .int .i64 0, .int .i64 0, .int .i64 0, .int .i64 0, .int .i64 0, .int .i64 0, .int .i64 0, .int .i64 0, .int .i64 0, .int .i64 0, .int .i64 0, .int .i64 0, .int .i64 0, .int .i64 0, .int .i64 0, .int .i64 0, .int .i64 0, .int .i64 0, .int .i64 0, .int .i64 0, .int .i64 0, .int .i64 0, .int .i64 0, .int .i64 0] 75)).heap.size = w.heap.size + 1 from by simp] at h2
    exact ⟨h2, h1.alloc _, ((Below.refl _ _).alloc (Nat.le_refl _) _).alloc (by simp) _⟩
  go_loopw [2, 3, 10] (fun i _ _ w' => ∃ m : Nat, m ≤ 31 ∧ 1 ≤ m ∧ i = .int .i64 m ∧ Hid (Tab w w' (catRow 30 m))) (fun i _ _ _ => 31 - (intOf i).toNat)
  case atStart => exact ⟨1, by omega, by omega, by go_num, HT0⟩
  case round =>
    obtain ⟨m, hm, hm1, rfl, HO⟩ := hrel
    clear HT0
    by_cases hlt : m ≤ 30
    · obtain ⟨wo, rfl⟩ : ∃ wo : World, wo = wr := ⟨_, rfl⟩
      go_wp2
      go_loopw [3, 10] (fun _ t w' => ∃ j : Nat, j ≤ m ∧ t = .int .i64 j ∧ Hid (Tab w w' ((catRow 30 m).set m ((catSum m j : Nat) : Int)))) (fun _ t _ => m - (intOf t).toNat)
      case atStart => exact ⟨0, by omega, by go_num, (by rw [Hid, catRow_start hlt]; exact HO.out)⟩
      case round =>
        obtain ⟨j, hj, rfl, HV⟩ := hrel
        have HLEN : Hid (((catRow 30 m).set m ((catSum m j : Nat) : Int)).length = 31) := by rw [Hid, List.length_set, catRow_len]
        by_cases hlj : j < m
        · have hem : wr.cell? ⟨w.heap.size + 1, m, none⟩ = some (.int .i64 ((catSum m j : Nat) : Int)) := by
            rw [HV.out.tab.cellAt HLEN.out (by omega), List.getElem?_set_self (by rw [catRow_len]; omega)]; rfl
          have hfm := HV.out.tab.free HLEN.out m
          have hej : wr.cell? ⟨w.heap.size + 1, j, none⟩ = some (.int .i64 (cat j : Nat)) := by
            rw [HV.out.tab.cellAt HLEN.out (by omega), List.getElem?_set_ne (by omega), catRow_at (by omega), if_pos hlj]
          have hek : wr.cell? ⟨w.heap.size + 1, m - 1 - j, none⟩ = some (.int .i64 (cat (m - 1 - j) : Nat)) := by
            rw [HV.out.tab.cellAt HLEN.out (by omega), List.getElem?_set_ne (by omega), catRow_at (by omega), if_pos (by omega)]
          have hb1 := cat_bound m (by omega)
          have hb2 := catSum_le m (j + 1) (by omega) hm1
          have HS : Hid (catSum m (j + 1) = catSum m j + cat j * cat (m - 1 - j)) := rfl
          have HP : Hid (∀ W x, Tab w W ((catRow 30 m).set m ((catSum m j : Nat) : Int)) → Tab w (W.setCell ⟨w.heap.size + 1, m, none⟩ (.int .i64 x)) ((catRow 30 m).set m x)) := fun W x h => by
            have := h.put HLEN.out m x
            rw [List.set_set] at this
            exact this
          generalize catSum m j = s at *
          generalize cat j = a at *
          generalize hbb : cat (m - 1 - j) = b at *
          have HBB := Lib.hid hbb; clear hbb
          obtain ⟨p, hp⟩ : ∃ p, p = a * b := ⟨_, rfl⟩
          rw [← hp] at HS
          have hsp : s + p ≤ 3814986502092304 := by rw [HS.out] at hb2; omega
          have hpb : p ≤ 3814986502092304 := by omega
          have hw0 : (a : Int) * (b : Int) = (p : Int) := by rw [hp]; simp
          clear hb1 hb2 hp
          obtain ⟨k, hk⟩ : ∃ k, k = m - 1 - j := ⟨_, rfl⟩
          rw [← hk] at hek
          have hk1 : k < 31 := by omega
          have hj1 : j < 31 := by omega
          have hm2 : m < 31 := by omega
          have hmm : (m : Int) = j + 1 + k := by omega
          have HMM := Lib.hid hmm; clear hmm
          have HK := Lib.hid hk; clear hk
          go_wp2
          have hw1 : IntKind.i64.wrap ((m : Int) - 1) = (m : Int) - 1 := IntWalk.i64_in _ (by omega)
          have hw2 : IntKind.i64.wrap ((m : Int) - 1 - (j : Int)) = (k : Int) := by rw [IntWalk.i64_in _ (by omega)]; have := HMM.out; omega
          have hw3 : IntKind.i64.wrap (p : Int) = p := IntWalk.i64_in _ (by omega)
          have hw4 : IntKind.i64.wrap ((s : Int) + p) = s + p := IntWalk.i64_in _ (by omega)
          go_region
          clear hw1 hw2 hw3 hw4 hw0
          go_wp2
          go_roundw
          case rel =>
            refine ⟨j + 1, by omega, by go_num, ?_⟩
            have h := HP.out _ ((s : Int) + (p : Int)) HV.out
            have e : ((catSum m (j + 1) : Nat) : Int) = (s : Int) + (p : Int) := by rw [HS.out]; omega
            rw [e]
            exact ⟨h.tab, h.res, h.below.drew⟩
          case measure => simp [intOf]; omega
        · have hjm : j = m := by omega
          have HN : Hid (Tab w wr (catRow 30 (m + 1))) := by
            rw [Hid, ← catRow_next hlt]
            have h := HV.out
            obtain ⟨q, rfl⟩ : ∃ q, m = q + 1 := ⟨m - 1, by omega⟩
            rw [hjm, ← cat_succ] at h
            exact h
          clear hjm
          go_wp2
          go_roundw
          case rel => exact ⟨m + 1, by omega, by omega, by go_num, HN⟩
          case measure => simp [intOf]; omega
    · obtain rfl : m = 31 := by omega
      have hr1 := HO.out.tab.row (catRow_len _ _)
      have hr2 := HO.out.res.row (by simp)
      obtain ⟨cs, hcs⟩ : ∃ cs, cs = (ints (catRow 30 31)).toArray := ⟨_, rfl⟩
      obtain ⟨os, hos⟩ : ∃ os, os = (ints (List.replicate 31 0)).toArray := ⟨_, rfl⟩
      rw [← hcs] at hr1
      rw [← hos] at hr2
      have hcz : cs.size = 31 := by rw [hcs]; simp [catRow_len]
      have hoz : os.size = 31 := by rw [hos]; simp
      have hone : cs.all (·.oneCell') = true := by
        rw [hcs, Array.all_eq_true_iff_forall_mem]
        intro x hx
        simp at hx
        obtain ⟨y, _, rfl⟩ := hx
        rfl
      have HINF : Hid ((Try.prog.info? 75).map (·.size) = some cs.size) := by rw [Hid, hcz]; kernel_rfl
      have HR1 := Lib.hid hr1; clear hr1
      have HR2 := Lib.hid hr2; clear hr2
      have HCS := Lib.hid hcs; clear hcs
      have HOS := Lib.hid hos; clear hos
      have HZ : Hid (os.size = cs.size) := by rw [Hid, hcz, hoz]
      have HONE := Lib.hid hone; clear hone
      clear hcz hoz
      have HBL := Lib.hid HO.out.below
      clear HO
      go_wp2_with (first | (refine wpList_load_row (by rfl) 75 (.tmp 1) (by rfl) (w.heap.size + 1) (by rfl) 75 cs (0, 0) _ HR1.out Try.underlying75 (by rfl) HINF.out ?_) | (refine wpList_store_row (by rfl) 75 (.tmp 0) (.tmp 29) (by rfl) w.heap.size cs (by rfl) (by rfl) 75 os HR2.out HINF.out HZ.out HONE.out ?_))
      refine bodyPost_ret (results_cell_row (by rfl) _ _ w.heap.size 75 cs (0, 0) _ (by rfl) (setRow_heap _ _ os cs _ _ HR2.out) Try.underlying75 (by rfl) HINF.out) (by rfl) ⟨by rw [HCS.out]; rfl, ?_⟩
      exact ⟨HBL.out.os, HBL.out.tape, HBL.out.output, by simpa [World.setRow] using HBL.out.size, fun k hk => (setRow_other _ _ _ _ (by omega)).trans (HBL.out.block k hk)⟩
end Go.Proofs.Ytmnnehpoaedifaa
/- Contract of package shunt: rank. -/
namespace Go.Proofs.Ytmnnehpoaedifaa
open Go.RowKit

/-- Block g reads as the table of the numbers of orders. -/
def CatAt (w : World) (g : Nat) : Prop := ∀ i, i < 31 → w.cell? ⟨g, i, none⟩ = some (.int .i64 ((cat i : Nat) : Int))
theorem CatAt.dr {w w' : World} {g : Nat} (h : CatAt w g) (k : Dr w w') : CatAt w' g := fun i hi => (k.cell _).trans (h i hi)

theorem rankL_empty (A : Option Addr) (c g : Nat) (x : Int) (w : World) : Calls Try.prog 73 #[.pointer (some ⟨g, 0, none⟩), .slice A 0 c, .int .i64 x] w fun e w' => e = .returned (.int .i64 0) ∧ Dr w w' := by
  go_enter Try.func73, Try.ntmps73
  go_wp2
  go_ret
  exact ⟨rfl, Dr.refl _⟩

theorem quiet_dr2 {P : Program} {f : FuncId} {args : Array Value} {w : World} {q n : Nat} {v : Value}
    (h : Calls P f args (w.drewN (q + n)) fun e w' => e = .returned v ∧ Dr (w.drewN (q + n)) w') : Calls P f args (w.drewN (q + n)) fun e w'' => e = .returned v ∧ ∃ m, w'' = w.drewN (q + m) :=
  h.mono fun _ _ ⟨he, m, hm⟩ => ⟨he, n + m, by rw [hm, World.drewN_drewN, Nat.add_assoc]⟩

set_option maxHeartbeats 1600000 in
theorem rankL_any (t : Nat) : ∀ (A : Option Addr) (n c : Nat) (zs : List Int) (d g : Nat) (w : World), Sl w A n c zs → n ≤ 30 → d + n ≤ 60 → CatAt w g → RankOk t zs d →
    Calls Try.prog 73 #[.pointer (some ⟨g, 0, none⟩), .slice A n c, .int .i64 ((d : Int) + 1)] w fun e w' => e = .returned (.int .i64 (rankF t zs d)) ∧ Dr w w' := by
  induction t with
  | zero =>
    intro A n c zs d g w hs hn hd hcat hok
    have h0 : n = 0 := by rw [← hs.len]; exact hok
    subst h0
    rw [rankF_nil _ _ hok]
    exact rankL_empty A c g _ w
  | succ t ih =>
    intro A n c zs d g w hs hn hd hcat hok
    have IH := Lib.hid ih; clear ih
    have HS := Lib.hid hs; clear hs
    have HCAT := Lib.hid hcat; clear hcat
    by_cases h0 : n = 0
    · subst h0
      rw [rankF_nil _ _ HS.out.len]
      exact rankL_empty A c g _ w
    · have hcap := HS.out.cap
      obtain ⟨f, hf1, hf2, hf3, hok1, hok2⟩ := hok.resolve_left (by rw [HS.out.len]; exact h0)
      rw [HS.out.len] at hf2
      obtain ⟨s, rfl⟩ : ∃ s, f = s + 1 := ⟨f - 1, by omega⟩
      obtain ⟨m, rfl⟩ : ∃ m, n = m + 1 := ⟨n - 1, by omega⟩
      have HF := Lib.hid hf3; clear hf3
      have H1 := Lib.hid hok1; clear hok1
      have H2 := Lib.hid hok2; clear hok2
      have HRK := Lib.hid hok; clear hok
      clear h0 hf1
      have g0 : ((m : Int) + 1 == 0) = false := by simp; omega
      obtain ⟨b, off, rfl, hc⟩ := HS.out.cells (by omega)
      have hc0 : w.cell? ⟨b, off, none⟩ = some (.int .i64 ((d : Int) + s + 1)) := by have := hc 0 (by omega); rw [HF.out] at this; rw [show (d : Int) + s + 1 = (d : Int) + ((s + 1 : Nat) : Int) from by omega]; exact this
      clear hc
      have hsm1 : s ≤ m := by omega
      have hcp := catSum_mono (m + 1) (show s ≤ m + 1 by omega)
      have hcs := catSum_le (m + 1) (m + 1) (Nat.le_refl _) (by omega)
      have hcb := cat_bound (m + 1) hn
      have hfd : (d : Int) + (s : Int) + 1 - ((d : Int) + 1) = (s : Int) := by omega
      go_enter Try.func73, Try.ntmps73
      go_wp2
      clear hfd
      go_loopw [9, 10, 23] (fun sv _ i w' => ∃ j sm : Nat, j ≤ s ∧ i = .int .i64 (j : Int) ∧ sv = .int .i64 sm ∧ sm ≤ 3814986502092304 ∧ Hid (sm = catSum (m + 1) j) ∧ Dr w w') (fun _ _ i _ => s - (intOf i).toNat)
      case atStart => exact ⟨0, 0, by omega, by go_num, rfl, by omega, rfl, Dr.refl _⟩
      case round =>
        obtain ⟨j, sm, hj, rfl, rfl, hsm, HSM, hW⟩ := hrel
        by_cases hlt : j < s
        · obtain ⟨p, hp⟩ : ∃ p, p = cat j * cat (m - j) := ⟨_, rfl⟩
          have hpb : sm + p ≤ 3814986502092304 := by
            have h1 := catSum_le (m + 1) (j + 1) (by omega) (by omega)
            simp only [catSum] at h1
            rw [show m + 1 - 1 - j = m - j from by omega] at h1
            rw [HSM.out, hp]; omega
          have HS1 : Hid (sm + p = catSum (m + 1) (j + 1)) := by
            rw [Hid, hp, HSM.out]
            simp only [catSum]
            rw [show m + 1 - 1 - j = m - j from by omega]
          have hcj := (HCAT.out.dr hW) j (by omega)
          have hck := (HCAT.out.dr hW) (m - j) (by omega)
          obtain ⟨k, hk⟩ : ∃ k, m = j + k := ⟨m - j, by omega⟩
          rw [show m - j = k from by omega] at hck hp
          have hmul : (cat j : Int) * (cat k : Int) = (p : Int) := by rw [hp]; simp
          have HP := Lib.hid hp; clear hp
          generalize cat j = ca at *
          generalize cat k = cb at *
          have hkb : k < 31 := by omega
          have hjb : j < 31 := by omega
          have HKM : Hid (m = j + k) := hk
          clear hk hcp hcs hcb
          go_wp2
          have hw1 : IntKind.i64.wrap ((m : Int) - j) = (k : Int) := by rw [IntWalk.i64_in _ (by omega)]; have := HKM.out; omega
          have hw2 : IntKind.i64.wrap (p : Int) = p := IntWalk.i64_in _ (by omega)
          have hw3 : IntKind.i64.wrap ((sm : Int) + p) = sm + p := IntWalk.i64_in _ (by omega)
          go_region
          clear hw1 hw2 hw3
          go_wp2
          go_roundw
          case rel => exact ⟨j + 1, sm + p, by omega, by go_num, by go_num, hpb, HS1, hW.trans ⟨1, rfl⟩⟩
          case measure => simp [intOf]; omega
        · obtain rfl : j = s := by omega
          have hcn : 1 ≤ c := by omega
          have ho0 := (hW.cell ⟨b, off, none⟩).trans hc0
          obtain ⟨r1, hr1⟩ : ∃ r1, r1 = rankF t ((zs.take (j + 1)).drop 1) d := ⟨_, rfl⟩
          obtain ⟨r2, hr2⟩ : ∃ r2, r2 = rankF t (zs.drop (j + 1)) (d + (j + 1)) := ⟨_, rfl⟩
          obtain ⟨k, hk⟩ : ∃ k, m = j + k := ⟨m - j, by omega⟩
          have hck := (HCAT.out.dr hW) k (by omega)
          obtain ⟨cb, hcbe⟩ : ∃ cb, cb = cat k := ⟨_, rfl⟩
          rw [← hcbe] at hck
          obtain ⟨p1, hp1⟩ : ∃ p1, p1 = r1 * cb := ⟨_, rfl⟩
          have HRES : Hid (rankF (t + 1) zs d = sm + p1 + r2) := by
            rw [Hid, rankF_at (by rw [HS.out.len]; omega) HF.out, HS.out.len, hp1, hr1, hr2, hcbe, HSM.out]
            rw [show m + 1 - (j + 1) = k from by omega]
            rfl
          have hrb : sm + p1 + r2 ≤ 3814986502092304 := by
            have h1 := rankF_lt (t + 1) zs d HRK.out
            rw [HRES.out, HS.out.len] at h1
            omega
          have hmul : (r1 : Int) * (cb : Int) = (p1 : Int) := by rw [hp1]; simp
          have HKM : Hid (m = j + k) := hk
          have hkb : k < 31 := by omega
          have HW := Lib.hid hW
          have HCB : Hid (∀ W, Dr w W → W.cell? ⟨g, k, none⟩ = some (.int .i64 (cb : Int))) := fun W h => by rw [hcbe]; exact (HCAT.out.dr h) k hkb
          have HC0 := Lib.hid hc0
          clear hcbe hp1 hcp hcs hcb hsm hk
          by_cases hcf : j + 1 < c
          · have hc12 : 1 < c := by omega
            have HR1 : Hid (∀ W, Dr w W → Calls Try.prog 73 #[.pointer (some ⟨g, 0, none⟩), .slice (some ⟨b, off + 1, none⟩) j (c - 1), .int .i64 ((d : Int) + 1)] W fun e w' => e = .returned (.int .i64 r1) ∧ Dr W w') := fun W h => by
              have hs1 := (HS.out.dr h).take (k := j + 1) hf2
              have hs2 := hs1.drop (k := 1) (by omega) (some ⟨b, off + 1, none⟩) ⟨fun _ => trivial, fun b' off' e _ => by injection e with e; injection e with e1 e2; rw [e1, e2], fun e => by cases e⟩
              rw [hr1]
              exact (IH.out _ _ _ _ d g W hs2 (by omega) (by omega) (HCAT.out.dr h) H1.out)
            have HR2 : Hid (∀ W, Dr w W → Calls Try.prog 73 #[.pointer (some ⟨g, 0, none⟩), .slice (some ⟨b, off + (1 + j), none⟩) (m - j) (c - (1 + j)), .int .i64 ((d : Int) + j + 1 + 1)] W fun e w' => e = .returned (.int .i64 r2) ∧ Dr W w') := fun W h => by
              have hs2 := (HS.out.dr h).drop (k := j + 1) hf2 (some ⟨b, off + (j + 1), none⟩) ⟨fun _ => trivial, fun b' off' e _ => by injection e with e; injection e with e1 e2; rw [e1, e2], fun e => by cases e⟩
              have h' := IH.out _ _ _ _ (d + (j + 1)) g W hs2 (by omega) (by omega) (HCAT.out.dr h) H2.out
              rw [← hr2, show ((d + (j + 1) : Nat) : Int) + 1 = (d : Int) + j + 1 + 1 from by omega, show m + 1 - (j + 1) = m - j from by omega, show j + 1 = 1 + j from by omega] at h'
              exact h'
            clear hr1 hr2
            go_wp2
            have hw1 : IntKind.i64.wrap (1 + (j : Int)) = 1 + j := IntWalk.i64_in _ (by omega)
            have hw2 : IntKind.i64.wrap ((m : Int) - j) = (k : Int) := by rw [IntWalk.i64_in _ (by omega)]; have := HKM.out; omega
            have hw3 : IntKind.i64.wrap (p1 : Int) = p1 := IntWalk.i64_in _ (by omega)
            have hw4 : IntKind.i64.wrap ((sm : Int) + p1) = sm + p1 := IntWalk.i64_in _ (by omega)
            go_quiet ((go_at_call 73; exact quiet_dr (HR1.out _ (HW.out.more _))))
            clear hw2 hw3 hmul
            go_wp2
            have hs0 : (0 : Int) ≤ 1 + (j : Int) := by omega
            have hs1 : (1 : Int) + (j : Int) ≤ (m : Int) + 1 := by omega
            have hs3 : ((1 : Int) + (j : Int)).toNat = 1 + j := by omega
            have hs4 : ¬ c = 1 + j := by omega
            have hs5 : m + 1 - (1 + j) = m - j := by omega
            have hw5 : IntKind.i64.wrap ((d : Int) + j + 1 + 1) = (d : Int) + j + 1 + 1 := IntWalk.i64_in _ (by omega)
            have hw6 : IntKind.i64.wrap ((sm : Int) + p1 + r2) = sm + p1 + r2 := IntWalk.i64_in _ (by omega)
            go_quiet ((go_at_call 73; exact quiet_dr2 (HR2.out _ (HW.out.more _))))
            clear hw1 hw5 hw6 hs0 hs1 hs3 hs4 hs5 hw4
            go_wp2
            go_ret
            exact ⟨iend (by rw [HRES.out]; omega), by rw [World.drewN_drewN]; exact HW.out.more _⟩
          · have HE : Hid (∀ A2 x W, Calls Try.prog 73 #[.pointer (some ⟨g, 0, none⟩), .slice A2 0 0, .int .i64 x] W fun e w' => e = .returned (.int .i64 0) ∧ Dr W w') := fun A2 x W => rankL_empty A2 0 g x W
            obtain rfl : j = m := by omega
            obtain rfl : c = j + 1 := by omega
            obtain rfl : k = 0 := by have := HKM.out; omega
            have hr2z : r2 = 0 := by rw [hr2]; exact rankF_nil _ _ (by rw [List.length_drop, HS.out.len]; omega)
            subst hr2z
            by_cases hj0 : 0 < j
            · have HR1 : Hid (∀ W, Dr w W → Calls Try.prog 73 #[.pointer (some ⟨g, 0, none⟩), .slice (some ⟨b, off + 1, none⟩) j j, .int .i64 ((d : Int) + 1)] W fun e w' => e = .returned (.int .i64 r1) ∧ Dr W w') := fun W h => by
                have hs1 := (HS.out.dr h).take (k := j + 1) hf2
                have hs2 := hs1.drop (k := 1) (by omega) (some ⟨b, off + 1, none⟩) ⟨fun _ => trivial, fun b' off' e _ => by injection e with e; injection e with e1 e2; rw [e1, e2], fun e => by cases e⟩
                rw [hr1]
                exact (IH.out _ _ _ _ d g W hs2 (by omega) (by omega) (HCAT.out.dr h) H1.out)
              clear hr1 hr2
              go_wp2
              have hw1 : IntKind.i64.wrap (1 + (j : Int)) = 1 + j := IntWalk.i64_in _ (by omega)
              have hw2 : IntKind.i64.wrap ((j : Int) - j) = 0 := by rw [IntWalk.i64_in _ (by omega)]; omega
              have hw3 : IntKind.i64.wrap (p1 : Int) = p1 := IntWalk.i64_in _ (by omega)
              have hw4 : IntKind.i64.wrap ((sm : Int) + p1) = sm + p1 := IntWalk.i64_in _ (by omega)
              go_quiet ((go_at_call 73; exact quiet_dr (HR1.out _ (HW.out.more _))))
              clear hw2 hw3 hmul
              go_wp2
              have hs0 : (0 : Int) ≤ 1 + (j : Int) := by omega
              have hs1 : (1 : Int) + (j : Int) ≤ (j : Int) + 1 := by omega
              have hs3 : ((1 : Int) + (j : Int)).toNat = 1 + j := by omega
              have hs5 : j + 1 - (1 + j) = 0 := by omega
              have hw5 : IntKind.i64.wrap ((d : Int) + j + 1 + 1) = (d : Int) + j + 1 + 1 := IntWalk.i64_in _ (by omega)
              have hw6 : IntKind.i64.wrap ((sm : Int) + p1) = sm + p1 := IntWalk.i64_in _ (by omega)
              go_quiet ((go_at_call 73; exact quiet_dr2 (HE.out _ _ _)))
              clear hw1 hw5 hw6 hs0 hs1 hs3 hs5 hw4
              go_wp2
              go_ret
              exact ⟨iend (by rw [HRES.out]; omega), by rw [World.drewN_drewN]; exact HW.out.more _⟩
            · obtain rfl : j = 0 := by omega
              have hr1z : r1 = 0 := by rw [hr1]; exact rankF_nil _ _ (by simp)
              have hp1z : p1 = 0 := by rw [hr1z] at hmul; simp at hmul; omega
              subst hr1z hp1z
              clear hmul hr1 hr2
              go_wp2
              have hw4 : IntKind.i64.wrap (sm : Int) = sm := IntWalk.i64_in _ (by omega)
              go_quiet ((go_at_call 73; exact quiet_dr (HE.out _ _ _)))
              go_wp2
              have hw5 : IntKind.i64.wrap ((d : Int) + 1 + 1) = (d : Int) + 1 + 1 := IntWalk.i64_in _ (by omega)
              go_quiet ((go_at_call 73; exact quiet_dr2 (HE.out _ _ _)))
              clear hw5 hw4
              go_wp2
              go_ret
              exact ⟨iend (by rw [HRES.out]; omega), by rw [World.drewN_drewN]; exact HW.out.more _⟩
end Go.Proofs.Ytmnnehpoaedifaa
/- Promise of package shunt: Rank. -/
namespace Go.Proofs.Ytmnnehpoaedifaa
open Go.RowKit

theorem catArr_at {i : Nat} (hi : i < 31) : catArr[i]? = some (.int .i64 ((cat i : Nat) : Int)) := by
  unfold catArr
  rw [List.getElem?_toArray, List.getElem?_map]
  have h := catRow_at (n := 30) (m := 31) (i := i) (by omega)
  rw [if_pos hi] at h
  have hl : i < (catRow 30 31).length := by rw [catRow_len]; omega
  rw [List.getElem?_eq_getElem hl] at h ⊢
  simp only [Option.getD_some] at h
  rw [← h]
  rfl
theorem catArr_size : catArr.size = 31 := by unfold catArr; simp [catRow_len]
theorem catArr_one : catArr.all (·.oneCell') = true := by
  unfold catArr
  rw [Array.all_eq_true_iff_forall_mem]
  intro x hx
  simp at hx
  obtain ⟨y, _, rfl⟩ := hx
  rfl
theorem Try.infoTab : (Try.prog.info? 75).map (·.size) = some 31 := by kernel_rfl
theorem rankOk_here {o : List Int} {m : Int} (h : ordB o m = true) (hg : Good o) : RankOk o.length o 0 := by
  obtain ⟨hord, _⟩ := ordB_iff.1 h
  refine rankOk_of_good o.length o 0 (Nat.le_refl _) ⟨hord.diff, fun i hi => ?_, hg⟩
  have h1 := hord.lo i hi
  have h2 := hord.hi i hi
  refine ⟨?_, ?_⟩
  · show ((0 : Nat) : Int) + 1 ≤ o[i]?.getD 0; omega
  · show o[i]?.getD 0 ≤ ((0 : Nat) : Int) + o.length; omega

set_option maxHeartbeats 1600000 in
theorem rank_ok : RankFnOk := by
  intro A n c o w hs
  have H1 := Lib.hid (isOrder_any A n c o w hs)
  have HQ := Lib.hid (isCounted_any (n : Int))
  have HS := Lib.hid hs
  have HL := Lib.hid hs.len
  have hbig := hs.big
  cases ho : ordB o 60 with
  | false =>
    rw [ho] at H1
    have HO := Lib.hid ho; clear ho hs
    go_enter Try.func44, Try.ntmps44
    go_wp2_with (go_at_call 52; refine H1.out.mono ?_; clear H1; rintro e w1 ⟨rfl, hb1⟩)
    go_ret2
    exact ⟨_, _, rfl, fun _ => ⟨rfl, rfl⟩, fun h => (by cases h), fun h => (by cases h), hb1⟩
  | true =>
    rw [ho] at H1
    obtain ⟨hord, h60⟩ := ordB_iff.1 ho
    have hn : n ≤ 60 := by rw [hs.len] at h60; omega
    clear h60 hs
    have HO := Lib.hid ho; clear ho
    have HORD := Lib.hid hord; clear hord
    by_cases h30 : n ≤ 30
    · have HQ2 : Hid (∀ W, Calls Try.prog 70 #[.int .i64 (n : Int)] W fun e w' => e = .returned (.bool true) ∧ W = w') := by
        have hk : (decide (0 ≤ (n : Int)) && decide ((n : Int) ≤ 30)) = true := by simp; omega
        rw [← hk]; exact HQ.out
      clear HQ
      by_cases hg : Good o
      · have hasc : ascB (passOf o) = true := (oneStack_iff HORD.out.diff).2 hg
        have HASC := Lib.hid hasc; clear hasc
        have HG := Lib.hid hg; clear hg
        have HRK : Hid (RankOk n o 0) := by rw [← HL.out]; exact rankOk_here HO.out HG.out
        go_enter Try.func44, Try.ntmps44
        go_wp2_with (first | (go_at_call 52; refine H1.out.mono ?_; clear H1; rintro e w1 ⟨rfl, hb1⟩) | (go_at_call 70; refine (HQ2.out _).mono ?_; rintro e w2 ⟨rfl, rfl⟩))
        have H2 := Lib.hid (findBlock_any A n c o w1 (HS.out.below hb1 (Nat.le_refl _)) (Nat.le_trans h30 (by decide)))
        go_wp2_with (go_at_call 53; refine H2.out.mono ?_; clear H2; rintro e w2 ⟨v, rfl, hv, hb2⟩; (rcases hv with ⟨rfl, _⟩ | ⟨g, a, b, d, _, _, hbad⟩; rotate_left; exact absurd hbad (HG.out a b d)); have hq := run_neq_slice_nil_any (P := Try.prog) w2 22 3 none 0 0 0 0 Try.underlying22)
        have hb12 := hb1.trans (hb2.mono hb1.size)
        clear hq
        have hb13 : ∀ w3, Below w2.heap.size w2 w3 → Below w.heap.size w w3 := fun w3 h => hb12.trans (h.mono hb12.size)
        have H3 := Lib.hid (counts_any w2)
        go_wp2_with (first | (go_at_call 71; refine H3.out.mono ?_; clear H3; rintro e w3 ⟨rfl, hb3⟩; have HB3 := Lib.hid (hb13 w3 hb3); clear hb3) | (refine wpList_store_row (by rfl) 75 (.tmp 4) (.tmp 17) (by rfl) w3.heap.size catArr (by rfl) (by rfl) 75 _ (heap_alloc_new w3 _) (by rw [catArr_size]; exact Try.infoTab) (by rw [catArr_size]; rfl) catArr_one ?_))
        have HRK1 : Hid (∀ W, Below w.heap.size w W → CatAt W w3.heap.size → Calls Try.prog 73 #[.pointer (some ⟨w3.heap.size, 0, none⟩), .slice A n c, .int .i64 1] W fun e w' => e = .returned (.int .i64 (rankF n o 0)) ∧ Dr W w') := fun W hW hC => by
          have h := rankL_any n A n c o 0 w3.heap.size W (HS.out.below hW (Nat.le_refl _)) h30 (by omega) hC HRK.out
          rw [show (((0 : Nat) : Int) + 1) = 1 from rfl] at h
          exact h
        have hsz3 : w.heap.size ≤ w3.heap.size := HB3.out.size
        refine (HRK1.out _ ?_ ?_).mono ?_
        · have hb := HB3.out.alloc hsz3 (.cells #[.int .i64 0, .int .i64 0, .int .i64 0, .int .i64 0, .int .i64 0, .int .i64 0, .int .i64 0, .int .i64 0, .int .i64 0, .int .i64 0, .int .i64 0, .int .i64 0, .int .i64 0, .int .i64 0, .int .i64 0, .int .i64 0, .int .i64 0, .int .i64 0, .int .i64 0, .int .i64 0, .int .i64 0, .int .i64 0, .int .i64 0, .int .i64 0, .int .i64 0, .int .i64 0, .int .i64 0, .int .i64 0, .int .i64 0, .int .i64 0, .int .i64 0] 75)
          exact ⟨hb.os, hb.tape, hb.output, by simpa [World.setRow] using hb.size, fun k hk => (setRow_other _ _ _ _ (by omega)).trans (hb.block k hk)⟩
        · intro i hi
          rw [cell_setRow_same _ _ _ _ _ _ _ (heap_alloc_new w3 _), catArr_at hi]
        rintro e w5 ⟨rfl, hd5⟩
        go_wp2
        go_ret2
        refine ⟨_, _, rfl, fun h => absurd ⟨by first | rfl | trivial, h30⟩ h, fun _ _ h => (by rw [HASC.out] at h; cases h), fun _ _ _ => ⟨rfl, rfl⟩, ?_⟩
        have hb := HB3.out.alloc hsz3 (.cells #[.int .i64 0, .int .i64 0, .int .i64 0, .int .i64 0, .int .i64 0, .int .i64 0, .int .i64 0, .int .i64 0, .int .i64 0, .int .i64 0, .int .i64 0, .int .i64 0, .int .i64 0, .int .i64 0, .int .i64 0, .int .i64 0, .int .i64 0, .int .i64 0, .int .i64 0, .int .i64 0, .int .i64 0, .int .i64 0, .int .i64 0, .int .i64 0, .int .i64 0, .int .i64 0, .int .i64 0, .int .i64 0, .int .i64 0, .int .i64 0, .int .i64 0] 75)
        have hb' : Below w.heap.size w ((w3.alloc (.cells #[.int .i64 0, .int .i64 0, .int .i64 0, .int .i64 0, .int .i64 0, .int .i64 0, .int .i64 0, .int .i64 0, .int .i64 0, .int .i64 0, .int .i64 0, .int .i64 0, .int .i64 0, .int .i64 0, .int .i64 0, .int .i64 0, .int .i64 0, .int .i64 0, .int .i64 0, .int .i64 0, .int .i64 0, .int .i64 0, .int .i64 0, .int .i64 0, .int .i64 0, .int .i64 0, .int .i64 0, .int .i64 0, .int .i64 0, .int .i64 0, .int .i64 0] 75)).setRow w3.heap.size catArr) := ⟨hb.os, hb.tape, hb.output, by simpa [World.setRow] using hb.size, fun k hk => (setRow_other _ _ _ _ (by omega)).trans (hb.block k hk)⟩
        exact hb'.trans (hd5.below _)
      · have hasc : ascB (passOf o) = false := by
          cases h : ascB (passOf o) with
          | false => rfl
          | true => exact absurd ((oneStack_iff HORD.out.diff).1 h) hg
        have HASC := Lib.hid hasc; clear hasc
        have HG := Lib.hid hg; clear hg
        go_enter Try.func44, Try.ntmps44
        go_wp2_with (first | (go_at_call 52; refine H1.out.mono ?_; clear H1; rintro e w1 ⟨rfl, hb1⟩) | (go_at_call 70; refine (HQ2.out _).mono ?_; rintro e w2 ⟨rfl, rfl⟩))
        have H2 := Lib.hid (findBlock_any A n c o w1 (HS.out.below hb1 (Nat.le_refl _)) (Nat.le_trans h30 (by decide)))
        go_wp2_with (go_at_call 53; refine H2.out.mono ?_; clear H2; rintro e w2 ⟨v, rfl, hv, hb2⟩; (rcases hv with ⟨_, hgood⟩ | ⟨g, a, b, d, rfl, hown, hbad⟩; exact absurd hgood HG.out); clear hown; have hq := run_neq_slice_nil_any (P := Try.prog) w2 22 3 (some ⟨g, 0, none⟩) 3 3 0 0 Try.underlying22)
        have hb12 := hb1.trans (hb2.mono hb1.size)
        go_ret2
        exact ⟨_, _, rfl, fun h => absurd ⟨by first | rfl | trivial, h30⟩ h, fun _ _ _ => ⟨rfl, rfl⟩, fun _ _ h => (by rw [HASC.out] at h; cases h), hb12⟩
    · have HQ2 : Hid (∀ W, Calls Try.prog 70 #[.int .i64 (n : Int)] W fun e w' => e = .returned (.bool false) ∧ W = w') := by
        have hk : (decide (0 ≤ (n : Int)) && decide ((n : Int) ≤ 30)) = false := by simp; omega
        rw [← hk]; exact HQ.out
      clear HQ
      go_enter Try.func44, Try.ntmps44
      go_wp2_with (first | (go_at_call 52; refine H1.out.mono ?_; clear H1; rintro e w1 ⟨rfl, hb1⟩) | (go_at_call 70; refine (HQ2.out _).mono ?_; rintro e w2 ⟨rfl, rfl⟩))
      go_ret2
      exact ⟨_, _, rfl, fun _ => ⟨rfl, rfl⟩, fun _ h => absurd h h30, fun _ h => absurd h h30, hb1⟩
end Go.Proofs.Ytmnnehpoaedifaa
