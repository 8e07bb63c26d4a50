import Derived.Test.YtmnnehpoaedifaaJ10
import Derived.Test.YtmnnehpoaedifaaJ03
import Derived.Test.YtmnnehpoaedifaaJ07
import Derived.Test.YtmnnehpoaedifaaJ17
/- Contract: counted; the law ShuntAll, from what Count and Stack promise. -/
namespace Go.Proofs.Ytmnnehpoaedifaa
open Go.RowKit

/-- The number of orders of n items that begin with l and that one stack sorts; t items are wanting. -/
def cntF : Nat → Nat → List Int → Nat
  | 0, _, l => if ascB (passOf l) = true then 1 else 0
  | t + 1, n, l => ((List.range n).map fun i : Nat => if hasB l ((i : Int) + 1) = true then 0 else cntF t n (l ++ [(i : Int) + 1])).sum
def cntTo (t n : Nat) (l : List Int) (x : Nat) : Nat := ((List.range x).map fun i : Nat => if hasB l ((i : Int) + 1) = true then 0 else cntF t n (l ++ [(i : Int) + 1])).sum
theorem cntTo_succ (t n : Nat) (l : List Int) (x : Nat) : cntTo t n l (x + 1) = cntTo t n l x + if hasB l ((x : Int) + 1) = true then 0 else cntF t n (l ++ [(x : Int) + 1]) := by
  unfold cntTo
  rw [List.range_succ, List.map_append, List.sum_append]
  simp
theorem cntF_le (t n : Nat) (hn : n ≤ 5) : ∀ l, cntF t n l ≤ 5 ^ t := by
  induction t with
  | zero => intro l; rw [cntF]; split <;> simp
  | succ t ih =>
    intro l
    have : ∀ x, cntTo t n l x ≤ x * 5 ^ t := fun x => by
      induction x with
      | zero => simp [cntTo]
      | succ x ihx =>
        rw [cntTo_succ, Nat.succ_mul]
        have := ih (l ++ [(x : Int) + 1])
        split <;> omega
    have h1 := this n
    have h2 : n * 5 ^ t ≤ 5 * 5 ^ t := Nat.mul_le_mul_right _ hn
    rw [Nat.pow_succ, Nat.mul_comm]
    exact Nat.le_trans h1 h2
theorem cnt_all : (List.range 6).all (fun n => decide (cntF n n [] = cat n)) = true := by decide +kernel
/-- Different numbers from 1 to n. -/
structure Some5 (n : Nat) (l : List Int) : Prop where
  diff : Diff l
  rng : ∀ i, i < l.length → 1 ≤ l[i]?.getD 0 ∧ l[i]?.getD 0 ≤ n
theorem Some5.add {n : Nat} {l : List Int} (h : Some5 n l) {x : Int} (h1 : 1 ≤ x) (h2 : x ≤ n) (hx : hasB l x = false) : Some5 n (l ++ [x]) := by
  have e1 : ∀ i, i < l.length → (l ++ [x])[i]?.getD 0 = l[i]?.getD 0 := fun i hi => by rw [List.getElem?_append_left hi]
  have e2 : (l ++ [x])[l.length]?.getD 0 = x := by simp
  have hno : ∀ i, i < l.length → l[i]?.getD 0 ≠ x := fun i hi e => by
    rw [Bool.eq_false_iff] at hx
    apply hx
    rw [hasB_iff, ← e, getD_at hi]
    exact List.getElem_mem _
  refine ⟨fun i j hi hj e => ?_, fun i hi => ?_⟩
  · rw [List.length_append, List.length_singleton] at hi hj
    by_cases a : i = l.length
    · by_cases b : j = l.length
      · omega
      · subst a; rw [e2, e1 j (by omega)] at e; exact absurd e.symm (hno j (by omega))
    · by_cases b : j = l.length
      · subst b; rw [e2, e1 i (by omega)] at e; exact absurd e (hno i (by omega))
      · rw [e1 i (by omega), e1 j (by omega)] at e; exact h.diff i j (by omega) (by omega) e
  · rw [List.length_append, List.length_singleton] at hi
    by_cases a : i = l.length
    · subst a; rw [e2]; exact ⟨h1, h2⟩
    · rw [e1 i (by omega)]; exact h.rng i (by omega)

set_option maxHeartbeats 3200000 in
theorem counted_any (hT : StackOk) (t : Nat) : ∀ (A : Option Addr) (m c : Nat) (l : List Int) (n : Nat) (w : World), Sl w A m c l → m + t = n → n ≤ 5 → Some5 n l →
    Calls Try.prog 51 #[.slice A m c, .int .i64 n] w fun e w' => e = .returned (.tuple #[.int .i64 (cntF t n l : Nat), .bool true]) ∧ Below w.heap.size w w' := by
  have HT := Lib.hid hT; clear hT
  induction t with
  | zero =>
    intro A m c l n w hs hmn hn h5
    have hlen := hs.len
    obtain rfl : m = n := by omega
    have hord : ordB l 60 = true := ordB_iff.2 ⟨⟨h5.diff, fun i hi => (h5.rng i hi).1, fun i hi => by have := (h5.rng i hi).2; rw [hlen]; exact this⟩, by omega⟩
    have HS := HT.out A m c l w hs
    cases ha : ascB (passOf l) with
    | true =>
      have HSS : Hid (Calls Try.prog 19 #[.slice A m c] w fun e w' => ∃ (p : ByteArray) (D : Option Addr) (d : Nat), e = .returned (.tuple #[.string p, .slice D 0 d, .int .i64 0]) ∧ Below w.heap.size w w') := by
        refine HS.mono ?_
        rintro e w' ⟨p, v, x, b, rfl, ho, _, _, _, h1, _, hb⟩
        obtain ⟨_, rfl, rfl⟩ := h1 hord ha
        obtain ⟨D, d, rfl, _⟩ := ho.sl_len (n := 0) rfl (by omega)
        exact ⟨p, D, d, rfl, hb⟩
      have HC : Hid (cntF 0 m l = 1) := by rw [Hid, cntF, if_pos ha]
      clear HS hs h5 hord hlen ha
      go_enter Try.func51, Try.ntmps51
      go_wp2_with (go_at_call 19; refine HSS.out.mono ?_; clear HSS; rintro e w1 ⟨p, D, d, rfl, hb1⟩)
      go_ret2
      exact ⟨by rw [HC.out]; rfl, hb1⟩
    | false =>
      have HSS : Hid (Calls Try.prog 19 #[.slice A m c] w fun e w' => ∃ (p : ByteArray) (D : Option Addr) (d : Nat), e = .returned (.tuple #[.string p, .slice D 3 d, .int .i64 0]) ∧ Below w.heap.size w w') := by
        refine HS.mono ?_
        rintro e w' ⟨p, v, x, b, rfl, ho, _, _, _, _, h1, hb⟩
        obtain ⟨rfl, hsb, rfl⟩ := h1 hord ha
        have hl3 : b.length = 3 := by
          rw [sblock_pos, Bool.and_eq_true] at hsb
          have := (posB_at hsb.1).1
          omega
        obtain ⟨D, d, rfl, _⟩ := ho.sl_len (n := 3) hl3 (by omega)
        exact ⟨_, D, d, rfl, hb⟩
      have HC : Hid (cntF 0 m l = 0) := by rw [Hid, cntF, if_neg (by rw [ha]; decide)]
      clear HS hs h5 hord hlen ha
      go_enter Try.func51, Try.ntmps51
      go_wp2_with (go_at_call 19; refine HSS.out.mono ?_; clear HSS; rintro e w1 ⟨p, D, d, rfl, hb1⟩)
      go_ret2
      exact ⟨by rw [HC.out]; rfl, hb1⟩
  | succ t ih =>
    intro A m c l n w hs hmn hn h5
    have IH := Lib.hid ih; clear ih
    have hmn2 : m < n := by omega
    have HMN : Hid (m + (t + 1) = n) := hmn
    clear hmn
    have HS := Lib.hid hs; clear hs
    have H5 := Lib.hid h5; clear h5
    obtain ⟨i0, hi, hz0, hz1, hz2⟩ := info_parts Try.infoInt
    have HI : Hid (Try.prog.info? 3 = some i0 ∧ i0.zero = some (.int .i64 0) ∧ i0.size = 1 ∧ i0.bytes = 8) := ⟨hi, hz0, hz1, hz2⟩
    clear hi hz0 hz1 hz2
    have HBD : Hid (∀ x, x ≤ n → cntTo t n l x ≤ 1000000) := fun x hx => by
      have h1 : ∀ y, cntTo t n l y ≤ y * 5 ^ t := fun y => by
        induction y with
        | zero => simp [cntTo]
        | succ y ihy =>
          rw [cntTo_succ, Nat.succ_mul]
          have := cntF_le t n hn (l ++ [(y : Int) + 1])
          split <;> omega
      have h2 : (5 : Nat) ^ t ≤ 5 ^ 4 := Nat.pow_le_pow_right (by omega) (by have := HMN.out; omega)
      have h3 := h1 x
      have h4 : x * 5 ^ t ≤ 5 * 5 ^ 4 := Nat.mul_le_mul (by omega) h2
      omega
    have g0 : ((m : Int) == (n : Int)) = false := by simp; omega
    go_enter Try.func51, Try.ntmps51
    go_wp2_with fail
    go_loopw [9, 10, 11, 12, 13, 14, 15] (fun s xx _ _ _ _ _ w' => ∃ x : Nat, x ≤ n ∧ xx = .int .i64 ((x : Int) + 1) ∧ s = .int .i64 (cntTo t n l x : Nat) ∧ Below w.heap.size w w') (fun _ xx _ _ _ _ _ _ => n + 1 - (intOf xx).toNat)
    case atStart => exact ⟨0, by omega, by go_num, rfl, Below.refl _ _⟩
    case round =>
      obtain ⟨x, hx, rfl, rfl, hW⟩ := hrel
      by_cases hlt : x < n
      · have HNX := Lib.hid (cntTo_succ t n l x)
        have HB1 := Lib.hid (HBD.out (x + 1) (by omega))
        obtain ⟨sm, hsm⟩ : ∃ sm, sm = cntTo t n l x := ⟨_, rfl⟩
        rw [← hsm] at HNX
        rw [← hsm]
        have HSM := Lib.hid hsm; clear hsm
        have hsmb : sm ≤ 1000000 := by rw [HSM.out]; exact HBD.out x hx
        obtain ⟨wo, rfl⟩ : ∃ wo : World, wo = wr := ⟨_, rfl⟩
        have hsz := hW.size
        go_wp2_with fail
        go_loopw [11, 12] (fun u i w' => ∃ j : Nat, j ≤ m ∧ i = .int .i64 j ∧ u = .bool (hasB (l.take j) ((x : Int) + 1)) ∧ w' = wo) (fun _ i _ => m - (intOf i).toNat)
        case atStart => exact ⟨0, by omega, by go_num, by simp [hasB], rfl⟩
        case round =>
          obtain ⟨j, hj, rfl, rfl, rfl⟩ := hrel
          by_cases hjm : j < m
          · cases hh : hasB (l.take j) ((x : Int) + 1) with
            | true =>
              have HN : Hid (hasB (l.take (j + 1)) ((x : Int) + 1) = true) := by
                rw [Hid, hasB_take] at *
                obtain ⟨i, a, b, c⟩ := hh
                exact ⟨i, by omega, b, c⟩
              clear hh
              go_wp2_with fail
              go_roundw
              case rel => exact ⟨j + 1, by omega, by go_num, by rw [HN.out], by first | rfl | trivial⟩
              case measure => simp [intOf]; omega
            | false =>
              obtain ⟨b0, off0, rfl, hcx⟩ := HS.out.at_ hjm
              have hb0 := HS.out.old b0 off0 rfl (by omega)
              have hcxr := (hW.cell (p := ⟨b0, off0 + j, none⟩) hb0).trans hcx
              clear hcx
              obtain ⟨y, hy⟩ : ∃ y, y = l[j]?.getD 0 := ⟨_, rfl⟩
              rw [← hy] at hcxr
              by_cases he : y = (x : Int) + 1
              · have g1 : (y == (x : Int) + 1) = true := by simpa using he
                have HN : Hid (true = hasB (l.take (j + 1)) ((x : Int) + 1)) := has_stop (l.take (j + 1)) _ j (by rw [List.length_take, HS.out.len]; omega) (by rw [List.getElem?_take_of_lt (by omega), ← hy]; exact he)
                clear hh hy he
                go_wp2_with fail
                go_roundw
                case rel => exact ⟨j + 1, by omega, by go_num, by rw [← HN.out], by first | rfl | trivial⟩
                case measure => simp [intOf]; omega
              · have g1 : (y == (x : Int) + 1) = false := by simpa using he
                have HN : Hid (hasB (l.take (j + 1)) ((x : Int) + 1) = false) := has_step l _ j (by rw [HS.out.len]; exact hjm) hh (by rw [← hy]; exact he)
                clear hh hy he
                go_wp2_with fail
                go_roundw
                case rel => exact ⟨j + 1, by omega, by go_num, by rw [HN.out], by first | rfl | trivial⟩
                case measure => simp [intOf]; omega
          · have hjm2 : j = m := by omega
            rw [hjm2]
            clear hjm2 hj hjm
            rw [List.take_of_length_le (by rw [HS.out.len]; exact Nat.le_refl _)]
            cases hh : hasB l ((x : Int) + 1) with
            | true =>
              have HV : Hid (cntTo t n l (x + 1) = sm) := by rw [Hid, HNX.out, if_pos hh]; omega
              clear hh
              go_wp2_with fail
              go_roundw
              case rel => exact ⟨x + 1, by omega, by go_num, by rw [HV.out], hW⟩
              case measure => simp [intOf]; omega
            | false =>
              obtain ⟨cf, hcf⟩ : ∃ cf, cf = cntF t n (l ++ [(x : Int) + 1]) := ⟨_, rfl⟩
              have HV : Hid (cntTo t n l (x + 1) = sm + cf) := by rw [Hid, HNX.out, if_neg (by rw [hh]; decide), hcf]
              have hcb : sm + cf ≤ 1000000 := by rw [← HV.out]; exact HB1.out
              have H6 : Hid (Some5 n (l ++ [(x : Int) + 1])) := H5.out.add (by omega) (by omega) hh
              have HCF := Lib.hid hcf; clear hcf hh
              have HSR := Lib.hid (HS.out.below hW (Nat.le_refl _))
              have hjb : m ≤ 1099511627776 := by omega
              have hlz : l.length ≤ 1099511627776 := by rw [HS.out.len]; exact hjb
              have HLZ := Lib.hid hlz; clear hlz
              go_wp2_with (first | (at_builtin; refine app_any _ rfl (.tmp 54) (.tmp 55) 22 rfl wr.heap.size 3 i0 Try.underlying22 HI.out.1 HI.out.2.1 HI.out.2.2.1 HI.out.2.2.2 (.slice none 0 0) 0 [] rfl (World.ownsRow_nil _ _ _ _) A m c l rfl HSR.out (by omega) (Nat.le_refl _) ?_; intro v1 w1 hown hg; have HO1 : Hid (Ow w1 wr.heap.size 3 v1 l) := (by rw [Hid]; unfold Ow; rw [HS.out.len]; simpa using hown); clear hown; have HG1 := Lib.hid hg; clear hg; have hs1 := HG1.out.size) | (at_builtin; refine push_law _ rfl (.tmp 58) (.tmp 60) 22 rfl wr.heap.size 3 i0 Try.underlying22 HI.out _ l ((x : Int) + 1) rfl rfl HO1.out HLZ.out hs1 ?_; intro v2 w2 hv2 hg2 hat2; have HV2 := Lib.hid hv2; clear hv2; have HG2 := Lib.hid hg2; clear hg2 hat2; obtain ⟨E, e2, he2, hs2⟩ := HV2.out.sl_len (n := m + 1) (by rw [List.length_append, HS.out.len]; rfl) (by omega); have HE2 := Lib.hid hs2; clear hs2; subst he2))
              have hb12 : Below wr.heap.size wr w2 := ((Below.refl wr.heap.size wr).grown HG1.out (Nat.le_refl _) (by simp [Value.ownBlock])).grown HG2.out hs1 (fun k e => (HO1.out.lt e).1)
              have H7 := Lib.hid (IH.out E (m + 1) e2 (l ++ [(x : Int) + 1]) n w2 HE2.out (by have := HMN.out; omega) hn H6.out)
              rw [← HCF.out] at H7
              go_wp2_with (go_at_call 51; refine H7.out.mono ?_; clear H7; rintro e w3 ⟨rfl, hb3⟩)
              go_roundw
              case rel => exact ⟨x + 1, by omega, by go_num, by rw [HV.out]; go_num, (hW.trans (hb12.mono hW.size)).trans (hb3.mono (Nat.le_trans hW.size hb12.size))⟩
              case measure => simp [intOf]; omega
      · obtain rfl : x = n := by omega
        have HV : Hid (cntF (t + 1) x l = cntTo t x l x) := rfl
        go_wp2_with fail
        go_ret2
        exact ⟨by rw [HV.out]; rfl, hW⟩

set_option maxHeartbeats 800000 in
theorem all_law (hA : AwakeOk) (hC : CountOk) (hT : StackOk) (n : Int) (w : World) :
    Calls Try.prog 16 #[.int .i64 n] w fun e w' => e = .returned (.bool true) ∧ Below w.heap.size w w' := by
  have HA := Lib.hid hA; clear hA
  have HCNT : Hid (∀ (W : World) (q : Nat), q ≤ 30 → Calls Try.prog 39 #[.int .i64 q] W fun e w' => e = .returned (.tuple #[.int .i64 (cat q : Nat), .int .i64 0]) ∧ Below W.heap.size W w') := fun W q hq => by
    refine (hC (q : Int) W).mono ?_
    rintro e w' ⟨c, x, rfl, h1, _, hb⟩
    obtain ⟨rfl, rfl⟩ := h1 (by omega) (by omega)
    exact ⟨by simp, hb⟩
  have HCTD : Hid (∀ (W : World) (q : Nat), q ≤ 5 → Calls Try.prog 51 #[.slice none 0 0, .int .i64 q] W fun e w' => e = .returned (.tuple #[.int .i64 (cat q : Nat), .bool true]) ∧ Below W.heap.size W w') := fun W q hq => by
    have h := counted_any hT q none 0 0 [] q W ⟨rfl, Nat.le_refl _, by omega, fun _ => ⟨rfl, rfl⟩, fun k hk => absurd hk (by simp), fun _ _ h _ => (by cases h)⟩ (by omega) hq ⟨fun i j hi => absurd hi (by simp), fun i hi => absurd hi (by simp)⟩
    have hc := (List.all_eq_true.1 cnt_all) q (List.mem_range.2 (by omega))
    rw [decide_eq_true_eq] at hc
    rw [hc] at h
    exact h
  clear hC hT
  have H1 := Lib.hid (mod_any n 6 w (by omega) (by omega))
  go_enter Try.func16, Try.ntmps16
  go_wp2_with (go_at_call 49; refine H1.out.mono ?_; clear H1; rintro e w1 ⟨⟨q, rfl, hq⟩, rfl⟩)
  have H2 := Lib.hid (HCNT.out w q (by omega))
  have H3 : Hid (∀ W, Calls Try.prog 51 #[.slice none 0 0, .int .i64 q] W fun e w' => e = .returned (.tuple #[.int .i64 (cat q : Nat), .bool true]) ∧ Below W.heap.size W w') := fun W => HCTD.out W q (by omega)
  generalize hcq : cat q = cq at *
  clear hcq
  go_wp2_with (first | (go_at_call 39; refine H2.out.mono ?_; clear H2; rintro e w2 ⟨rfl, hb2⟩) | (go_at_call 51; refine (H3.out _).mono ?_; clear H3; rintro e w3 ⟨rfl, hb3⟩) | (go_at_call 22; refine (HA.out _).mono ?_; rintro e w4 ⟨rfl, hb4⟩))
  go_ret
  exact ⟨rfl, (hb2.trans (hb3.mono hb2.size)).trans (hb4.mono (Nat.le_trans hb2.size hb3.size))⟩
end Go.Proofs.Ytmnnehpoaedifaa
