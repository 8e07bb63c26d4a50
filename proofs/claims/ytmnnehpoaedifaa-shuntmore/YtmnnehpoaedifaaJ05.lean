import Derived.Test.YtmnnehpoaedifaaJ04
import Derived.Deep.RegionWith
/- Contract: Rank. -/
namespace Go.Proofs.Ytmnnehpoaedifaa
open Go.RowKit

theorem Sl.drop {w : World} {n c : Nat} {A : Option Addr} {zs : List Int} (h : Sl w A n c zs) {k : Nat} (hk : k ≤ n) (A' : Option Addr) (hA : (c = k → True) ∧ (∀ b off, A = some ⟨b, off, none⟩ → k < c → A' = some ⟨b, off + k, none⟩) ∧ (A' = none → A = none)) : Sl w A' (n - k) (c - k) (zs.drop k) := by
  refine ⟨by rw [List.length_drop, h.len], by have := h.cap; omega, by have := h.big; omega, fun e => by have := h.nil (hA.2.2 e); omega, fun j hj => ?_, fun b off e hn => ?_⟩
  · rw [List.length_drop, h.len] at hj
    obtain ⟨b, off, e, hc⟩ := h.at_ (k := k + j) (by omega)
    refine ⟨b, off + k, hA.2.1 b off e (by have := h.cap; omega), ?_⟩
    rw [List.getElem?_drop, Nat.add_assoc]
    exact hc
  · obtain ⟨b', off', e', _⟩ := h.at_ (k := 0) (by omega)
    have := hA.2.1 b' off' e' (by have := h.cap; omega)
    rw [e] at this
    injection this with this
    injection this with h1 h2
    rw [h1]
    exact h.old b' off' e' (by omega)

/-- What was there when the call began is as it was. -/
def Kp (w W : World) : Prop := Below w.heap.size w W
theorem Kp.call {w W w' : World} (h : Kp w W) (hb : Below W.heap.size W w') : Kp w w' := Below.trans h (hb.mono h.size)
theorem Kp.drew {w W : World} (h : Kp w W) : Kp w W.drew := Below.drew h

theorem rank_empty (A : Option Addr) (c : Nat) (x : Int) (w : World) : Calls Try.prog 47 #[.slice A 0 c, .int .i64 x] w fun e w' => e = .returned (.int .i64 0) ∧ Below w.heap.size w w' := by
  go_enter Try.func47, Try.ntmps47
  go_wp2
  go_ret
  exact ⟨rfl, Below.refl _ _⟩

set_option maxHeartbeats 1600000 in
theorem rank_any (t : Nat) : ∀ (A : Option Addr) (n c : Nat) (zs : List Int) (d : Nat) (w : World), Sl w A n c zs → n ≤ 30 → d + n ≤ 60 → RankOk t zs d →
    Calls Try.prog 47 #[.slice A n c, .int .i64 d] w fun e w' => e = .returned (.int .i64 (rankF t zs d)) ∧ Below w.heap.size w w' := by
  induction t with
  | zero =>
    intro A n c zs d w hs hn hd hok
    have h0 : n = 0 := by rw [← hs.len]; exact hok
    subst h0
    rw [rankF_nil _ _ hok]
    clear hs hok
    go_enter Try.func47, Try.ntmps47
    go_wp2
    go_ret
    exact ⟨rfl, Below.refl _ _⟩
  | succ t ih =>
    intro A n c zs d w hs hn hd hok
    have IH := Lib.hid ih; clear ih
    have HS := Lib.hid hs; clear hs
    by_cases h0 : n = 0
    · subst h0
      rw [rankF_nil _ _ HS.out.len]
      clear hok
      go_enter Try.func47, Try.ntmps47
      go_wp2
      go_ret
      exact ⟨rfl, Below.refl _ _⟩
    · have hcap := HS.out.cap
      obtain ⟨f, hf1, hf2, hf3, hok1, hok2⟩ := hok.resolve_left (by rw [HS.out.len]; exact h0)
      rw [HS.out.len] at hf2
      have HF := Lib.hid hf3; clear hf3
      have H1 := Lib.hid hok1; clear hok1
      have H2 := Lib.hid hok2; clear hok2
      have HRK := Lib.hid hok; clear hok
      have g0 : ((n : Int) == 0) = false := by simp; omega
      obtain ⟨b, off, rfl, hc⟩ := HS.out.cells (by omega)
      have hc0 : w.cell? ⟨b, off, none⟩ = some (.int .i64 ((d : Int) + f)) := by have := hc 0 (by omega); rw [HF.out] at this; exact this
      clear hc
      have hcp := catSum_mono n (show f - 1 ≤ n by omega)
      have hcs := catSum_le n n (Nat.le_refl _) (by omega)
      have hcb := cat_bound n hn
      have hfd : (d : Int) + (f : Int) - (d : Int) = (f : Int) := by omega
      go_enter Try.func47, Try.ntmps47
      go_wp2
      clear hfd
      go_loopw [7, 8] (fun s i w' => ∃ j sm : Nat, j + 1 ≤ f ∧ i = .int .i64 ((j : Int) + 1) ∧ s = .int .i64 sm ∧ sm ≤ 3814986502092304 ∧ Hid (sm = catSum n j) ∧ Below w.heap.size w w') (fun _ i _ => f - (intOf i).toNat)
      case atStart => exact ⟨0, 0, by omega, by go_num, rfl, by omega, rfl, Below.refl _ _⟩
      case round =>
        obtain ⟨j, sm, hj, rfl, rfl, hsm, HSM, hW⟩ := hrel
        have hsz := hW.size
        by_cases hlt : j + 1 < f
        · obtain ⟨p, hp⟩ : ∃ p, p = cat j * cat (n - 1 - j) := ⟨_, rfl⟩
          have hpb : sm + p ≤ 3814986502092304 := by
            have h1 := catSum_le n (j + 1) (by omega) (by omega)
            simp only [catSum] at h1
            rw [HSM.out, hp]; omega
          have HS1 : Hid (sm + p = catSum n (j + 1)) := by rw [Hid, hp, HSM.out]; rfl
          have C1 := fun W => count_int (j : Int) j W rfl (by omega)
          have C2 := fun W => count_int ((n : Int) - ((j : Int) + 1)) (n - 1 - j) W (by omega) (by omega)
          have HC1 := Lib.hid C1; clear C1
          have HC2 := Lib.hid C2; clear C2
          have hmul : (cat j : Int) * (cat (n - 1 - j) : Int) = (p : Int) := by rw [hp]; simp
          have HP := Lib.hid hp; clear hp
          generalize cat j = ca at *
          generalize cat (n - 1 - j) = cb at *
          go_wp2_with fail
          refine (HC1.out _).mono ?_
          rintro e w1 ⟨rfl, hb1⟩
          go_wp2_with fail
          refine (HC2.out _).mono ?_
          rintro e w2 ⟨rfl, hb2⟩
          have hb := (hW.trans (hb1.mono hsz)).trans (hb2.mono (Nat.le_trans hsz hb1.size))
          go_wp2
          go_roundw
          case rel => exact ⟨j + 1, sm + p, by omega, by go_num, by go_num, hpb, HS1, hb⟩
          case measure => simp [intOf]; omega
        · have hjf : j + 1 = f := by omega
          have HSF : Hid (sm = catSum n (f - 1)) := by rw [Hid, ← hjf]; exact HSM.out
          clear hjf
          have hcn : 1 ≤ c := by omega
          -- the parts
          obtain ⟨r1, hr1⟩ : ∃ r1, r1 = rankF t ((zs.take f).drop 1) d := ⟨_, rfl⟩
          obtain ⟨r2, hr2⟩ : ∃ r2, r2 = rankF t (zs.drop f) (d + f) := ⟨_, rfl⟩
          obtain ⟨cb, hcbe⟩ : ∃ cb, cb = cat (n - f) := ⟨_, rfl⟩
          obtain ⟨p1, hp1⟩ : ∃ p1, p1 = r1 * cb := ⟨_, rfl⟩
          have HRES : Hid (rankF (t + 1) zs d = sm + p1 + r2) := by
            rw [Hid, rankF_at (by rw [HS.out.len]; exact h0) HF.out, HS.out.len, hp1, hr1, hr2, hcbe, HSF.out]
          have hrb : sm + p1 + r2 ≤ 3814986502092304 := by
            have h1 := rankF_lt (t + 1) zs d HRK.out
            rw [HRES.out, HS.out.len] at h1
            omega
          have hmul : (r1 : Int) * (cb : Int) = (p1 : Int) := by rw [hp1]; simp
          have HK0 : Hid (Kp w wr) := hW
          have HCC : Hid (∀ W, Kp w W → Calls Try.prog 41 #[.int .i64 ((n : Int) - (f : Int))] W fun e w' => e = .returned (.int .i64 cb) ∧ Kp w w') := fun W h => by
            rw [hcbe]
            exact (count_int _ (n - f) W (by omega) (by omega)).mono fun e w' ⟨he, hb⟩ => ⟨he, h.call hb⟩
          clear hcbe hp1 hcp hcs hcb hsm
          by_cases hcf : c = f
          · subst hcf
            obtain rfl : n = c := by omega
            by_cases hn1 : n = 1
            · subst hn1
              have HC0 : Hid (∀ W, Kp w W → Calls Try.prog 41 #[.int .i64 0] W fun e w' => e = .returned (.int .i64 cb) ∧ Kp w w') := fun W h => by
                have h' := HCC.out W h
                rw [show ((1 : Nat) : Int) - ((1 : Nat) : Int) = 0 from by omega] at h'
                exact h'
              have HE : Hid (∀ A2 x W, Kp w W → Calls Try.prog 47 #[.slice A2 0 0, .int .i64 x] W fun e w' => e = .returned (.int .i64 0) ∧ Kp w w') := fun A2 x W h =>
                (rank_empty A2 0 x W).mono fun e w' ⟨he, hb⟩ => ⟨he, h.call hb⟩
              have hr2z : r2 = 0 := by rw [hr2]; exact rankF_nil _ _ (by rw [List.length_drop, HS.out.len])
              have hr1z : r1 = 0 := by rw [hr1]; exact rankF_nil _ _ (by simp)
              have hp1z : p1 = 0 := by rw [hr1z] at hmul; simp at hmul; omega
              subst hr2z hr1z hp1z
              clear hmul
              clear hr1 hr2
              go_wp2
              have hw1 : IntKind.i64.wrap 0 = 0 := IntWalk.i64_in _ (by omega)
              have hw4 : IntKind.i64.wrap (sm : Int) = sm := IntWalk.i64_in _ (by omega)
              go_region_with (first
                | (go_at_call 47; (with_reducible refine (HE.out _ _ _ ?_).mono ?_); (first | assumption | exact Kp.drew HK0.out | exact HK0.out); rintro e w' ⟨rfl, hk2⟩)
                | (go_at_call 41; (with_reducible refine (HC0.out _ ?_).mono ?_); (first | assumption | exact Kp.drew HK0.out | exact HK0.out); rintro e w' ⟨rfl, hk3⟩))
              all_goals clear hw1 hw4
              all_goals go_wp2
              all_goals go_ret
              all_goals exact ⟨iend (by rw [HRES.out]; omega), by first | assumption | exact Kp.drew (by assumption)⟩
            · have hc12 : 1 < n := by omega
              have HC0 : Hid (∀ W, Kp w W → Calls Try.prog 41 #[.int .i64 0] W fun e w' => e = .returned (.int .i64 cb) ∧ Kp w w') := fun W h => by
                have h' := HCC.out W h
                rw [show (n : Int) - (n : Int) = 0 from by omega] at h'
                exact h'
              have HE : Hid (∀ A2 x W, Kp w W → Calls Try.prog 47 #[.slice A2 0 0, .int .i64 x] W fun e w' => e = .returned (.int .i64 0) ∧ Kp w w') := fun A2 x W h =>
                (rank_empty A2 0 x W).mono fun e w' ⟨he, hb⟩ => ⟨he, h.call hb⟩
              have hr2z : r2 = 0 := by rw [hr2]; exact rankF_nil _ _ (by rw [List.length_drop, HS.out.len]; omega)
              subst hr2z
              have HR1 : Hid (∀ W, Kp w W → Calls Try.prog 47 #[.slice (some ⟨b, off + 1, none⟩) (n - 1) (n - 1), .int .i64 d] W fun e w' => e = .returned (.int .i64 r1) ∧ Kp w w') := fun W h => by
                have hs1 := (HS.out.below h (Nat.le_refl _)).take (Nat.le_refl n)
                have hs2 := hs1.drop (k := 1) (by omega) (some ⟨b, off + 1, none⟩) ⟨fun _ => trivial, fun b' off' e _ => by injection e with e; injection e with e1 e2; rw [e1, e2], fun e => by cases e⟩
                rw [hr1]
                exact (IH.out _ _ _ _ d W hs2 (by omega) (by omega) H1.out).mono fun e w' ⟨he, hb⟩ => ⟨he, h.call hb⟩
              clear hr1 hr2
              go_wp2
              have hw1 : IntKind.i64.wrap (p1 : Int) = p1 := IntWalk.i64_in _ (by omega)
              have hw2 : IntKind.i64.wrap ((sm : Int) + p1) = sm + p1 := IntWalk.i64_in _ (by omega)
              have hw4 : IntKind.i64.wrap (sm : Int) = sm := IntWalk.i64_in _ (by omega)
              go_region_with (first
                | (go_at_call 47; (with_reducible refine (HR1.out _ ?_).mono ?_); (first | assumption | exact Kp.drew HK0.out | exact HK0.out); rintro e w' ⟨rfl, hk1⟩)
                | (go_at_call 47; (with_reducible refine (HE.out _ _ _ ?_).mono ?_); (first | assumption | exact Kp.drew HK0.out | exact HK0.out); rintro e w' ⟨rfl, hk2⟩)
                | (go_at_call 41; (with_reducible refine (HC0.out _ ?_).mono ?_); (first | assumption | exact Kp.drew HK0.out | exact HK0.out); rintro e w' ⟨rfl, hk3⟩))
              all_goals clear hw1 hw2 hw4 hmul
              all_goals go_wp2
              all_goals go_ret
              all_goals exact ⟨iend (by rw [HRES.out]; omega), by first | assumption | exact Kp.drew (by assumption)⟩
          · have hcf2 : f < c := by omega
            have hc12 : 1 < c := by omega
            have HR1 : Hid (∀ W, Kp w W → Calls Try.prog 47 #[.slice (some ⟨b, off + 1, none⟩) (f - 1) (c - 1), .int .i64 d] W fun e w' => e = .returned (.int .i64 r1) ∧ Kp w w') := fun W h => by
              have hs1 := (HS.out.below h (Nat.le_refl _)).take hf2
              have hs2 := hs1.drop (k := 1) hf1 (some ⟨b, off + 1, none⟩) ⟨fun _ => trivial, fun b' off' e _ => by injection e with e; injection e with e1 e2; rw [e1, e2], fun e => by cases e⟩
              rw [hr1]
              exact (IH.out _ _ _ _ d W hs2 (by omega) (by omega) H1.out).mono fun e w' ⟨he, hb⟩ => ⟨he, h.call hb⟩
            have HR2 : Hid (∀ W, Kp w W → Calls Try.prog 47 #[.slice (some ⟨b, off + f, none⟩) (n - f) (c - f), .int .i64 ((d : Int) + (f : Int))] W fun e w' => e = .returned (.int .i64 r2) ∧ Kp w w') := fun W h => by
              have hs2 := (HS.out.below h (Nat.le_refl _)).drop (k := f) hf2 (some ⟨b, off + f, none⟩) ⟨fun _ => trivial, fun b' off' e _ => by injection e with e; injection e with e1 e2; rw [e1, e2], fun e => by cases e⟩
              rw [hr2]
              have h' := IH.out _ _ _ _ (d + f) W hs2 (by omega) (by omega) H2.out
              rw [show ((d + f : Nat) : Int) = (d : Int) + f from by omega] at h'
              exact h'.mono fun e w' ⟨he, hb⟩ => ⟨he, h.call hb⟩
            clear hr1 hr2
            go_wp2
            have hw1 : IntKind.i64.wrap (p1 : Int) = p1 := IntWalk.i64_in _ (by omega)
            have hw2 : IntKind.i64.wrap ((sm : Int) + p1) = sm + p1 := IntWalk.i64_in _ (by omega)
            have hw3 : IntKind.i64.wrap ((sm : Int) + p1 + r2) = sm + p1 + r2 := IntWalk.i64_in _ (by omega)
            have hw4 : IntKind.i64.wrap ((n : Int) - f) = (n : Int) - f := IntWalk.i64_in _ (by omega)
            have hw5 : IntKind.i64.wrap ((d : Int) + f) = (d : Int) + f := IntWalk.i64_in _ (by omega)
            go_region_with (first
              | (go_at_call 47; (with_reducible refine (HR2.out _ ?_).mono ?_); (first | assumption | exact Kp.drew HK0.out | exact HK0.out); rintro e w' ⟨rfl, hk2⟩)
              | (go_at_call 47; (with_reducible refine (HR1.out _ ?_).mono ?_); (first | assumption | exact Kp.drew HK0.out | exact HK0.out); rintro e w' ⟨rfl, hk1⟩)
              | (go_at_call 41; (with_reducible refine (HCC.out _ ?_).mono ?_); (first | assumption | exact Kp.drew HK0.out | exact HK0.out); rintro e w' ⟨rfl, hk3⟩))
            all_goals clear hw1 hw2 hw3 hw4 hw5 hmul
            all_goals go_wp2
            all_goals go_ret
            all_goals exact ⟨iend (by rw [HRES.out]; omega), by first | assumption | exact Kp.drew (by assumption)⟩
end Go.Proofs.Ytmnnehpoaedifaa
/- Contract: inverse. -/
namespace Go.Proofs.Ytmnnehpoaedifaa
open Go.RowKit

def invTo (zs : List Int) : Nat → List Int
  | 0 => List.replicate zs.length 0
  | k + 1 => (invTo zs k).set ((zs[k]?.getD 0).toNat - 1) ((k : Int) + 1)
theorem invTo_len (zs : List Int) (k : Nat) : (invTo zs k).length = zs.length := by
  induction k with
  | zero => simp [invTo]
  | succ k ih => simp [invTo, ih]

set_option maxHeartbeats 1600000 in
theorem inverse_any (A : Option Addr) (n c : Nat) (zs : List Int) (w : World) (hs : Sl w A n c zs) (hbig : n ≤ 1099511627776) (hr : ∀ i, i < n → 1 ≤ zs[i]?.getD 0 ∧ zs[i]?.getD 0 ≤ n) :
    Calls Try.prog 50 #[.slice A n c] w fun e w' => ∃ v, e = .returned v ∧ Ow w' w.heap.size 3 v (invTo zs n) ∧ Below w.heap.size w w' := by
  have HS := Lib.hid hs; clear hs
  have HR := Lib.hid hr; clear hr
  obtain ⟨i0, hi, hz0, hz1, hz2⟩ := info_parts Try.infoInt
  have HI : Hid (Try.prog.info? 3 = some i0 ∧ i0.zero = some (.int .i64 0) ∧ i0.size = 1 ∧ i0.bytes = 8) := ⟨hi, hz0, hz1, hz2⟩
  clear hi hz0 hz1 hz2
  go_enter Try.func50, Try.ntmps50
  go_wp2_with (at_make; go_must (refine make_law _ rfl (.tmp 6) (.tmp 6) 22 rfl w.heap.size 3 i0 Try.underlying22 HI.out _ _ n rfl rfl rfl rfl (by omega) (Nat.le_refl _) ?_); intro w1 hv1 hg1; have HV1 := Lib.hid hv1; clear hv1; have HG1 := Lib.hid hg1; clear hg1)
  have hW1 := (Below.refl w.heap.size w).grown HG1.out (Nat.le_refl _) (by simp)
  go_loopw [4] (fun i w' => ∃ k : Nat, k ≤ n ∧ i = .int .i64 k ∧ Hid (Ow w' w.heap.size 3 (.slice (some ⟨w.heap.size, 0, none⟩) n n) (invTo zs k)) ∧ Below w.heap.size w w') (fun i _ => n - (intOf i).toNat)
  case atStart => exact ⟨0, by omega, by go_num, (by have h := HV1.out; rw [Hid, invTo, HS.out.len]; exact h), hW1⟩
  case round =>
    obtain ⟨k, hk, rfl, HO, hW⟩ := hrel
    by_cases hlt : k < n
    · obtain ⟨b0, off0, rfl, hcx⟩ := HS.out.at_ hlt
      have hb0 := HS.out.old b0 off0 rfl (by omega)
      have hcxr := (hW.cell (p := ⟨b0, off0 + k, none⟩) hb0).trans hcx
      clear hcx
      have hz := HR.out k hlt
      have HN : Hid (∀ z, z = (zs[k]?.getD 0).toNat - 1 → invTo zs (k + 1) = (invTo zs k).set z ((k : Int) + 1)) := fun z hz => by rw [hz]; rfl
      generalize zs[k]?.getD 0 = x at *
      obtain ⟨z, rfl⟩ : ∃ z : Nat, x = (z : Int) + 1 := ⟨x.toNat - 1, by omega⟩
      have hzn : z < n := by omega
      have hcz := HO.out.cellAt (by rw [invTo_len, HS.out.len]) hzn
      have hfz := HO.out.free (by rw [invTo_len, HS.out.len]) z
      have HP := Lib.hid (HO.out.put (by rw [invTo_len, HS.out.len]) z ((k : Int) + 1))
      have HE : Hid (invTo zs (k + 1) = (invTo zs k).set z ((k : Int) + 1)) := HN.out z (by omega)
      clear hz
      go_wp2
      go_roundw
      case rel => exact ⟨k + 1, by omega, by go_num, (by rw [Hid, HE.out]; exact HP.out), hW.setCell (p := ⟨w.heap.size, z, none⟩) (Nat.le_refl _) _⟩
      case measure => simp [intOf]; omega
    · have hkn : k = n := by omega
      subst hkn
      go_wp2
      go_ret
      exact ⟨_, rfl, HO.out, hW⟩
end Go.Proofs.Ytmnnehpoaedifaa
/- Plain mathematics of layer 2: two stacks, as the reference runs them. -/
namespace Go.Proofs.Ytmnnehpoaedifaa

/-- Two stacks (their tops first) and the item that is wanted next. -/
structure S2 where
  r0 : List Int
  r1 : List Int
  wa : Nat
def S2.size (s : S2) : Nat := s.r0.length + s.r1.length
def pop0 (s : S2) : S2 := match s.r0 with
  | t :: r => if t = s.wa then ⟨r, s.r1, s.wa + 1⟩ else s
  | [] => s
def pop1 (s : S2) : S2 := match s.r1 with
  | t :: r => if t = s.wa then ⟨s.r0, r, s.wa + 1⟩ else s
  | [] => s
/-- Pops as long as a round of both stacks pops something. -/
def drainF : Nat → S2 → S2
  | 0, s => s
  | t + 1, s => if (pop1 (pop0 s)).wa = s.wa then pop1 (pop0 s) else drainF t (pop1 (pop0 s))
def drain (s : S2) : S2 := drainF (s.size + 1) s
theorem pop0_sum (s : S2) : (pop0 s).wa + (pop0 s).size = s.wa + s.size ∧ s.wa ≤ (pop0 s).wa := by
  unfold pop0 S2.size
  rcases s with ⟨r0, r1, wa⟩
  cases r0 with
  | nil => exact ⟨rfl, Nat.le_refl _⟩
  | cons t r =>
    simp only
    split
    · simp; omega
    · exact ⟨rfl, Nat.le_refl _⟩
theorem pop1_sum (s : S2) : (pop1 s).wa + (pop1 s).size = s.wa + s.size ∧ s.wa ≤ (pop1 s).wa := by
  unfold pop1 S2.size
  rcases s with ⟨r0, r1, wa⟩
  cases r1 with
  | nil => exact ⟨rfl, Nat.le_refl _⟩
  | cons t r =>
    simp only
    split
    · simp; omega
    · exact ⟨rfl, Nat.le_refl _⟩
theorem pass_sum (s : S2) : (pop1 (pop0 s)).wa + (pop1 (pop0 s)).size = s.wa + s.size ∧ s.wa ≤ (pop1 (pop0 s)).wa := by
  have a := pop0_sum s
  have b := pop1_sum (pop0 s)
  omega
/-- More fuel than there are items changes nothing. -/
theorem drainF_more (t : Nat) : ∀ s : S2, s.size < t → drainF t s = drain s := by
  induction t with
  | zero => intro s h; omega
  | succ t ih =>
    intro s h
    have hp := pass_sum s
    unfold drain
    rw [drainF, drainF]
    split
    · rfl
    · rename_i hne
      have h1 := ih (pop1 (pop0 s)) (by omega)
      rw [h1]
      -- both are drain of the next state
      have : ∀ m n : Nat, ∀ u : S2, u.size < m → u.size < n → drainF m u = drainF n u := by
        intro m
        induction m with
        | zero => intro n u h; omega
        | succ m ihm =>
          intro n u h1 h2
          obtain ⟨k, rfl⟩ : ∃ k, n = k + 1 := ⟨n - 1, by omega⟩
          rw [drainF, drainF]
          split
          · rfl
          · have hq := pass_sum u
            exact ihm k _ (by omega) (by omega)
      unfold drain
      exact this _ _ _ (by omega) (by omega)
theorem drain_stop {s : S2} (h : (pop1 (pop0 s)).wa = s.wa) : drain s = pop1 (pop0 s) := by
  unfold drain; rw [drainF, if_pos h]
theorem drain_go {s : S2} (h : (pop1 (pop0 s)).wa ≠ s.wa) : drain s = drain (pop1 (pop0 s)) := by
  have hp := pass_sum s
  have h1 : drain s = drainF s.size (pop1 (pop0 s)) := by unfold drain; rw [drainF, if_neg h]
  rw [h1]
  exact drainF_more _ _ (by omega)
theorem drain_sum (t : Nat) : ∀ s : S2, (drainF t s).wa + (drainF t s).size = s.wa + s.size := by
  induction t with
  | zero => intro s; rfl
  | succ t ih =>
    intro s
    rw [drainF]
    split
    · exact (pass_sum s).1
    · rw [ih]; exact (pass_sum s).1
/-- An item arrives and is pushed. -/
def pushS (s : S2) (side x : Int) : S2 := if side = 0 then ⟨x :: s.r0, s.r1, s.wa⟩ else ⟨s.r0, x :: s.r1, s.wa⟩
def sidesTo (o d : List Int) : Nat → S2
  | 0 => ⟨[], [], 1⟩
  | k + 1 => drain (pushS (sidesTo o d k) (d[k]?.getD 0) (o[k]?.getD 0))
theorem pushS_sum (s : S2) (d x : Int) : (pushS s d x).wa = s.wa ∧ (pushS s d x).size = s.size + 1 := by
  unfold pushS S2.size
  split
  · simp; omega
  · simp; omega
theorem sidesTo_sum (o d : List Int) (k : Nat) : (sidesTo o d k).wa + (sidesTo o d k).size = k + 1 := by
  induction k with
  | zero => rfl
  | succ k ih =>
    have a := pushS_sum (sidesTo o d k) (d[k]?.getD 0) (o[k]?.getD 0)
    have b := drain_sum ((pushS (sidesTo o d k) (d[k]?.getD 0) (o[k]?.getD 0)).size + 1) (pushS (sidesTo o d k) (d[k]?.getD 0) (o[k]?.getD 0))
    show (drain _).wa + (drain _).size = _
    unfold drain
    omega
end Go.Proofs.Ytmnnehpoaedifaa
