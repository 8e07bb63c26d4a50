import Derived.Test.YtmnnehpoaedifaaJ13
import Derived.Test.YtmnnehpoaedifaaJ12
import Derived.Test.YtmnnehpoaedifaaJ03
import Derived.Test.YtmnnehpoaedifaaJ10
import Derived.Deep.Onto
import Derived.Test.YtmnnehpoaedifaaJ05
import Derived.Test.YtmnnehpoaedifaaJ08
/- Contracts of package shunt: smallestAfter, inConflict. -/
namespace Go.Proofs.Ytmnnehpoaedifaa
open Go.RowKit

theorem lowF_ge {o : List Int} (h : Ord o) (t : Nat) (ht : t ≤ o.length) : 0 ≤ lowF o t := by
  induction t with
  | zero => rw [lowF]; omega
  | succ t ih =>
    rw [lowF]
    have h1 := ih (by omega)
    have h2 := h.lo (o.length - 1 - t) (by omega)
    omega

set_option maxHeartbeats 800000 in
theorem smallestAfter_any (A : Option Addr) (n c : Nat) (o : List Int) (w : World) (hs : Sl w A n c o) (hn : n ≤ 1000) (ho : Ord o) :
    Calls Try.prog 81 #[.slice A n c] w fun e w' => ∃ v, e = .returned v ∧ Ow w' w.heap.size 3 v (lows o) ∧ Below w.heap.size w w' := by
  have HS := Lib.hid hs; clear hs
  have HORD := Lib.hid ho; clear ho
  obtain ⟨i0, hi, hz0, hz1, hz2⟩ := info_parts Try.infoInt
  have HI : Hid (Try.prog.info? 3 = some i0 ∧ i0.zero = some (.int .i64 0) ∧ i0.size = 1 ∧ i0.bytes = 8) := ⟨hi, hz0, hz1, hz2⟩
  clear hi hz0 hz1 hz2
  go_enter Try.func81, Try.ntmps81
  go_wp2_with (at_make; go_must (refine make_law _ rfl (.tmp 7) (.tmp 7) 22 rfl w.heap.size 3 i0 Try.underlying22 HI.out _ _ n rfl rfl rfl rfl (by omega) (Nat.le_refl _) ?_); intro w1 hv1 hg1; have HV1 := Lib.hid hv1; clear hv1; have HG1 := Lib.hid hg1; clear hg1)
  have hW1 := (Below.refl w.heap.size w).grown HG1.out (Nat.le_refl _) (by simp)
  go_loopw [4, 5] (fun le i w' => ∃ m : Nat, m ≤ n ∧ i = .int .i64 ((n : Int) - 1 - m) ∧ le = .int .i64 (lowF o m) ∧ Hid (Ow w' w.heap.size 3 (.slice (some ⟨w.heap.size, 0, none⟩) n n) (lowsTo o m)) ∧ Below w.heap.size w w') (fun _ i _ => (intOf i + 1).toNat)
  case atStart => exact ⟨0, by omega, by go_num, by rw [lowF, HS.out.len], (by rw [lowsTo_zero, HS.out.len]; exact HV1), hW1⟩
  case round =>
    obtain ⟨m, hm, rfl, rfl, HO, hW⟩ := hrel
    by_cases hlt : m < n
    · obtain ⟨b0, off0, rfl, hcx⟩ := HS.out.cells (by omega)
      have hb0 := HS.out.old b0 off0 rfl (by omega)
      have HTT : Hid ((lowsTo o m).set (n - 1 - m) (lowF o m) = lowsTo o (m + 1)) := by
        have h := lowsTo_step o m (by rw [HS.out.len]; exact hlt)
        rw [HS.out.len] at h
        exact h
      have HNX : Hid (lowF o (m + 1) = min (lowF o m) (o[n - 1 - m]?.getD 0)) := by rw [Hid, lowF, HS.out.len]
      have hl1 := lowF_le o m
      have hl0 := lowF_ge HORD.out m (by rw [HS.out.len]; exact hm)
      rw [HS.out.len] at hl1
      obtain ⟨z, hz⟩ : ∃ z, n = m + 1 + z := ⟨n - (m + 1), by omega⟩
      have hkz : (n : Int) - 1 - m = (z : Int) := by omega
      have hkk : n - 1 - m = z := by omega
      have hzn : z < n := by omega
      have hcz := (hW.cell (p := ⟨b0, off0 + z, none⟩) hb0).trans (hcx z hzn)
      have ho1 := HORD.out.lo z (by rw [HS.out.len]; exact hzn)
      have ho2 := HORD.out.hi z (by rw [HS.out.len]; exact hzn)
      rw [HS.out.len] at ho2
      rw [hkz]
      rw [hkk] at HTT HNX
      have HKZ := Lib.hid hz
      clear hkz hkk hz hcx
      generalize lowF o m = le at *
      generalize o[z]?.getD 0 = x at *
      have HM : Hid (min le x = if x < le then x else le) := by rw [Hid]; split <;> omega
      have hct := HO.out.cellAt (by rw [lowsTo_len, HS.out.len]) hzn
      have hft := HO.out.free (by rw [lowsTo_len, HS.out.len]) z
      have HP := Lib.hid (HO.out.put (by rw [lowsTo_len, HS.out.len]) z le)
      have hne : b0 ≠ w.heap.size := by omega
      go_wp2
      go_roundw
      case rel =>
        refine ⟨m + 1, by omega, ?_, by rw [HNX.out, HM.out], by rw [Hid, ← HTT.out]; exact HP.out, hW.setCell (p := ⟨w.heap.size, z, none⟩) (Nat.le_refl _) _⟩
        have := HKZ.out
        go_num
      case measure => simp [intOf]
    · obtain rfl : m = n := by omega
      have HTA : Hid (lowsTo o m = lows o) := by have h := lowsTo_all o; rw [HS.out.len] at h; exact h
      have hneg : (m : Int) - 1 - m = -1 := by omega
      rw [hneg]
      rw [HTA.out] at HO
      go_wp2
      go_ret
      exact ⟨_, rfl, HO.out, hW⟩

set_option maxHeartbeats 800000 in
theorem inConflict_any (A C : Option Addr) (n c d : Nat) (o : List Int) (a b : Nat) (w : World) (hs : Sl w A n c o) (hl : Sl w C n d (lows o)) (hn : n ≤ 1000) (ho : Ord o) (ha : a < n) (hb : b < n) (v : Bool) (hv : v = confB o a b) :
    Calls Try.prog 82 #[.slice A n c, .slice C n d, .int .i64 a, .int .i64 b] w fun e w' => e = .returned (.bool v) ∧ Dr w w' := by
  have hcf := conf_low ho (a := a) (b := b) (by rw [hs.len]; exact ha) (by rw [hs.len]; exact hb)
  rw [hcf] at hv
  obtain ⟨b0, off0, rfl, hcx⟩ := hs.cells (by omega)
  obtain ⟨b1, off1, rfl, hcy⟩ := hl.cells (by omega)
  have c1 := hcx a ha
  have c2 := hcx b hb
  have c3 := hcy b hb
  clear hcx hcy hs hl hcf ho
  generalize o[a]?.getD 0 = x at *
  generalize o[b]?.getD 0 = y at *
  generalize (lows o)[b]?.getD 0 = z at *
  by_cases h1 : x < y
  · have g1 : decide (x < y) = true := by simpa using h1
    by_cases h2 : z < x
    · have g2 : decide (z < x) = true := by simpa using h2
      have HB : Hid (true = v) := by rw [hv, g1, g2]; exact rfl
      clear hv h1 h2
      go_enter Try.func82, Try.ntmps82
      go_wp2
      go_quiet (fail)
      go_wp2
      go_ret
      exact ⟨bend HB.out, (Dr.refl _).more _⟩
    · have g2 : decide (z < x) = false := by simpa using h2
      have HB : Hid (false = v) := by rw [hv, g2, Bool.and_false]; exact rfl
      clear hv h1 h2
      go_enter Try.func82, Try.ntmps82
      go_wp2
      go_quiet (fail)
      go_wp2
      go_ret
      exact ⟨bend HB.out, (Dr.refl _).more _⟩
  · have g1 : decide (x < y) = false := by simpa using h1
    have HB : Hid (false = v) := by rw [hv, g1, Bool.false_and]; exact rfl
    clear hv h1
    go_enter Try.func82, Try.ntmps82
    go_wp2
    go_quiet (fail)
    go_wp2
    go_ret
    exact ⟨bend HB.out, (Dr.refl _).more _⟩
end Go.Proofs.Ytmnnehpoaedifaa
/- Contract of package shunt: conflicts; the promise of Conflicts. -/
namespace Go.Proofs.Ytmnnehpoaedifaa
open Go.RowKit

theorem lows_length (o : List Int) : (lows o).length = o.length := by rw [← lowsTo_all, lowsTo_len]

set_option maxHeartbeats 1600000 in
theorem conflicts2_any (A : Option Addr) (n c : Nat) (zs : List Int) (w : World) (hs : Sl w A n c zs) (hn : n ≤ 1000) (ho : Ord zs) :
    Calls Try.prog 66 #[.slice A n c] w fun e w' => ∃ v, e = .returned v ∧ Ow2 w' w.heap.size 50 v (confAll zs n) ∧ Below w.heap.size w w' := by
  have HSA := Lib.hid (smallestAfter_any A n c zs w hs hn ho)
  have HS := Lib.hid hs; clear hs
  have HORD := Lib.hid ho; clear ho
  obtain ⟨i0, hi, hz0, hz1, hz2⟩ := info_parts Try.infoPair
  have HI : Hid (Try.prog.info? 50 = some i0 ∧ i0.zero = some (.agg #[.int .i64 0, .int .i64 0]) ∧ i0.size = 2 ∧ i0.bytes = 16) := ⟨hi, hz0, hz1, hz2⟩
  clear hi hz0 hz1 hz2
  have HLL : Hid ((lows zs).length = n) := by rw [Hid, lows_length, HS.out.len]
  go_enter Try.func66, Try.ntmps66
  go_wp2_with (go_at_call 81; refine HSA.out.mono ?_; clear HSA; rintro e w1 ⟨v0, rfl, hv, hb⟩; obtain ⟨C, d, rfl, hsl⟩ := Sl.of_own hv (by rw [HLL.out]; omega); rw [HLL.out]; rw [HLL.out] at hsl; have HC := Lib.hid hsl; clear hsl; have HOC := Lib.hid hv; clear hv)
  have HB1 : Hid (w1.heap.size ≤ w1.heap.size) := Nat.le_refl _
  have hszw := hb.size
  go_loopw [4, 5, 6, 11] (fun o _ _ i w' => ∃ a : Nat, a ≤ n ∧ i = .int .i64 a ∧ Hid (Ow2 w' w1.heap.size 50 o (confAll zs a)) ∧ Below w1.heap.size w1 w') (fun _ _ _ i _ => n - (intOf i).toNat)
  case atStart => exact ⟨0, by omega, by go_num, Ow2.nil _ _ _, Below.refl _ _⟩
  case round =>
    obtain ⟨a, ha, rfl, HO, hW⟩ := hrel
    by_cases hlt : a < n
    · obtain ⟨wo, rfl⟩ : ∃ wo : World, wo = wr := ⟨_, rfl⟩
      go_wp2
      go_loopw [4, 6] (fun o t w' => ∃ b : Nat, a + 1 ≤ b ∧ b ≤ n ∧ t = .int .i64 b ∧ Hid (Ow2 w' w1.heap.size 50 o (confAll zs a ++ confTo zs a b)) ∧ Below w1.heap.size w1 w') (fun _ t _ => n - (intOf t).toNat)
      case atStart => exact ⟨a + 1, by omega, by omega, by go_num, (by rw [Hid, confTo_low zs a (a + 1) (by omega), List.append_nil]; exact HO.out), hW⟩
      case round =>
        obtain ⟨b, hb1, hb2, rfl, HV, hV⟩ := hrel
        have hsz := hV.size
        by_cases hlb : b < n
        · obtain ⟨r, hr⟩ : ∃ r, r = confB zs a b := ⟨_, rfl⟩
          have HCC : Hid (Calls Try.prog 82 #[.slice A n c, .slice C n d, .int .i64 a, .int .i64 b] wr fun e w' => e = .returned (.bool r) ∧ Dr wr w') :=
            inConflict_any A C n c d zs a b wr (HS.out.below (hb.trans (hV.mono hszw)) (Nat.le_refl _)) (HC.out.below hV (Nat.le_refl _)) hn HORD.out hlt hlb r hr
          have HT : Hid (confTo zs a (b + 1) = confTo zs a b ++ if r = true then [(a, b)] else []) := by
            rw [Hid, confTo_succ, ← hr]; simp [show a < b by omega]
          clear hr
          have hlen : (confAll zs a ++ confTo zs a b).length ≤ 1099511627776 := by
            have h1 := confAll_len zs a
            have h2 := confTo_len zs a b
            have h3 : a * zs.length ≤ 1000 * 1000 := Nat.mul_le_mul (by omega) (by rw [HS.out.len]; omega)
            rw [List.length_append]; omega
          have HLEN := Lib.hid hlen; clear hlen
          cases r with
          | true =>
            go_wp2_with (first | (go_at_call 82; go_must (refine HCC.out.mono ?_); rintro e w2 ⟨rfl, hd2⟩; have hV2 := hV.trans (hd2.below _); have hs2 := hV2.size; have HV2 := Lib.hid (HV.out.below (hd2.below _) (Nat.le_refl _))) | (at_builtin; go_must (refine push2_law _ rfl (.tmp 27) (.tmp 31) 45 rfl w1.heap.size 50 i0 Try.underlying45 HI.out _ (confAll zs a ++ confTo zs a b) a b rfl rfl HV2.out HLEN.out hs2 ?_); intro v1 w3 hv1 hg1; have HV1 := Lib.hid hv1; clear hv1; have HG1 := Lib.hid hg1; clear hg1))
            go_roundw
            case rel => exact ⟨b + 1, by omega, by omega, by go_num, (by rw [Hid, HT.out, ← List.append_assoc]; exact HV1.out), hV2.grown HG1.out hs2 (fun j e => (HV2.out.lt e).1)⟩
            case measure => simp [intOf]; omega
          | false =>
            go_wp2_with (go_at_call 82; go_must (refine HCC.out.mono ?_); rintro e w2 ⟨rfl, hd2⟩; have hV2 := hV.trans (hd2.below _); have HV2 := Lib.hid (HV.out.below (hd2.below _) (Nat.le_refl _)))
            go_roundw
            case rel => exact ⟨b + 1, by omega, by omega, by go_num, (by rw [Hid, HT.out, if_neg (by simp), List.append_nil]; exact HV2.out), hV2⟩
            case measure => simp [intOf]; omega
        · have hbn : b = n := by omega
          have HN : Hid (confAll zs a ++ confTo zs a b = confAll zs (a + 1)) := by
            rw [Hid, confAll_succ, HS.out.len, ← hbn]
          rw [HN.out] at HV
          clear hbn HN
          go_wp2
          go_roundw
          case rel => exact ⟨a + 1, by omega, by go_num, HV, hV⟩
          case measure => simp [intOf]; omega
    · obtain rfl : a = n := by omega
      have HR : Hid (∀ v wx, Ow2 wx w1.heap.size 50 v (confAll zs a) → Ow2 wx w.heap.size 50 v (confAll zs a)) := fun v wx h => World.ownsRow.mono h (by omega)
      go_wp2
      go_ret
      exact ⟨_, rfl, HR.out _ _ HO.out, hb.trans (hW.mono hszw)⟩

set_option maxHeartbeats 800000 in
theorem conflicts_ok : ConflictsOk := by
  intro A n c o w hs
  have H1 := Lib.hid (isOrder_any A n c o w hs)
  have HS := Lib.hid hs; clear hs
  cases ho : ordB o 60 with
  | false =>
    rw [ho] at H1
    have HO := Lib.hid ho; clear ho
    go_enter Try.func33, Try.ntmps33
    go_wp2_with (go_at_call 52; refine H1.out.mono ?_; clear H1; rintro e w1 ⟨rfl, hb1⟩)
    go_ret2
    exact ⟨_, _, [], rfl, Ow2.nil _ _ _, fun _ => ⟨rfl, rfl⟩, fun h => (by cases h), hb1⟩
  | true =>
    rw [ho] at H1
    obtain ⟨hord, h60⟩ := ordB_iff.1 ho
    have hn : n ≤ 60 := by rw [HS.out.len] at h60; omega
    have HORD := Lib.hid hord; clear hord
    have HO := Lib.hid ho; clear ho
    have HN := Lib.hid hn; clear hn h60
    have HCC : Hid (∀ W, Below w.heap.size w W → Calls Try.prog 66 #[.slice A n c] W fun e w' => ∃ v, e = .returned v ∧ Ow2 w' w.heap.size 50 v (confAll o n) ∧ Below w.heap.size w w') := fun W h =>
      (conflicts2_any A n c o W (HS.out.below h (Nat.le_refl _)) (by have := HN.out; omega) HORD.out).mono fun e w' ⟨v, he, hv, hb⟩ => ⟨v, he, World.ownsRow.mono hv h.size, h.trans (hb.mono h.size)⟩
    go_enter Try.func33, Try.ntmps33
    go_wp2_with (first | (go_at_call 52; refine H1.out.mono ?_; clear H1; rintro e w1 ⟨rfl, hb1⟩) | (go_at_call 66; refine (HCC.out _ hb1).mono ?_; clear HCC; rintro e w2 ⟨v, rfl, hv, hb2⟩))
    go_ret2
    exact ⟨_, _, _, rfl, hv, fun h => (by cases h), fun _ => ⟨rfl, rfl⟩, hb2⟩
end Go.Proofs.Ytmnnehpoaedifaa
/- Mathematics: two stacks that give out one item at a time. -/
namespace Go.Proofs.Ytmnnehpoaedifaa

/-- No item lies on both stacks. -/
def Dis (s : S2) : Prop := ∀ t ∈ s.r0, ∀ u ∈ s.r1, t ≠ u
def PartS (a s : S2) : Prop := (∀ t ∈ a.r0, t ∈ s.r0) ∧ (∀ t ∈ a.r1, t ∈ s.r1)
theorem PartS.refl (s : S2) : PartS s s := ⟨fun _ h => h, fun _ h => h⟩
theorem PartS.trans {a b c : S2} (h : PartS a b) (k : PartS b c) : PartS a c := ⟨fun t ht => k.1 t (h.1 t ht), fun t ht => k.2 t (h.2 t ht)⟩
theorem Dis.part {a s : S2} (h : Dis s) (k : PartS a s) : Dis a := fun t ht u hu => h t (k.1 t ht) u (k.2 u hu)
theorem pop0_part (s : S2) : PartS (pop0 s) s := by
  rcases s with ⟨r0, r1, wa⟩
  unfold pop0
  cases r0 with
  | nil => exact PartS.refl _
  | cons t r =>
    simp only
    split
    · exact ⟨fun x hx => List.mem_cons_of_mem _ hx, fun _ h => h⟩
    · exact PartS.refl _
theorem pop1_part (s : S2) : PartS (pop1 s) s := by
  rcases s with ⟨r0, r1, wa⟩
  unfold pop1
  cases r1 with
  | nil => exact PartS.refl _
  | cons t r =>
    simp only
    split
    · exact ⟨fun _ h => h, fun x hx => List.mem_cons_of_mem _ hx⟩
    · exact PartS.refl _
theorem drain_part (t : Nat) : ∀ s, PartS (drainF t s) s := by
  induction t with
  | zero => exact fun s => PartS.refl s
  | succ t ih =>
    intro s
    have h := (pop1_part (pop0 s)).trans (pop0_part s)
    rw [drainF]
    split
    · exact h
    · exact (ih _).trans h
theorem pop0_yes {s : S2} {r : List Int} (h : s.r0 = (s.wa : Int) :: r) : pop0 s = ⟨r, s.r1, s.wa + 1⟩ := by rw [pop0, h]; simp
theorem pop1_yes {s : S2} {r : List Int} (h : s.r1 = (s.wa : Int) :: r) : pop1 s = ⟨s.r0, r, s.wa + 1⟩ := by rw [pop1, h]; simp
theorem pop0_no {s : S2} (h : ∀ t r, s.r0 = t :: r → t ≠ s.wa) : pop0 s = s := by
  rcases s with ⟨r0, r1, wa⟩
  cases r0 with
  | nil => rfl
  | cons t r => unfold pop0; simp only; rw [if_neg (h t r rfl)]
theorem pop1_no {s : S2} (h : ∀ t r, s.r1 = t :: r → t ≠ s.wa) : pop1 s = s := by
  rcases s with ⟨r0, r1, wa⟩
  cases r1 with
  | nil => rfl
  | cons t r => unfold pop1; simp only; rw [if_neg (h t r rfl)]
theorem drain_pop1 {s : S2} (hd : Dis s) : drain s = drain (pop1 s) := by
  by_cases h : ∃ r, s.r1 = (s.wa : Int) :: r
  · obtain ⟨r, hr⟩ := h
    have h0 : pop0 s = s := pop0_no fun t q hq e => hd t (by rw [hq]; exact List.mem_cons_self ..) _ (by rw [hr]; exact List.mem_cons_self ..) e
    have h1 := pop1_yes hr
    have hg : (pop1 (pop0 s)).wa ≠ s.wa := by rw [h0, h1]; simp
    rw [drain_go hg, h0]
  · rw [pop1_no fun t r hr e => h ⟨r, by rw [hr, e]⟩]
theorem drain_pop0 {s : S2} (hd : Dis s) : drain s = drain (pop0 s) := by
  by_cases h : ∃ r, s.r0 = (s.wa : Int) :: r
  · obtain ⟨r, hr⟩ := h
    have h0 := pop0_yes hr
    have hs := (pop1_sum (pop0 s)).2
    have hg : (pop1 (pop0 s)).wa ≠ s.wa := by rw [h0] at hs ⊢; simp only at hs; omega
    rw [drain_go hg]
    exact (drain_pop1 (hd.part (pop0_part s))).symm
  · rw [pop0_no fun t r hr e => h ⟨r, by rw [hr, e]⟩]
theorem drain_end {s : S2} (h0 : pop0 s = s) (h1 : pop1 s = s) : drain s = s := by
  rw [drain_stop (by rw [h0, h1]), h0, h1]
theorem sides_items {o d : List Int} (hd : Diff o) (k : Nat) (hk : k ≤ o.length) : Dis (sidesTo o d k) ∧ ∀ t, t ∈ (sidesTo o d k).r0 ∨ t ∈ (sidesTo o d k).r1 → ∃ i, i < k ∧ t = o[i]?.getD 0 := by
  induction k with
  | zero => exact ⟨fun t ht => (by cases ht), fun t ht => (by rcases ht with h | h <;> cases h)⟩
  | succ k ih =>
    obtain ⟨h1, h2⟩ := ih (by omega)
    have hn : ∀ t, t ∈ (sidesTo o d k).r0 ∨ t ∈ (sidesTo o d k).r1 → t ≠ o[k]?.getD 0 := fun t ht e => by
      obtain ⟨i, hi, rfl⟩ := h2 t ht
      have := hd i k (by omega) (by omega) e
      omega
    have hp : PartS (sidesTo o d (k + 1)) (pushS (sidesTo o d k) (d[k]?.getD 0) (o[k]?.getD 0)) := drain_part _ _
    have hq : Dis (pushS (sidesTo o d k) (d[k]?.getD 0) (o[k]?.getD 0)) ∧ ∀ t, t ∈ (pushS (sidesTo o d k) (d[k]?.getD 0) (o[k]?.getD 0)).r0 ∨ t ∈ (pushS (sidesTo o d k) (d[k]?.getD 0) (o[k]?.getD 0)).r1 → ∃ i, i < k + 1 ∧ t = o[i]?.getD 0 := by
      unfold pushS
      split
      · refine ⟨fun t ht u hu => ?_, fun t ht => ?_⟩
        · rcases List.mem_cons.1 ht with rfl | ht
          · exact fun e => hn u (.inr hu) e.symm
          · exact h1 t ht u hu
        · rcases ht with ht | ht
          · rcases List.mem_cons.1 ht with rfl | ht
            · exact ⟨k, by omega, rfl⟩
            · obtain ⟨i, hi, e⟩ := h2 t (.inl ht); exact ⟨i, by omega, e⟩
          · obtain ⟨i, hi, e⟩ := h2 t (.inr ht); exact ⟨i, by omega, e⟩
      · refine ⟨fun t ht u hu => ?_, fun t ht => ?_⟩
        · rcases List.mem_cons.1 hu with rfl | hu
          · exact hn t (.inl ht)
          · exact h1 t ht u hu
        · rcases ht with ht | ht
          · obtain ⟨i, hi, e⟩ := h2 t (.inl ht); exact ⟨i, by omega, e⟩
          · rcases List.mem_cons.1 ht with rfl | ht
            · exact ⟨k, by omega, rfl⟩
            · obtain ⟨i, hi, e⟩ := h2 t (.inr ht); exact ⟨i, by omega, e⟩
    exact ⟨hq.1.part hp, fun t ht => hq.2 t (ht.imp (hp.1 t) (hp.2 t))⟩
theorem push_dis {o d : List Int} (hd : Diff o) {k : Nat} (hk : k < o.length) (x : Int) : Dis (pushS (sidesTo o d k) x (o[k]?.getD 0)) := by
  obtain ⟨h1, h2⟩ := sides_items (d := d) hd k (by omega)
  have hn : ∀ t, t ∈ (sidesTo o d k).r0 ∨ t ∈ (sidesTo o d k).r1 → t ≠ o[k]?.getD 0 := fun t ht e => by
    obtain ⟨i, hi, rfl⟩ := h2 t ht
    have := hd i k (by omega) (by omega) e
    omega
  unfold pushS
  split
  · intro t ht u hu
    rcases List.mem_cons.1 ht with rfl | ht
    · exact fun e => hn u (.inr hu) e.symm
    · exact h1 t ht u hu
  · intro t ht u hu
    rcases List.mem_cons.1 hu with rfl | hu
    · exact hn t (.inl ht)
    · exact h1 t ht u hu
end Go.Proofs.Ytmnnehpoaedifaa
/- Contracts of package shunt: a pile in a cell of an array. -/
namespace Go.Proofs.Ytmnnehpoaedifaa
open Go.RowKit

/-- The other cells of block g are as they were. -/
def Sib (w w' : World) (g q : Nat) : Prop := ∀ p, p ≠ q → w'.cell? ⟨g, p, none⟩ = w.cell? ⟨g, p, none⟩ ∧ w'.frozen? ⟨g, p, none⟩ = w.frozen? ⟨g, p, none⟩
theorem Sib.of_dr {w w' : World} {g q : Nat} (h : Dr w w') : Sib w w' g q := fun _ _ => by obtain ⟨n, rfl⟩ := h; exact ⟨rfl, rfl⟩
theorem Sib.of_block {w w' : World} {g q : Nat} (h : w'.heap[g]? = w.heap[g]?) : Sib w w' g q := fun p _ => ⟨World.cell?_of_block (a := ⟨g, p, none⟩) h, World.frozen?_of_block (a := ⟨g, p, none⟩) h⟩
theorem Sib.set {w w' : World} {g q : Nat} (h : Sib w w' g q) (v : Value) : Sib w (w'.setCell ⟨g, q, none⟩ v) g q := fun p hp =>
  ⟨(World.cell?_setCell_other w' ⟨g, q, none⟩ ⟨g, p, none⟩ v (fun e => by injection e with _ e2; exact hp e2.symm)).trans (h p hp).1, (World.frozen?_setCell ..).trans (h p hp).2⟩
/-- Cell q of block g holds a slice of ints that the call owns, in a block from B on: a pile, its top first. -/
structure PileO (w : World) (g q B e : Nat) (v : Value) (r : List Int) : Prop where
  cell : w.cell? ⟨g, q, none⟩ = some v
  free : w.frozen? ⟨g, q, none⟩ = false
  own : Ow w B e v r.reverse
  low : g < B
  base : B ≤ w.heap.size
theorem PileO.drewN {w : World} {g q B e : Nat} {v : Value} {r : List Int} (h : PileO w g q B e v r) (n : Nat) : PileO (w.drewN n) g q B e v r := ⟨h.cell, h.free, h.own, h.low, h.base⟩
theorem PileO.glt {w : World} {g q B e : Nat} {v : Value} {r : List Int} (h : PileO w g q B e v r) : g < w.heap.size := Nat.lt_of_lt_of_le h.low h.base
theorem PileO.tn {w w' : World} {T : Nat → Prop} {g q B e : Nat} {v : Value} {r : List Int} (h : PileO w g q B e v r) (k : Tn w w' T) (hn : ∀ b, PB g v b → ¬ T b) : PileO w' g q B e v r :=
  ⟨k.cell h.cell (hn g (.inl rfl)), (k.frozen (p := ⟨g, q, none⟩) h.glt (hn g (.inl rfl))).trans h.free, h.own.tn k (fun b hb => hn b (.inr hb)), h.low, Nat.le_trans h.base k.size⟩
theorem PileO.val {w : World} {g q B e : Nat} {v : Value} {r : List Int} (h : PileO w g q B e v r) (hr : r.length ≤ 1099511627776) : ∃ A c, v = .slice A r.length c := by
  obtain ⟨A, c, hv, _⟩ := h.own.sl (by rw [List.length_reverse]; exact hr)
  rw [List.length_reverse] at hv
  exact ⟨A, c, hv⟩
theorem PileO.form {w : World} {g q B e : Nat} {v : Value} {x : Int} {r : List Int} (h : PileO w g q B e v (x :: r)) :
    ∃ b cap, v = .slice (some ⟨b, 0, none⟩) (r.length + 1) cap ∧ r.length + 1 ≤ cap ∧ B ≤ b ∧ b < w.heap.size ∧ w.cell? ⟨b, r.length, none⟩ = some (.int .i64 x) := by
  obtain ⟨b, cap, hv, hc, hb, hl, hcell⟩ := h.own.form (by simp)
  have hlen : (x :: r).reverse.length = r.length + 1 := by simp
  rw [hlen] at hv hc hcell
  have hx := hcell r.length (by omega)
  rw [last_rev] at hx
  exact ⟨b, cap, hv, hc, hb, hl, hx⟩

theorem topO_nil {w : World} {g q B e : Nat} {v : Value} (h : PileO w g q B e v []) :
    Calls Try.prog 74 #[.pointer (some ⟨g, q, none⟩)] w fun e w' => e = .returned (.tuple #[.int .i64 0, .bool false]) ∧ Dr w w' := by
  obtain ⟨A, c, rfl⟩ := h.val (by simp)
  have hc := h.cell
  have H := Lib.hid h; clear h
  go_enter Try.func74, Try.ntmps74
  go_wp2
  go_ret2
  exact ⟨rfl, Dr.refl _⟩
theorem topO_cons {w : World} {g q B e : Nat} {v : Value} {x : Int} {r : List Int} (h : PileO w g q B e v (x :: r)) (hr : r.length ≤ 1000000) :
    Calls Try.prog 74 #[.pointer (some ⟨g, q, none⟩)] w fun e w' => e = .returned (.tuple #[.int .i64 x, .bool true]) ∧ Dr w w' := by
  obtain ⟨b, cap, rfl, hcap, hb, hl, hx⟩ := h.form
  have hc := h.cell
  have H := Lib.hid h; clear h
  generalize r.length = m at *
  have g1 : ((m : Int) + 1 == 0) = false := by simp; omega
  go_enter Try.func74, Try.ntmps74
  go_wp2
  have ht0 : (0 : Int) ≤ (m : Int) := by omega
  have ht1 : (m : Int) < (m : Int) + 1 := by omega
  have hw1 : IntKind.i64.wrap (m : Int) = m := IntWalk.i64_in _ (by omega)
  go_quiet (fail)
  go_wp2
  go_ret2
  exact ⟨rfl, (Dr.refl _).more _⟩
theorem pushO_any {w : World} {g q B : Nat} {v : Value} {r : List Int} (x : Int) (h : PileO w g q B 3 v r) (hr : r.length ≤ 1000000) :
    Calls Try.prog 76 #[.pointer (some ⟨g, q, none⟩), .int .i64 x] w fun e w' => e = .returned (.tuple #[]) ∧ ∃ v', PileO w' g q B 3 v' (x :: r) ∧ Tn w w' (PB g v) ∧ Sib w w' g q ∧
      (v'.ownBlock = v.ownBlock ∨ ∃ b, v'.ownBlock = some b ∧ w.heap.size ≤ b) := by
  obtain ⟨A, c, hv⟩ := h.val (by omega)
  obtain ⟨i0, hi, hz0, hz1, hz2⟩ := info_parts Try.infoInt
  have HI : Hid (Try.prog.info? 3 = some i0 ∧ i0.zero = some (.int .i64 0) ∧ i0.size = 1 ∧ i0.bytes = 8) := ⟨hi, hz0, hz1, hz2⟩
  clear hi hz0 hz1 hz2
  have hc := h.cell
  have hgl := h.glt
  have hfz := h.free
  have hlow := h.low
  have hbase := h.base
  have hne : some g ≠ v.ownBlock := fun e => by have := (h.own.lt e.symm).1; omega
  have HO := Lib.hid h.own
  have HRL : Hid (r.reverse.length ≤ 1099511627776) := by rw [Hid, List.length_reverse]; omega
  clear h hr
  have HV := Lib.hid hv
  rw [hv] at hc
  clear hv
  generalize r.length = m at *
  go_enter Try.func76, Try.ntmps76
  go_wp2_with (at_builtin; go_must (refine push_law _ rfl (.tmp 7) (.tmp 9) 80 rfl B 3 i0 Try.underlying80 HI.out (.slice A m c) r.reverse x rfl rfl (by rw [← HV.out]; exact HO.out) HRL.out hbase ?_); intro u w1 hv1 hg1 hat1; obtain ⟨g1, cap1, hu, hu1⟩ := hv1.form (by simp); clear hu1; rw [List.length_append, List.length_reverse, List.length_singleton] at hu; subst hu; have hc1 := grown_cell hg1 hc (by rw [← HV.out]; exact hne); have hf1 := (grown_frozen (p := ⟨g, q, none⟩) hg1 hgl (by rw [← HV.out]; exact hne)).trans hfz; have HV1 := Lib.hid hv1; clear hv1; have HG1 := Lib.hid hg1; clear hg1; have HAT := Lib.hid hat1; clear hat1)
  go_end0
  have hP : PileO (w1.setCell ⟨g, q, none⟩ (.slice (some ⟨g1, 0, none⟩) (r.length + 1) cap1)) g q B 3 (.slice (some ⟨g1, 0, none⟩) (r.length + 1) cap1) (x :: r) :=
    ⟨World.cell?_setCell_same' _ _ _ (by rw [hc1]; rfl), by rw [World.frozen?_setCell]; exact hf1, by rw [List.reverse_cons]; exact HV1.out.setBelow hlow _, hlow, by simpa [World.setCell] using Nat.le_trans hbase HG1.out.size⟩
  refine ⟨rfl, _, hP, ?_, (Sib.of_block (HG1.out.block g hgl (by rw [← HV.out]; exact hne))).set _, ?_⟩
  · refine (Tn.of_grown HG1.out fun k e => .inr ?_).set (fun _ => .inl rfl) _
    rw [HV.out]; exact e
  · rw [HV.out]; exact HAT.out
theorem popO_nil {w : World} {g q B e : Nat} {v : Value} (h : PileO w g q B e v []) :
    Calls Try.prog 75 #[.pointer (some ⟨g, q, none⟩)] w fun e w' => e = .returned (.tuple #[.int .i64 0, .bool false]) ∧ Dr w w' := by
  have H := Lib.hid h; clear h
  go_enter Try.func75, Try.ntmps75
  go_wp2_with (go_at_call 74; go_must (refine (topO_nil H.out).mono ?_); rintro e w1 ⟨rfl, hd⟩)
  go_ret2
  exact ⟨rfl, hd⟩
theorem popO_cons {w : World} {g q B e : Nat} {v : Value} {x : Int} {r : List Int} (h : PileO w g q B e v (x :: r)) (hr : r.length ≤ 1000000) :
    Calls Try.prog 75 #[.pointer (some ⟨g, q, none⟩)] w fun e' w' => e' = .returned (.tuple #[.int .i64 x, .bool true]) ∧ ∃ v', PileO w' g q B e v' r ∧ Tn w w' (fun k => k = g) ∧ Sib w w' g q ∧ v'.ownBlock = v.ownBlock := by
  obtain ⟨b, cap, rfl, hcap, hb, hl, hx⟩ := h.form
  have H := Lib.hid h; clear h
  have HRR : Hid (r.length ≤ 1000000) := hr
  obtain ⟨m, hm⟩ : ∃ m, m = r.length := ⟨_, rfl⟩
  rw [← hm] at H hcap hx hr
  rw [← hm]
  have HM := Lib.hid hm; clear hm
  go_enter Try.func75, Try.ntmps75
  go_wp2_with (go_at_call 74; go_must (refine (topO_cons H.out HRR.out).mono ?_); rintro e w1 ⟨rfl, hd⟩; have hc := (hd.cell _).trans H.out.cell; have hf := (World.frozen?_of_block (a := ⟨g, q, none⟩) (by obtain ⟨q, rfl⟩ := hd; rfl) : w1.frozen? ⟨g, q, none⟩ = w.frozen? ⟨g, q, none⟩).trans H.out.free)
  have hw1 : IntKind.i64.wrap (m : Int) = m := IntWalk.i64_in _ (by omega)
  have hs0 : (0 : Int) ≤ (m : Int) := by omega
  have hs1 : (m : Int) ≤ (cap : Int) := by omega
  go_region
  go_wp2
  go_ret2
  have ho := H.out.own
  rw [List.reverse_cons] at ho
  have hp := (ho.tn (Tn.of_dr (T := fun _ => False) hd) (fun _ _ h => h)).pop (by rw [List.length_reverse, HM.out])
  rw [List.length_reverse, ← HM.out] at hp
  have hP : PileO (w1.setCell ⟨g, q, none⟩ (.slice (some ⟨b, 0, none⟩) m cap)) g q B e (.slice (some ⟨b, 0, none⟩) m cap) r :=
    ⟨World.cell?_setCell_same' _ _ _ (by rw [hc]; rfl), by rw [World.frozen?_setCell]; exact hf, hp.setBelow H.out.low _, H.out.low, by obtain ⟨q, rfl⟩ := hd; simpa [World.setCell] using H.out.base⟩
  have hT := (Tn.of_dr (T := fun k => k = g) hd).set (p := ⟨g, q, none⟩) (fun _ => rfl) (.slice (some ⟨b, 0, none⟩) m cap)
  exact ⟨rfl, _, ⟨hP.cell, hP.free, hP.own, hP.low, hP.base⟩, ⟨hT.os, hT.tape, hT.output, hT.size, hT.block⟩, fun p hp => ((Sib.of_dr hd).set _) p hp, rfl⟩

/-- The other pile is as it was. -/
theorem PileO.other {w w' : World} {T : Nat → Prop} {g q p B e : Nat} {u : Value} {r : List Int} (h : PileO w g p B e u r) (hp : p ≠ q) (hT : Tn w w' T) (hS : Sib w w' g q) (ha : ∀ b, u.ownBlock = some b → ¬ T b) : PileO w' g p B e u r :=
  ⟨(hS p hp).1.trans h.cell, (hS p hp).2.trans h.free, h.own.tn hT ha, h.low, Nat.le_trans h.base hT.size⟩
/-- Cells 0 and 1 of block g: two piles; the item that is waited for lies in block x. -/
structure Sd2 (w : World) (g x B : Nat) (s : S2) (v0 v1 : Value) : Prop where
  p0 : PileO w g 0 B 3 v0 s.r0
  p1 : PileO w g 1 B 3 v1 s.r1
  ap : Apart v0 v1
  nx : w.cell? ⟨x, 0, none⟩ = some (.int .i64 s.wa)
  nf : w.frozen? ⟨x, 0, none⟩ = false
  gx : g < x
  xb : x < B
theorem PileO.base_le {w : World} {g q B e : Nat} {v : Value} {r : List Int} (h : PileO w g q B e v r) {b : Nat} (hb : v.ownBlock = some b) : B ≤ b := (h.own.lt hb).1
theorem Apart.ne {v u : Value} (h : Apart v u) {b : Nat} (hv : v.ownBlock = some b) : ¬ u.ownBlock = some b := h.not hv
end Go.Proofs.Ytmnnehpoaedifaa
/- Contracts of package shunt: the closure of sidesSort. -/
namespace Go.Proofs.Ytmnnehpoaedifaa
open Go.RowKit

theorem leave_nil {w : World} {g q x B e : Nat} {v : Value} {a : Int} (hq : q < 2) (h : PileO w g q B e v []) (hx : w.cell? ⟨x, 0, none⟩ = some (.int .i64 a)) :
    Calls Try.prog 83 #[.int .i64 q, .pointer (some ⟨g, 0, none⟩), .pointer (some ⟨x, 0, none⟩)] w fun e w' => e = .returned (.bool false) ∧ Dr w w' := by
  have HT := Lib.hid (topO_nil h)
  have H := Lib.hid h; clear h
  have hq2 : (q : Int) < 2 := by omega
  go_enter Try.func83, Try.ntmps83
  go_wp2_with (go_at_call 74; go_must (refine HT.out.mono ?_); rintro e w1 ⟨rfl, hd⟩; have hc1 := (hd.cell _).trans hx)
  go_ret
  exact ⟨rfl, hd⟩
theorem leave_no {w : World} {g q x B e : Nat} {v : Value} {a t : Int} {r : List Int} (hq : q < 2) (h : PileO w g q B e v (t :: r)) (hr : r.length ≤ 1000000) (hx : w.cell? ⟨x, 0, none⟩ = some (.int .i64 a)) (hne : t ≠ a) :
    Calls Try.prog 83 #[.int .i64 q, .pointer (some ⟨g, 0, none⟩), .pointer (some ⟨x, 0, none⟩)] w fun e w' => e = .returned (.bool false) ∧ Dr w w' := by
  have HT := Lib.hid (topO_cons h hr)
  have H := Lib.hid h; clear h
  have hq2 : (q : Int) < 2 := by omega
  have g1 : (t != a) = true := by simpa using hne
  clear hne
  go_enter Try.func83, Try.ntmps83
  go_wp2_with (go_at_call 74; go_must (refine HT.out.mono ?_); rintro e w1 ⟨rfl, hd⟩; have hc1 := (hd.cell _).trans hx)
  go_ret
  exact ⟨rfl, hd⟩
theorem leave_yes {w : World} {g q x B e : Nat} {v : Value} {a : Nat} {r : List Int} (hq : q < 2) (h : PileO w g q B e v ((a : Int) :: r)) (hr : r.length ≤ 1000000) (hx : w.cell? ⟨x, 0, none⟩ = some (.int .i64 a)) (hf : w.frozen? ⟨x, 0, none⟩ = false) (ha : a ≤ 1000000) (hgx : g < x) (hxb : x < B) :
    Calls Try.prog 83 #[.int .i64 q, .pointer (some ⟨g, 0, none⟩), .pointer (some ⟨x, 0, none⟩)] w fun e' w' => e' = .returned (.bool true) ∧ ∃ v', PileO w' g q B e v' r ∧ Tn w w' (fun k => k = g ∨ k = x) ∧ Sib w w' g q ∧ v'.ownBlock = v.ownBlock ∧
      w'.cell? ⟨x, 0, none⟩ = some (.int .i64 (a + 1 : Nat)) ∧ w'.frozen? ⟨x, 0, none⟩ = false := by
  have HT := Lib.hid (topO_cons h hr)
  have hxl : x < w.heap.size := Nat.lt_of_lt_of_le hxb h.base
  have HP : Hid (∀ W, Dr w W → Calls Try.prog 75 #[.pointer (some ⟨g, q, none⟩)] W fun e' w' => e' = .returned (.tuple #[.int .i64 (a : Int), .bool true]) ∧ ∃ v', PileO w' g q B e v' r ∧ Tn w w' (fun k => k = g) ∧ Sib w w' g q ∧ v'.ownBlock = v.ownBlock) := fun W hd =>
    (popO_cons (w := W) (by obtain ⟨n, rfl⟩ := hd; exact h.drewN n) hr).mono fun e' w' ⟨he, v', h1, h2, h3, h4⟩ => ⟨he, v', h1, (Tn.of_dr (T := fun k => k = g) hd).trans h2 (fun _ _ h => h) (fun _ _ h => h), fun p hp => ⟨(h3 p hp).1.trans ((Sib.of_dr (q := q) hd) p hp).1, (h3 p hp).2.trans ((Sib.of_dr (q := q) hd) p hp).2⟩, h4⟩
  have H := Lib.hid h; clear h
  have hq2 : (q : Int) < 2 := by omega
  have hnx : ¬ x = g := by omega
  go_enter Try.func83, Try.ntmps83
  go_wp2_with (first | (go_at_call 74; go_must (refine HT.out.mono ?_); rintro e w1 ⟨rfl, hd⟩; have hc1 := (hd.cell _).trans hx) | (go_at_call 75; go_must (refine (HP.out _ hd).mono ?_); rintro e w2 ⟨rfl, v', hp, ht, hs, ho⟩; have hc2 := ht.cell hx hnx; have hf2 := (ht.frozen (p := ⟨x, 0, none⟩) hxl hnx).trans hf; have HPP := Lib.hid hp; clear hp; have HO := Lib.hid ho; clear ho))
  go_ret
  refine ⟨rfl, v', ?_, ?_, ?_, HO.out, ?_, ?_⟩
  · refine ⟨(World.cell?_setCell_other _ _ _ _ (fun e => by injection e with e1 _; omega)).trans HPP.out.cell, (World.frozen?_setCell ..).trans HPP.out.free, HPP.out.own.setBelow hxb _, HPP.out.low, by simpa [World.setCell] using HPP.out.base⟩
  · exact (ht.mono (U := fun k => k = g ∨ k = x) (fun _ _ h => .inl h)).set (p := ⟨x, 0, none⟩) (fun _ => .inr rfl) _
  · exact fun p hp => ⟨(World.cell?_setCell_other _ _ _ _ (fun e => by injection e with e1 _; omega)).trans (hs p hp).1, (World.frozen?_setCell ..).trans (hs p hp).2⟩
  · rw [World.cell?_setCell_same' _ _ _ (by rw [hc2]; rfl)]; rfl
  · rw [World.frozen?_setCell]; exact hf2
/-- The stack of a side. -/
def S2.side (s : S2) (q : Nat) : List Int := if q = 0 then s.r0 else s.r1
def popQ (q : Nat) (s : S2) : S2 := if q = 0 then pop0 s else pop1 s
theorem Sd2.dr {w w' : World} {g x B : Nat} {s : S2} {v0 v1 : Value} (h : Sd2 w g x B s v0 v1) (k : Dr w w') : Sd2 w' g x B s v0 v1 := by
  obtain ⟨n, rfl⟩ := k
  exact ⟨h.p0.drewN n, h.p1.drewN n, h.ap, h.nx, h.nf, h.gx, h.xb⟩
theorem side_len (s : S2) (q : Nat) : (s.side q).length ≤ s.size := by
  unfold S2.side S2.size
  split <;> omega
theorem leave_stay {w : World} {g x B : Nat} {s : S2} {v0 v1 : Value} (q : Nat) (hq : q < 2) (h : Sd2 w g x B s v0 v1) (hz : s.size ≤ 1000000) (hn : ∀ t r, s.side q = t :: r → t ≠ s.wa) :
    Calls Try.prog 83 #[.int .i64 q, .pointer (some ⟨g, 0, none⟩), .pointer (some ⟨x, 0, none⟩)] w fun e w' => e = .returned (.bool false) ∧ Dr w w' := by
  have hl := side_len s q
  obtain ⟨v, hp⟩ : ∃ v, PileO w g q B 3 v (s.side q) := by
    rcases (by omega : q = 0 ∨ q = 1) with rfl | rfl
    · exact ⟨v0, h.p0⟩
    · exact ⟨v1, h.p1⟩
  generalize s.side q = l at *
  cases l with
  | nil => exact leave_nil hq hp h.nx
  | cons t r => exact leave_no hq hp (by simp at hl; omega) h.nx (hn t r rfl)
theorem leave_go {w : World} {g x B : Nat} {s : S2} {v0 v1 : Value} (q : Nat) (hq : q < 2) (h : Sd2 w g x B s v0 v1) (hz : s.size ≤ 1000000) (hw : s.wa ≤ 1000000) {r : List Int} (hr : s.side q = (s.wa : Int) :: r) :
    Calls Try.prog 83 #[.int .i64 q, .pointer (some ⟨g, 0, none⟩), .pointer (some ⟨x, 0, none⟩)] w fun e w' => e = .returned (.bool true) ∧ ∃ u0 u1, Sd2 w' g x B (popQ q s) u0 u1 ∧ (popQ q s).wa = s.wa + 1 ∧ Below g w w' := by
  have hl := side_len s q
  rw [hr] at hl
  have hgx := h.gx
  have hxb := h.xb
  rcases (by omega : q = 0 ∨ q = 1) with rfl | rfl
  · have hr0 : s.r0 = (s.wa : Int) :: r := hr
    have he : popQ 0 s = ⟨r, s.r1, s.wa + 1⟩ := pop0_yes hr0
    refine (leave_yes (by omega) (by rw [← hr0]; exact h.p0) (by simp at hl; omega) h.nx h.nf hw h.gx h.xb).mono ?_
    rintro e w' ⟨rfl, v', h1, h2, h3, h4, h5, h6⟩
    rw [he]
    refine ⟨rfl, v', v1, ⟨h1, h.p1.other (by omega) h2 h3 ?_, ?_, h5, h6, h.gx, h.xb⟩, rfl, h2.below (by omega) (Nat.le_of_lt h.p0.glt)⟩
    · intro b hb hc
      have := h.p1.base_le hb
      omega
    · have := h.ap
      unfold Apart at *
      rw [h4]; exact this
  · have hr0 : s.r1 = (s.wa : Int) :: r := hr
    have he : popQ 1 s = ⟨s.r0, r, s.wa + 1⟩ := pop1_yes hr0
    refine (leave_yes (by omega) (by rw [← hr0]; exact h.p1) (by simp at hl; omega) h.nx h.nf hw h.gx h.xb).mono ?_
    rintro e w' ⟨rfl, v', h1, h2, h3, h4, h5, h6⟩
    rw [he]
    refine ⟨rfl, v0, v', ⟨h.p0.other (by omega) h2 h3 ?_, h1, ?_, h5, h6, h.gx, h.xb⟩, rfl, h2.below (by omega) (Nat.le_of_lt h.p0.glt)⟩
    · intro b hb hc
      have := h.p0.base_le hb
      omega
    · have := h.ap
      unfold Apart at *
      rw [h4]; exact this
theorem push_side {w : World} {g x B : Nat} {s : S2} {v0 v1 : Value} (q : Nat) (hq : q < 2) (y : Int) (h : Sd2 w g x B s v0 v1) (hz : s.size ≤ 1000000) :
    Calls Try.prog 76 #[.pointer (some ⟨g, q, none⟩), .int .i64 y] w fun e w' => e = .returned (.tuple #[]) ∧ ∃ u0 u1, Sd2 w' g x B (pushS s q y) u0 u1 ∧ Below g w w' := by
  have hl0 : s.r0.length ≤ 1000000 := by unfold S2.size at hz; omega
  have hl1 : s.r1.length ≤ 1000000 := by unfold S2.size at hz; omega
  have hgx := h.gx
  have hxb := h.xb
  have hxl : x < w.heap.size := Nat.lt_of_lt_of_le hxb h.p0.base
  rcases (by omega : q = 0 ∨ q = 1) with rfl | rfl
  · have he : pushS s ((0 : Nat) : Int) y = ⟨y :: s.r0, s.r1, s.wa⟩ := rfl
    refine (pushO_any y h.p0 hl0).mono ?_
    rintro e w' ⟨rfl, v', h1, h2, h3, h4⟩
    have hnx : ¬ PB g v0 x := by
      rintro (e | e)
      · omega
      · have := h.p0.base_le e; omega
    rw [he]
    refine ⟨rfl, v', v1, ⟨h1, h.p1.other (by omega) h2 h3 ?_, h.ap.new (w := w) (fun b hb => (h.p1.own.lt hb).2) h4, h2.cell h.nx hnx, (h2.frozen (p := ⟨x, 0, none⟩) hxl hnx).trans h.nf, h.gx, h.xb⟩, h2.below ?_ (Nat.le_of_lt h.p0.glt)⟩
    · rintro b hb (hc | hc)
      · have := h.p1.base_le hb; omega
      · exact h.ap.not hc hb
    · rintro k (hk | hk)
      · omega
      · have := h.p0.base_le hk; omega
  · have he : pushS s ((1 : Nat) : Int) y = ⟨s.r0, y :: s.r1, s.wa⟩ := rfl
    refine (pushO_any y h.p1 hl1).mono ?_
    rintro e w' ⟨rfl, v', h1, h2, h3, h4⟩
    have hnx : ¬ PB g v1 x := by
      rintro (e | e)
      · omega
      · have := h.p1.base_le e; omega
    rw [he]
    refine ⟨rfl, v0, v', ⟨h.p0.other (by omega) h2 h3 ?_, h1, (h.ap.symm.new (w := w) (fun b hb => (h.p0.own.lt hb).2) h4).symm, h2.cell h.nx hnx, (h2.frozen (p := ⟨x, 0, none⟩) hxl hnx).trans h.nf, h.gx, h.xb⟩, h2.below ?_ (Nat.le_of_lt h.p0.glt)⟩
    · rintro b hb (hc | hc)
      · have := h.p0.base_le hb; omega
      · exact h.ap.symm.not hc hb
    · rintro k (hk | hk)
      · omega
      · have := h.p1.base_le hk; omega
end Go.Proofs.Ytmnnehpoaedifaa
