import Derived.Test.YtmnnehpoaedifaaJ13
import Derived.Test.YtmnnehpoaedifaaJ12
import Derived.Test.YtmnnehpoaedifaaJ10
/- Contracts of package shunt: descents, trace. -/
namespace Go.Proofs.Ytmnnehpoaedifaa
open Go.RowKit

theorem Ow.setOther {w : World} {B e : Nat} {v : Value} {zs : List Int} (h : Ow w B e v zs) {a : Addr} (ha : ∀ k, v.ownBlock = some k → a.block ≠ k) (u : Value) : Ow (w.setCell a u) B e v zs :=
  h.tn ((Tn.refl w (fun k => k = a.block)).set (fun _ => rfl) u) (fun b hb e => ha b hb e.symm)

/-- The two slices of descents. -/
structure Two (w w' : World) (g n : Nat) (D P : List Int) : Prop where
  dep : Ow w' w.heap.size 3 (.slice (some ⟨w.heap.size, 0, none⟩) n n) D
  bef : Ow w' w.heap.size 3 (.slice (some ⟨g, 0, none⟩) n n) P
  ne : w.heap.size < g
  dl : D.length = n
  pl : P.length = n
  below : Below w.heap.size w w'
theorem Two.drewN {w w' : World} {g n : Nat} {D P : List Int} (h : Two w w' g n D P) (k : Nat) : Two w (w'.drewN k) g n D P := ⟨h.dep.drewN k, h.bef.drewN k, h.ne, h.dl, h.pl, below_dn h.below k⟩
theorem Two.put1 {w w' : World} {g n : Nat} {D P : List Int} (h : Two w w' g n D P) (i : Nat) (x : Int) : Two w (w'.setCell ⟨w.heap.size, i, none⟩ (.int .i64 x)) g n (D.set i x) P :=
  ⟨h.dep.put h.dl i x, h.bef.setOther (fun k hk e => by simp [Value.ownBlock] at hk; have := h.ne; simp at e; omega) _, h.ne, by rw [List.length_set]; exact h.dl, h.pl, h.below.setCell (p := ⟨w.heap.size, i, none⟩) (Nat.le_refl _) _⟩
theorem Two.put2 {w w' : World} {g n : Nat} {D P : List Int} (h : Two w w' g n D P) (i : Nat) (x : Int) : Two w (w'.setCell ⟨g, i, none⟩ (.int .i64 x)) g n D (P.set i x) :=
  ⟨h.dep.setOther (fun k hk e => by simp [Value.ownBlock] at hk; have := h.ne; simp at e; omega) _, h.bef.put h.pl i x, h.ne, h.dl, by rw [List.length_set]; exact h.pl, h.below.setCell (p := ⟨g, i, none⟩) (Nat.le_of_lt h.ne) _⟩

theorem dEnd_bounds (o D : List Int) (i j : Nat) (h : ∀ t, t < j → 0 ≤ D[t]?.getD 0 ∧ D[t]?.getD 0 ≤ t) : 0 ≤ (dEnd o D i j).1 ∧ (dEnd o D i j).1 ≤ j := by
  induction j with
  | zero => exact ⟨by simp [dEnd], by simp [dEnd]⟩
  | succ j ih =>
    have ih := ih (fun t ht => h t (by omega))
    have := h j (by omega)
    rw [dEnd]
    split
    · refine ⟨?_, ?_⟩
      · show 0 ≤ D[j]?.getD 0 + 1; omega
      · show D[j]?.getD 0 + 1 ≤ _; omega
    · omega
theorem descTo_bounds (o : List Int) (k : Nat) (hk : k ≤ o.length) : ∀ t, t < k → 0 ≤ (descTo o k).1[t]?.getD 0 ∧ (descTo o k).1[t]?.getD 0 ≤ t := fun t ht => by
  have h1 := (desc_inv o k hk).dep t ht
  have h2 := eAt_one o t
  have h3 := eAt_le o t (by omega)
  omega

set_option maxHeartbeats 1600000 in
theorem descents_any (A : Option Addr) (n c : Nat) (zs : List Int) (w : World) (hs : Sl w A n c zs) (hn : n ≤ 1000) :
    Calls Try.prog 61 #[.slice A n c] w fun e w' => ∃ v u, e = .returned (.tuple #[v, u]) ∧ Ow w' w.heap.size 3 v (depthsOf zs) ∧ Ow w' w.heap.size 3 u (beforeOf zs) ∧ Below w.heap.size w w' := by
  have HS := Lib.hid hs; clear hs
  obtain ⟨i0, hi, hz0, hz1, hz2⟩ := info_parts Try.infoInt
  have HI : Hid (Try.prog.info? 3 = some i0 ∧ i0.zero = some (.int .i64 0) ∧ i0.size = 1 ∧ i0.bytes = 8) := ⟨hi, hz0, hz1, hz2⟩
  clear hi hz0 hz1 hz2
  go_enter Try.func61, Try.ntmps61
  have hle : w.heap.size ≤ w.heap.size := Nat.le_refl _
  go_wp2_with (first | (at_make; refine make_law _ rfl (.tmp 8) (.tmp 8) 22 rfl w.heap.size 3 i0 Try.underlying22 HI.out _ _ n rfl rfl rfl rfl (by omega) hle ?_; clear hle; intro w1 hv1 hg1; have HV1 := Lib.hid hv1; clear hv1; have HG1 := Lib.hid hg1; clear hg1) | (at_make; refine make_law _ rfl (.tmp 11) (.tmp 11) 22 rfl w.heap.size 3 i0 Try.underlying22 HI.out _ _ n rfl rfl rfl rfl (by omega) HG1.out.size ?_; intro w2 hv2 hg2; have HV2 := Lib.hid hv2; clear hv2; have HG2 := Lib.hid hg2; clear hg2))
  have hlt1 : w.heap.size < w1.heap.size := (HV1.out.lt rfl).2
  obtain ⟨g, hg⟩ : ∃ g, g = w1.heap.size := ⟨_, rfl⟩
  rw [← hg]
  rw [← hg] at HV2 hlt1
  have HT0 : Hid (Two w w2 g n (List.replicate n 0) (List.replicate n 0)) :=
    ⟨HV1.out.kept (u := .slice none 0 0) HG2.out (.inr (by simp [Value.ownBlock])), HV2.out, hlt1, by simp, by simp,
     ((Below.refl w.heap.size w).grown HG1.out (Nat.le_refl _) (by simp)).grown HG2.out HG1.out.size (by simp)⟩
  clear hg
  go_loopw [4, 5, 6, 15] (fun _ _ _ i w' => ∃ k : Nat, k ≤ n ∧ i = .int .i64 k ∧ Hid (Two w w' g n (descTo zs k).1 (descTo zs k).2)) (fun _ _ _ i _ => n - (intOf i).toNat)
  case atStart => exact ⟨0, by omega, by go_num, by rw [descTo, HS.out.len]; exact HT0⟩
  case round =>
    obtain ⟨i, hi, rfl, HT⟩ := hrel
    by_cases hlt : i < n
    · obtain ⟨b0, off0, rfl, hcx⟩ := HS.out.cells (by omega)
      have hb0 := HS.out.old b0 off0 rfl (by omega)
      have HC := Lib.hid hcx; clear hcx
      have hcxi := (HT.out.below.cell (p := ⟨b0, off0 + i, none⟩) hb0).trans (HC.out i hlt)
      have HBD : Hid (∀ t, t < i → 0 ≤ (descTo zs i).1[t]?.getD 0 ∧ (descTo zs i).1[t]?.getD 0 ≤ t) := descTo_bounds zs i (by rw [HS.out.len]; omega)
      have HZ : Hid ((descTo zs i).1[i]?.getD 0 = 0 ∧ (descTo zs i).2[i]?.getD 0 = 0) := descTo_zero zs i i (Nat.le_refl _) (by rw [HS.out.len]; exact hlt)
      have HNX : Hid ((descTo zs (i + 1)).1 = (descTo zs i).1.set i (dEnd zs (descTo zs i).1 i i).1 ∧ (descTo zs (i + 1)).2 = (descTo zs i).2.set i (dEnd zs (descTo zs i).1 i i).2) := ⟨rfl, rfl⟩
      generalize (descTo zs i).1 = D at *
      generalize (descTo zs i).2 = P at *
      have HD0 : Hid (D.set i 0 = D ∧ P.set i 0 = P) := ⟨set_same HZ.out.1 (by rw [HT.out.dl]; exact hlt), set_same HZ.out.2 (by rw [HT.out.pl]; exact hlt)⟩
      obtain ⟨wo, rfl⟩ : ∃ wo : World, wo = wr := ⟨_, rfl⟩
      go_wp2
      go_loopw [6, 21] (fun _ t w' => ∃ j : Nat, j ≤ i ∧ t = .int .i64 j ∧ Hid (Two w w' g n (D.set i (dEnd zs D i j).1) (P.set i (dEnd zs D i j).2))) (fun _ t _ => i - (intOf t).toNat)
      case atStart => exact ⟨0, by omega, by go_num, by rw [dEnd, HD0.out.1, HD0.out.2]; exact HT⟩
      case round =>
        obtain ⟨j, hj, rfl, HV⟩ := hrel
        by_cases hlj : j < i
        · have hjn : j < n := by omega
          have hyi := (HV.out.below.cell (p := ⟨b0, off0 + i, none⟩) hb0).trans (HC.out i hlt)
          have hyj := (HV.out.below.cell (p := ⟨b0, off0 + j, none⟩) hb0).trans (HC.out j hjn)
          have hei : wr.cell? ⟨w.heap.size, i, none⟩ = some (.int .i64 (dEnd zs D i j).1) := by
            rw [HV.out.dep.cellAt HV.out.dl hlt, List.getElem?_set_self (by have := HT.out.dl; omega)]; rfl
          have hej : wr.cell? ⟨w.heap.size, j, none⟩ = some (.int .i64 (D[j]?.getD 0)) := by
            rw [HV.out.dep.cellAt HV.out.dl hjn, List.getElem?_set_ne (by omega)]
          have hpi : wr.cell? ⟨g, i, none⟩ = some (.int .i64 (dEnd zs D i j).2) := by
            rw [HV.out.bef.cellAt HV.out.pl hlt, List.getElem?_set_self (by have := HT.out.pl; omega)]; rfl
          have hfi := HV.out.dep.free HV.out.dl i
          have hfp := HV.out.bef.free HV.out.pl i
          have hb := dEnd_bounds zs D i j (fun t ht => HBD.out t (by omega))
          have hbj := HBD.out j hlj
          have HTR : Hid (dEnd zs D i (j + 1) = if zs[i]?.getD 0 < zs[j]?.getD 0 ∧ (dEnd zs D i j).1 < D[j]?.getD 0 + 1 then (D[j]?.getD 0 + 1, (j : Int)) else dEnd zs D i j) := rfl
          have HPUT : Hid (∀ W x y, Two w W g n (D.set i (dEnd zs D i j).1) (P.set i (dEnd zs D i j).2) → Two w ((W.setCell ⟨w.heap.size, i, none⟩ (.int .i64 x)).setCell ⟨g, i, none⟩ (.int .i64 y)) g n (D.set i x) (P.set i y)) := fun W x y h => by
            have := (h.put1 i x).put2 i y
            rw [List.set_set, List.set_set] at this
            exact this
          obtain ⟨q, hq⟩ : ∃ q, q = dEnd zs D i j := ⟨_, rfl⟩
          rw [← hq] at HV hei hpi hb HTR HPUT
          have HQ := Lib.hid hq; clear hq
          obtain ⟨en, pn⟩ := q
          have e1 : (en, pn).1 = en := rfl
          have e2 : (en, pn).2 = pn := rfl
          rw [e1, e2] at HPUT HV
          rw [e1] at hei hb HTR
          rw [e2] at hpi
          clear e1 e2
          generalize zs[i]?.getD 0 = a at *
          generalize zs[j]?.getD 0 = b at *
          generalize D[j]?.getD 0 = ej at *
          obtain ⟨hb1, hb2⟩ := hb
          obtain ⟨hbj1, hbj2⟩ := hbj
          have hne : w.heap.size < g := HV.out.ne
          by_cases h1 : a < b
          · have g1 : decide (a < b) = true := by simpa using h1
            by_cases h2 : en < ej + 1
            · have g2 : decide (en < ej + 1) = true := by simpa using h2
              have HB : Hid (dEnd zs D i (j + 1) = (ej + 1, (j : Int))) := by rw [Hid, HTR.out, if_pos ⟨h1, h2⟩]
              clear h1 h2 HTR
              go_wp2
              have hw1 : IntKind.i64.wrap (ej + 1) = ej + 1 := IntWalk.i64_in _ (by omega)
              go_quiet (fail)
              clear hw1
              go_wp2
              go_roundw
              case rel =>
                refine ⟨j + 1, by omega, by go_num, ?_⟩
                rw [Hid, HB.out]
                exact HPUT.out _ _ _ (HV.out.drewN _)
              case measure => simp [intOf]; omega
            · have g2 : decide (en < ej + 1) = false := by simpa using h2
              have HB : Hid (dEnd zs D i (j + 1) = (en, pn)) := by rw [Hid, HTR.out, if_neg (fun h => h2 h.2)]
              clear h1 h2 HTR
              go_wp2
              have hw1 : IntKind.i64.wrap (ej + 1) = ej + 1 := IntWalk.i64_in _ (by omega)
              go_quiet (fail)
              clear hw1
              go_wp2
              go_roundw
              case rel => exact ⟨j + 1, by omega, by go_num, (by rw [Hid, HB.out]; exact HV.out.drewN _)⟩
              case measure => simp [intOf]; omega
          · have g1 : decide (a < b) = false := by simpa using h1
            have HB : Hid (dEnd zs D i (j + 1) = (en, pn)) := by rw [Hid, HTR.out, if_neg (fun h => h1 h.1)]
            clear h1 HTR
            go_wp2
            go_quiet (fail)
            go_wp2
            go_roundw
            case rel => exact ⟨j + 1, by omega, by go_num, (by rw [Hid, HB.out]; exact HV.out.drewN _)⟩
            case measure => simp [intOf]; omega
        · have hji : j = i := by omega
          subst hji
          go_wp2
          go_roundw
          case rel => exact ⟨j + 1, by omega, by go_num, by rw [HNX.out.1, HNX.out.2]; exact HV⟩
          case measure => simp [intOf]; omega
    · obtain rfl : i = n := by omega
      have HB : Hid (descTo zs i = (depthsOf zs, beforeOf zs)) := by rw [Hid, depthsOf, beforeOf, HS.out.len]
      go_wp2
      go_ret2
      rw [HB.out] at HT
      exact ⟨_, _, rfl, HT.out.dep, HT.out.bef, HT.out.below⟩

set_option maxHeartbeats 800000 in
theorem trace_any (A : Option Addr) (n c : Nat) (o : List Int) (e k : Nat) (w : World) (hs : Sl w A n c (beforeOf o)) (hn : n ≤ 1000) (hl : o.length = n) (he : e < n) (hk : k ≤ 1000) :
    Calls Try.prog 62 #[.slice A n c, .int .i64 e, .int .i64 k] w fun r w' => ∃ v, r = .returned v ∧ Ow w' w.heap.size 3 v ((traceOf (beforeOf o) e k).map Int.ofNat) ∧ Below w.heap.size w w' := by
  have HS := Lib.hid hs; clear hs
  have HL := Lib.hid hl; clear hl
  obtain ⟨i0, hi, hz0, hz1, hz2⟩ := info_parts Try.infoInt
  have HI : Hid (Try.prog.info? 3 = some i0 ∧ i0.zero = some (.int .i64 0) ∧ i0.size = 1 ∧ i0.bytes = 8) := ⟨hi, hz0, hz1, hz2⟩
  clear hi hz0 hz1 hz2
  go_enter Try.func62, Try.ntmps62
  go_wp2_with (at_make; go_must (refine make_law _ rfl (.tmp 9) (.tmp 9) 22 rfl w.heap.size 3 i0 Try.underlying22 HI.out _ _ k rfl rfl rfl rfl (by omega) (Nat.le_refl _) ?_); intro w1 hv1 hg1; have HV1 := Lib.hid hv1; clear hv1; have HG1 := Lib.hid hg1; clear hg1)
  have hW1 := (Below.refl w.heap.size w).grown HG1.out (Nat.le_refl _) (by simp)
  go_loopw [1, 8] (fun x i w' => ∃ m : Nat, m ≤ k ∧ i = .int .i64 ((k : Int) - 1 - m) ∧ x = .int .i64 (stepsAt (beforeOf o) e m) ∧ Hid (Ow w' w.heap.size 3 (.slice (some ⟨w.heap.size, 0, none⟩) k k) (traceTo (beforeOf o) e k m)) ∧ Below w.heap.size w w') (fun _ i _ => (intOf i + 1).toNat)
  case atStart => exact ⟨0, by omega, by go_num, rfl, (by rw [traceTo_zero]; exact HV1), hW1⟩
  case round =>
    obtain ⟨m, hm, rfl, rfl, HO, hW⟩ := hrel
    have hsz := hW.size
    by_cases hlt : m < k
    · obtain ⟨b0, off0, rfl, hcx⟩ := HS.out.cells (by omega)
      have hb0 := HS.out.old b0 off0 rfl (by omega)
      have hst := steps_rng o e m (by rw [HL.out]; exact he)
      obtain ⟨b, hbe, hble⟩ := before_rng o (i := stepsAt (beforeOf o) e m) (by rw [HL.out]; omega)
      have HNX : Hid (stepsAt (beforeOf o) e (m + 1) = b) := by rw [Hid, stepsAt, hbe]; simp
      have HTT : Hid ((traceTo (beforeOf o) e k m).set (k - 1 - m) (stepsAt (beforeOf o) e m : Int) = traceTo (beforeOf o) e k (m + 1)) := traceTo_step _ _ _ _ hlt
      have hcs := (hW.cell (p := ⟨b0, off0 + stepsAt (beforeOf o) e m, none⟩) hb0).trans (hcx _ (by omega))
      rw [hbe] at hcs
      have HBE := Lib.hid hbe; clear hbe hcx
      generalize stepsAt (beforeOf o) e m = s at *
      obtain ⟨z, hz⟩ : ∃ z, k = m + 1 + z := ⟨k - (m + 1), by omega⟩
      have hkz : (k : Int) - 1 - m = (z : Int) := by omega
      rw [hkz]
      have hzk : z < k := by omega
      have hkk : k - 1 - m = z := by omega
      rw [hkk] at HTT
      have HKZ := Lib.hid hz
      have HKI := Lib.hid hkz
      clear hkz hkk hz
      have hcz := HO.out.cellAt (by rw [traceTo_len]) hzk
      have hfz := HO.out.free (by rw [traceTo_len]) z
      have HP := Lib.hid (HO.out.put (by rw [traceTo_len]) z (s : Int))
      have hsn : s < n := by omega
      have hne : b0 ≠ w.heap.size := by omega
      go_wp2
      go_roundw
      case rel =>
        refine ⟨m + 1, by omega, ?_, by rw [HNX.out], by rw [Hid, ← HTT.out]; exact HP.out, hW.setCell (p := ⟨w.heap.size, z, none⟩) (Nat.le_refl _) _⟩
        have := HKZ.out
        go_num
      case measure => simp [intOf]
    · obtain rfl : m = k := by omega
      have HTA : Hid (traceTo (beforeOf o) e m m = (traceOf (beforeOf o) e m).map Int.ofNat) := traceTo_all _ _ _
      have hneg : (m : Int) - 1 - m = -1 := by omega
      rw [hneg]
      rw [HTA.out] at HO
      go_wp2
      go_ret
      exact ⟨_, rfl, HO.out, hW⟩
end Go.Proofs.Ytmnnehpoaedifaa
/- Promises of package shunt: Least, Queues. -/
namespace Go.Proofs.Ytmnnehpoaedifaa
open Go.RowKit

theorem leastTo_rng (o : List Int) (k : Nat) (hk : k ≤ o.length) : 1 ≤ (leastTo o k).2 ∧ (leastTo o k).2 ≤ k + 1 := (leastTo_bounds o k hk).2

set_option maxHeartbeats 800000 in
theorem least_ok : LeastOk := by
  intro A n c o w hs
  have H1 := Lib.hid (isOrder_any A n c o w hs)
  have HS := Lib.hid hs
  cases ho : ordB o 60 with
  | false =>
    rw [ho] at H1
    have HO := Lib.hid ho; clear ho hs
    go_enter Try.func27, Try.ntmps27
    go_wp2_with (go_at_call 52; refine H1.out.mono ?_; clear H1; rintro e w1 ⟨rfl, hb1⟩)
    go_ret2
    exact ⟨_, _, rfl, fun _ => ⟨rfl, rfl⟩, fun h => (by cases h), hb1⟩
  | true =>
    rw [ho] at H1
    obtain ⟨hord, h60⟩ := ordB_iff.1 ho
    have hn : n ≤ 60 := by rw [hs.len] at h60; omega
    clear h60 hord
    have HO := Lib.hid ho; clear ho
    have HL := Lib.hid hs.len
    clear hs
    go_enter Try.func27, Try.ntmps27
    go_wp2_with (go_at_call 52; refine H1.out.mono ?_; clear H1; rintro e w1 ⟨rfl, hb1⟩)
    have H2 := Lib.hid (descents_any A n c o w1 (HS.out.below hb1 (Nat.le_refl _)) (by omega))
    go_wp2_with (go_at_call 61; refine H2.out.mono ?_; clear H2; rintro e w2 ⟨v, u, rfl, hv, hu, hb2⟩; obtain ⟨B, d, rfl, hsv⟩ := hv.sl_len (n := n) (by rw [depths_len, HL.out]) (by omega))
    have hb12 := hb1.trans (hb2.mono hb1.size)
    have HV := Lib.hid hsv; clear hsv hv hu
    go_loopw [6, 8, 19] (fun le _ i w' => ∃ k : Nat, k ≤ n ∧ i = .int .i64 k ∧ le = .int .i64 (leastTo o k).2 ∧ w' = w2) (fun _ _ i _ => n - (intOf i).toNat)
    case atStart => exact ⟨0, by omega, by go_num, rfl, rfl⟩
    case round =>
      obtain ⟨k, hk, rfl, rfl, rfl⟩ := hrel
      by_cases hlt : k < n
      · obtain ⟨b0, off0, rfl, hcx⟩ := HV.out.at_ hlt
        have HN : Hid ((leastTo o (k + 1)).2 = max (leastTo o k).2 ((depthsOf o)[k]?.getD 0 + 1)) := least_next o k (by rw [HL.out]; exact hlt)
        have h1 := leastTo_rng o k (by rw [HL.out]; exact hk)
        have h2 := depth_ge o (i := k) (by rw [HL.out]; exact hlt)
        have h3 := depth_le o (i := k) (by rw [HL.out]; exact hlt)
        generalize (depthsOf o)[k]?.getD 0 = x at *
        generalize (leastTo o k).2 = y at *
        have HM : Hid (max y (x + 1) = if y < x + 1 then x + 1 else y) := by rw [Hid]; split <;> omega
        obtain ⟨h1a, h1b⟩ := h1
        go_wp2
        go_roundw
        case rel => exact ⟨k + 1, by omega, by go_num, (by rw [HN.out, HM.out]), (by first | rfl | trivial)⟩
        case measure => simp [intOf]; omega
      · obtain rfl : k = n := by omega
        have HB : Hid ((leastTo o k).2 = leastOf o) := by rw [Hid, leastOf, HL.out]
        go_wp2
        go_ret2
        exact ⟨_, _, rfl, fun h => (by cases h), fun _ => ⟨HB.out, rfl⟩, hb12⟩

theorem isQueueCount_any (k : Int) (w : World) : Calls Try.prog 60 #[.int .i64 k] w fun e w' => e = .returned (.bool (decide (1 ≤ k) && decide (k ≤ 60))) ∧ w = w' := by
  by_cases h1 : 1 ≤ k
  · have g1 : decide (1 ≤ k) = true := by simpa using h1
    by_cases h2 : k ≤ 60
    · have g2 : decide (k ≤ 60) = true := by simpa using h2
      go_enter Try.func60, Try.ntmps60
      go_wp2
      go_ret
      exact ⟨by first | rfl | (rw [g1, g2]; rfl), rfl⟩
    · have g2 : decide (k ≤ 60) = false := by simpa using h2
      go_enter Try.func60, Try.ntmps60
      go_wp2
      go_ret
      exact ⟨by first | rfl | (rw [g1, g2]; rfl), rfl⟩
  · have g1 : decide (1 ≤ k) = false := by simpa using h1
    go_enter Try.func60, Try.ntmps60
    go_wp2
    go_ret
    exact ⟨by first | rfl | (rw [g1]; rfl), rfl⟩

set_option maxHeartbeats 800000 in
theorem queues_ok : QueuesOk := by
  intro A n c o k w hs
  have H1 := Lib.hid (isOrder_any A n c o w hs)
  have HQ := Lib.hid (isQueueCount_any k)
  have HS := Lib.hid hs
  have HL := Lib.hid hs.len
  cases ho : ordB o 60 with
  | false =>
    rw [ho] at H1
    have HO := Lib.hid ho; clear ho hs
    go_enter Try.func26, Try.ntmps26
    go_wp2_with (go_at_call 52; refine H1.out.mono ?_; clear H1; rintro e w1 ⟨rfl, hb1⟩)
    go_ret3
    exact ⟨_, _, _, [], [], rfl, Ow.nil _ _ _, Ow.nil _ _ _, by decide, by decide, fun _ => ⟨rfl, rfl, rfl⟩, fun h => (by cases h), fun h => (by cases h), hb1⟩
  | true =>
    rw [ho] at H1
    obtain ⟨hord, h60⟩ := ordB_iff.1 ho
    have hn : n ≤ 60 := by rw [hs.len] at h60; omega
    clear h60 hord hs
    have HO := Lib.hid ho; clear ho
    cases hk : (decide (1 ≤ k) && decide (k ≤ 60)) with
    | false =>
      have HQ2 : Hid (∀ W, Calls Try.prog 60 #[.int .i64 k] W fun e w' => e = .returned (.bool false) ∧ W = w') := by rw [← hk]; exact HQ.out
      have HK : Hid (¬ (1 ≤ k ∧ k ≤ 60)) := fun h => by simp [h.1, h.2] at hk
      clear hk HQ
      go_enter Try.func26, Try.ntmps26
      go_wp2_with (first | (go_at_call 52; refine H1.out.mono ?_; clear H1; rintro e w1 ⟨rfl, hb1⟩) | (go_at_call 60; refine (HQ2.out _).mono ?_; rintro e w2 ⟨rfl, rfl⟩))
      go_ret3
      exact ⟨_, _, _, [], [], rfl, Ow.nil _ _ _, Ow.nil _ _ _, by decide, by decide, fun _ => ⟨rfl, rfl, rfl⟩, fun _ h1 h2 => absurd ⟨h1, h2⟩ HK.out, fun _ h1 h2 => absurd ⟨h1, h2⟩ HK.out, hb1⟩
    | true =>
      have HQ2 : Hid (∀ W, Calls Try.prog 60 #[.int .i64 k] W fun e w' => e = .returned (.bool true) ∧ W = w') := by rw [← hk]; exact HQ.out
      obtain ⟨hk1, hk2⟩ : 1 ≤ k ∧ k ≤ 60 := by simpa using hk
      clear hk HQ
      obtain ⟨q, rfl⟩ : ∃ q : Nat, k = q := ⟨k.toNat, by omega⟩
      have HK1 := Lib.hid hk1
      clear hk1
      go_enter Try.func26, Try.ntmps26
      go_wp2_with (first | (go_at_call 52; refine H1.out.mono ?_; clear H1; rintro e w1 ⟨rfl, hb1⟩) | (go_at_call 60; refine (HQ2.out _).mono ?_; rintro e w2 ⟨rfl, rfl⟩))
      have H2 := Lib.hid (descents_any A n c o w1 (HS.out.below hb1 (Nat.le_refl _)) (by omega))
      go_wp2_with (go_at_call 61; refine H2.out.mono ?_; clear H2; rintro e w2 ⟨v, u, rfl, hv, hu, hb2⟩; have HV := Lib.hid (hv.base hb1.size); clear hv; obtain ⟨B, d, rfl, hsv⟩ := HV.out.sl_len (n := n) (by rw [depths_len, HL.out]) (by omega); obtain ⟨C, d', rfl, hsu⟩ := hu.sl_len (n := n) (by rw [befores_len, HL.out]) (by omega); clear hu)
      have hb12 := hb1.trans (hb2.mono hb1.size)
      have HD := Lib.hid hsv; clear hsv
      have HB := Lib.hid hsu; clear hsu
      go_loopw [9, 10, 26] (fun _ _ i w' => ∃ j : Nat, j ≤ n ∧ i = .int .i64 j ∧ Hid (∀ t, t < j → (depthsOf o)[t]?.getD 0 ≠ (q : Int)) ∧ w' = w2) (fun _ _ i _ => n - (intOf i).toNat)
      case atStart => exact ⟨0, by omega, by go_num, fun t ht => absurd ht (by omega), rfl⟩
      case round =>
        obtain ⟨j, hj, rfl, HNO, rfl⟩ := hrel
        by_cases hlt : j < n
        · obtain ⟨b0, off0, rfl, hcx⟩ := HD.out.at_ hlt
          by_cases he : (depthsOf o)[j]?.getD 0 = (q : Int)
          · have HE := Lib.hid he
            rw [he] at hcx
            clear he
            have HTB : Hid (qblockB o q ((traceOf (beforeOf o) j (q + 1)).map Int.ofNat) = true ∧ (q : Int) < leastOf o) := ⟨trace_block o j (by rw [HL.out]; exact hlt) q HE.out, least_gt_depth o j (by rw [HL.out]; exact hlt) q HE.out⟩
            have hqq : ((q + 1 : Nat) : Int) = (q : Int) + 1 := by omega
            have H3 := trace_any C n d' o j (q + 1) wr HB.out (by omega) HL.out hlt (by omega)
            rw [hqq] at H3
            have HT := Lib.hid H3
            clear H3 hqq
            go_wp2_with (go_at_call 62; refine HT.out.mono ?_; clear HT; rintro e w3 ⟨v3, rfl, hv3, hb3⟩; have HV3 := Lib.hid hv3; clear hv3)
            go_ret3
            refine ⟨_, _, _, [], (traceOf (beforeOf o) j (q + 1)).map Int.ofNat, rfl, Ow.nil _ _ _, HV3.out.base hb12.size, by decide, by simp [traceOf]; omega, fun h => absurd ⟨by first | rfl | trivial, HK1.out, hk2⟩ h, fun _ _ _ hle => ?_, fun _ _ _ _ => ⟨rfl, HTB.out.1, rfl⟩, hb12.trans (hb3.mono hb12.size)⟩
            have := HTB.out.2
            omega
          · have HNE := Lib.hid he
            have g1 : ((depthsOf o)[j]?.getD 0 == (q : Int)) = false := by simpa using he
            clear he
            generalize hx : (depthsOf o)[j]?.getD 0 = x at hcx g1
            clear hx
            go_wp2
            go_roundw
            case rel =>
              refine ⟨j + 1, by omega, by go_num, fun t ht => ?_, by first | rfl | trivial⟩
              by_cases e : t = j
              · rw [e]; exact HNE.out
              · exact HNO.out t (by omega)
            case measure => simp [intOf]; omega
        · obtain rfl : j = n := by omega
          have HLN : Hid (lanesB o q (depthsOf o) = true ∧ leastOf o ≤ q) := ⟨lanes_of_depths o q HK1.out (by rw [HL.out]; exact HNO.out), least_of_depths o q HK1.out (by rw [HL.out]; exact HNO.out)⟩
          go_wp2
          go_ret3
          refine ⟨_, _, _, depthsOf o, [], rfl, HV.out, Ow.nil _ _ _, by rw [depths_len, HL.out]; exact hn, by decide, fun h => absurd ⟨by first | rfl | trivial, HK1.out, hk2⟩ h, fun _ _ _ _ => ⟨HLN.out.1, rfl, rfl⟩, fun _ _ _ hlt' => ?_, hb12⟩
          have := HLN.out.2
          omega
end Go.Proofs.Ytmnnehpoaedifaa
/- Promise of package shunt: Pass. -/
namespace Go.Proofs.Ytmnnehpoaedifaa
open Go.RowKit

theorem pop_any {w : World} {g B e : Nat} {v : Value} {r : List Int} (h : Pile w g B e v r) (hr : r.length ≤ 1000000) :
    Calls Try.prog 75 #[.pointer (some ⟨g, 0, none⟩)] w fun e' w' => e' = .returned (.tuple #[.int .i64 (r.headD 0), .bool (!r.isEmpty)]) ∧ ∃ v', Pile w' g B e v' r.tail ∧ Tn w w' (fun k => k = g) ∧ v'.ownBlock = v.ownBlock := by
  cases r with
  | nil =>
    refine (pop_nil h).mono ?_
    rintro e' w' ⟨rfl, hd⟩
    exact ⟨rfl, v, h.tn (Tn.of_dr (T := fun _ => False) hd) (fun _ _ h => h), Tn.of_dr hd, rfl⟩
  | cons x r => exact pop_cons (r := r) h (by simp at hr; omega)

/-- What the loops of Pass keep; g: the pile's block. -/
structure Passes (w w' : World) (B g : Nat) (vo vs : Value) (out r : List Int) : Prop where
  out : Ow w' B 3 vo out
  pile : Pile w' g B 3 vs r
  apart : Apart vo vs
  below : Below w.heap.size w w'
  low : w.heap.size ≤ g
theorem Passes.dr {w w1 w2 : World} {B g : Nat} {vp vs : Value} {p r : List Int} (h : Passes w w1 B g vp vs p r) (k : Dr w1 w2) : Passes w w2 B g vp vs p r := by
  obtain ⟨q, rfl⟩ := k
  exact ⟨h.out.drewN q, h.pile.drewN q, h.apart, below_dn h.below q, h.low⟩
theorem Passes.add {w w1 w2 : World} {B g : Nat} {vp vp' vs : Value} {p p' r : List Int} (h : Passes w w1 B g vp vs p r) (hp : Ow w2 B 3 vp' p') (hg : w1.grownBy w2 vp.ownBlock)
    (hat : vp'.ownBlock = vp.ownBlock ∨ ∃ g, vp'.ownBlock = some g ∧ w1.heap.size ≤ g) : Passes w w2 B g vp' vs p' r :=
  ⟨hp, h.pile.tn (Tn.of_grown (T := fun k => vp.ownBlock = some k) hg fun _ e => e) (fun b hb hv => by
      rcases hb with rfl | hb
      · have := (h.out.lt hv).1; have := h.pile.low; omega
      · exact h.apart.not hv hb), h.apart.new (fun b hb => (h.pile.own.lt hb).2) hat, h.below.grown hg h.below.size (fun k e => by have := (h.out.lt e).1; have := h.pile.low; have := h.low; omega), h.low⟩
theorem Passes.turn {w w1 w2 : World} {B g : Nat} {vp vs vs' : Value} {p r r' : List Int} (h : Passes w w1 B g vp vs p r) (hp : Pile w2 g B 3 vs' r') (hg : Tn w1 w2 (PB g vs))
    (hat : vs'.ownBlock = vs.ownBlock ∨ ∃ g, vs'.ownBlock = some g ∧ w1.heap.size ≤ g) : Passes w w2 B g vp vs' p r' :=
  ⟨h.out.tn hg (fun b hb hv => by
      rcases hv with rfl | hv
      · have := (h.out.lt hb).1; have := h.pile.low; omega
      · exact h.apart.not hb hv), hp, (Apart.new h.apart.symm (fun b hb => (h.out.lt hb).2) hat).symm,
   h.below.trans (hg.below (fun k hk => by
      rcases hk with rfl | hk
      · exact h.low
      · have := (h.pile.own.lt hk).1; have := h.pile.low; have := h.low; omega) h.below.size), h.low⟩

set_option maxHeartbeats 1600000 in
theorem pass_ok : PassOk := by
  intro A n c zs w hs
  have H1 := Lib.hid (isOrder_any A n c zs w hs)
  have HS := Lib.hid hs
  cases ho : ordB zs 60 with
  | false =>
    rw [ho] at H1
    have HO := Lib.hid ho; clear ho hs
    go_enter Try.func45, Try.ntmps45
    go_wp2_with (go_at_call 52; refine H1.out.mono ?_; clear H1; rintro e w1 ⟨rfl, hb1⟩)
    go_ret2
    exact ⟨_, _, [], rfl, Ow.nil _ _ _, fun _ => ⟨rfl, rfl⟩, fun h => (by cases h), hb1⟩
  | true =>
    rw [ho] at H1
    obtain ⟨hord, h60⟩ := ordB_iff.1 ho
    have hn : n ≤ 60 := by rw [hs.len] at h60; omega
    clear h60 hord hs
    have HORD := Lib.hid ho; clear ho
    obtain ⟨i0, hi, hz0, hz1, hz2⟩ := info_parts Try.infoInt
    have HI : Hid (Try.prog.info? 3 = some i0 ∧ i0.zero = some (.int .i64 0) ∧ i0.size = 1 ∧ i0.bytes = 8) := ⟨hi, hz0, hz1, hz2⟩
    clear hi hz0 hz1 hz2
    go_enter Try.func45, Try.ntmps45
    go_wp2_with (go_at_call 52; refine H1.out.mono ?_; clear H1; rintro e w1 ⟨rfl, hb1⟩)
    have hsz1 : w.heap.size ≤ w1.heap.size := hb1.size
    obtain ⟨g, hg⟩ : ∃ g, g = w1.heap.size := ⟨_, rfl⟩
    have HE0 : Hid (Passes w (w1.alloc (.cells #[.slice none 0 0] 80)) (g + 1) g (.slice none 0 0) (.slice none 0 0) [] []) := by
      subst hg
      exact ⟨Ow.nil _ _ _, ⟨by simp, by simp, Ow.nil _ _ _, Nat.lt_succ_self _, by simp⟩, .inl rfl, hb1.alloc hsz1 _, hsz1⟩
    rw [← hg]
    clear hg
    go_loopw [4, 7, 8, 9, 17] (fun o _ _ _ i w' => ∃ (k : Nat) (vs : Value), k ≤ n ∧ i = .int .i64 k ∧ Hid (Passes w w' (g + 1) g o vs (passTo zs k).1 (passTo zs k).2)) (fun _ _ _ _ i _ => n - (intOf i).toNat)
    case atStart => exact ⟨0, _, by omega, by go_num, HE0⟩
    case round =>
      obtain ⟨k, vs, hk, rfl, HE⟩ := hrel
      have hlen := passTo_len zs k (by rw [HS.out.len]; exact hk)
      by_cases hlt : k < n
      · have HN : Hid (passTo zs (k + 1) = passStep (passTo zs k) (zs[k]?.getD 0)) := passTo_succ zs k (by rw [HS.out.len]; exact hlt)
        obtain ⟨b0, off0, rfl, hcx⟩ := HS.out.at_ hlt
        have hb0 := HS.out.old b0 off0 rfl (by omega)
        have hcxr := (HE.out.below.cell (p := ⟨b0, off0 + k, none⟩) hb0).trans hcx
        clear hcx
        obtain ⟨x, hx⟩ : ∃ x, x = zs[k]?.getD 0 := ⟨_, rfl⟩
        rw [← hx] at hcxr HN
        have HX := Lib.hid hx; clear hx
        obtain ⟨st, hst⟩ : ∃ st, st = passTo zs k := ⟨_, rfl⟩
        rw [← hst] at HN HE hlen
        have HST := Lib.hid hst; clear hst
        have HLEN := Lib.hid hlen; clear hlen
        have HRL : Hid (st.2.length ≤ 1000000) := by have := HLEN.out; rw [Hid]; omega
        obtain ⟨wo, rfl⟩ : ∃ wo : World, wo = wr := ⟨_, rfl⟩
        have H2 := Lib.hid (top_any HE.out.pile HRL.out)
        go_wp2_with (go_at_call 74; refine H2.out.mono ?_; clear H2; rintro e w3 ⟨rfl, hd3⟩)
        have HE3 := Lib.hid (HE.out.dr hd3)
        go_loopw [4, 8, 9] (fun o tp ok w' => ∃ (out r : List Int) (vs : Value), tp = .int .i64 (r.headD 0) ∧ ok = .bool (!r.isEmpty) ∧ out.length + r.length = k ∧ Hid (popR x out r = popR x st.1 st.2) ∧ Hid (Passes w w' (g + 1) g o vs out r)) (fun o _ _ _ => k - (match o with | .slice _ m _ => m | _ => 0))
        case atStart => exact ⟨st.1, st.2, vs, by first | rfl | (cases st.2 <;> rfl), by first | rfl | (cases st.2 <;> rfl), HLEN.out, rfl, HE3⟩
        case round =>
          obtain ⟨out, r, vs', rfl, rfl, hlr, HF, HQ⟩ := hrel
          obtain ⟨wi, rfl⟩ : ∃ wo : World, wo = wr := ⟨_, rfl⟩
          have hol : out.length ≤ 1099511627776 := by omega
          obtain ⟨Ao, co, ho, _⟩ := HQ.out.out.sl hol
          have HOL := Lib.hid hol; clear hol
          obtain ⟨m, hm⟩ : ∃ m, out.length = m := ⟨_, rfl⟩
          rw [hm] at ho hlr
          have HM := Lib.hid hm; clear hm
          subst ho
          have hgw : g + 1 ≤ wi.heap.size := HQ.out.pile.base
          by_cases hcase : ∃ t r', r = t :: r' ∧ t < x
          · obtain ⟨t, r', rfl, ht⟩ := hcase
            simp only [List.headD_cons, List.isEmpty_cons, Bool.not_false]
            simp only [List.length_cons] at hlr
            have g1 : decide (t < x) = true := by simpa using ht
            have HF2 : Hid (popR x (out ++ [t]) r' = popR x st.1 st.2) := by rw [Hid, ← HF.out, popR, if_pos ht]
            clear HF
            have HT := Lib.hid ht; clear ht
            have HRL' : Hid (r'.length ≤ 1000000) := by rw [Hid]; omega
            have HLR := Lib.hid hlr
            go_wp2_with (at_builtin; go_must (refine push_law _ rfl (.tmp 35) (.tmp 37) 22 rfl (g + 1) 3 i0 Try.underlying22 HI.out _ out t rfl rfl HQ.out.out HOL.out hgw ?_); intro v4 w4 hv4 hg4 hat4; obtain ⟨g4, cap4, hu4, hu5⟩ := hv4.form (by simp); clear hu5; rw [List.length_append, HM.out, List.length_singleton] at hu4; subst hu4; have HE4 := Lib.hid (HQ.out.add hv4 hg4 hat4); clear hv4 hg4 hat4)
            have H4 := Lib.hid (pop_cons HE4.out.pile HRL'.out)
            go_wp2_with (go_at_call 75; refine H4.out.mono ?_; clear H4; rintro e w5 ⟨rfl, vs5, hp5, ht5, hat5⟩; have HE5 := Lib.hid (HE4.out.turn hp5 (ht5.mono fun _ _ h => .inl h) (.inl hat5)); clear hp5 ht5 hat5)
            have H5 := Lib.hid (top_any HE5.out.pile HRL'.out)
            go_wp2_with (go_at_call 74; refine H5.out.mono ?_; clear H5; rintro e w6 ⟨rfl, hd6⟩)
            have HE6 := Lib.hid (HE5.out.dr hd6)
            go_roundw
            case rel => exact ⟨out ++ [t], r', vs5, by cases r' <;> rfl, by cases r' <;> rfl, by have := HLR.out; have := HM.out; simp; omega, HF2, HE6⟩
            case measure => simp; omega
          · have HFF : Hid (popR x st.1 st.2 = (out, r)) := by
              rw [Hid, ← HF.out]
              cases r with
              | nil => rfl
              | cons t r' => rw [popR, if_neg (fun h => hcase ⟨t, r', rfl, h⟩)]
            have HN2 : Hid (passTo zs (k + 1) = (out, x :: r)) := by
              rw [HN.out]; unfold passStep; rw [HFF.out]; exact rfl
            clear HF
            have HRL' : Hid (r.length ≤ 1000000) := by rw [Hid]; omega
            have H6 := Lib.hid (push_any x HQ.out.pile HRL'.out)
            cases r with
            | nil =>
              clear hcase
              simp only [List.headD_nil, List.isEmpty_nil, Bool.not_true]
              go_wp2_with (go_at_call 76; refine H6.out.mono ?_; clear H6; rintro e w5 ⟨rfl, vs5, hp5, ht5, hat5⟩; have HE5 := Lib.hid (HQ.out.turn hp5 ht5 hat5); clear hp5 ht5 hat5)
              go_roundw
              case rel => exact ⟨k + 1, vs5, by omega, by go_num, by rw [HN2.out]; exact HE5⟩
              case measure => simp [intOf]; omega
            | cons t r' =>
              have g1 : decide (t < x) = false := by simp; exact Int.not_lt.1 (fun h => hcase ⟨t, r', rfl, h⟩)
              clear hcase
              simp only [List.headD_cons, List.isEmpty_cons, Bool.not_false]
              go_wp2_with (go_at_call 76; refine H6.out.mono ?_; clear H6; rintro e w5 ⟨rfl, vs5, hp5, ht5, hat5⟩; have HE5 := Lib.hid (HQ.out.turn hp5 ht5 hat5); clear hp5 ht5 hat5)
              go_roundw
              case rel => exact ⟨k + 1, vs5, by omega, by go_num, by rw [HN2.out]; exact HE5⟩
              case measure => simp [intOf]; omega
      · obtain rfl : k = n := by omega
        have HPO : Hid (passOf zs = (passTo zs k).1 ++ (passTo zs k).2) := by rw [Hid, passOf, HS.out.len]
        obtain ⟨st, hst⟩ : ∃ st, st = passTo zs k := ⟨_, rfl⟩
        rw [← hst] at HPO HE hlen
        clear hst
        have HLEN := Lib.hid hlen; clear hlen
        have HRL : Hid (st.2.length ≤ 1000000) := by have := HLEN.out; rw [Hid]; omega
        obtain ⟨wo, rfl⟩ : ∃ wo : World, wo = wr := ⟨_, rfl⟩
        have H2 := Lib.hid (pop_any HE.out.pile HRL.out)
        go_wp2_with (go_at_call 75; refine H2.out.mono ?_; clear H2; rintro e w3 ⟨rfl, vs3, hp3, ht3, hat3⟩; have HE3 := Lib.hid (HE.out.turn hp3 (ht3.mono fun _ _ h => .inl h) (.inl hat3)); clear hp3 ht3 hat3)
        go_loopw [4, 10, 11] (fun o tp ok w' => ∃ (out r : List Int) (vs : Value), tp = .int .i64 (r.headD 0) ∧ ok = .bool (!r.isEmpty) ∧ out.length + r.length = k ∧ Hid (out ++ r = st.1 ++ st.2) ∧ Hid (Passes w w' (g + 1) g o vs out r.tail)) (fun o _ _ _ => k - (match o with | .slice _ m _ => m | _ => 0))
        case atStart => exact ⟨st.1, st.2, vs3, by first | rfl | (cases st.2 <;> rfl), by first | rfl | (cases st.2 <;> rfl), HLEN.out, rfl, HE3⟩
        case round =>
          obtain ⟨out, r, vs', rfl, rfl, hlr, HF, HQ⟩ := hrel
          obtain ⟨wi, rfl⟩ : ∃ wo : World, wo = wr := ⟨_, rfl⟩
          have hol : out.length ≤ 1099511627776 := by omega
          obtain ⟨Ao, co, ho, _⟩ := HQ.out.out.sl hol
          have HOL := Lib.hid hol; clear hol
          obtain ⟨m, hm⟩ : ∃ m, out.length = m := ⟨_, rfl⟩
          rw [hm] at ho hlr
          have HM := Lib.hid hm; clear hm
          subst ho
          have hgw : g + 1 ≤ wi.heap.size := HQ.out.pile.base
          cases r with
          | nil =>
            simp only [List.headD_nil, List.isEmpty_nil, Bool.not_true]
            go_wp2
            go_ret2
            refine ⟨_, _, out, rfl, HQ.out.out.base (Nat.le_succ_of_le HQ.out.low), fun h => (by cases h), fun _ => ⟨?_, rfl⟩, HQ.out.below⟩
            rw [HPO.out, ← HF.out, List.append_nil]
          | cons t r' =>
            simp only [List.headD_cons, List.isEmpty_cons, Bool.not_false]
            simp only [List.length_cons] at hlr
            have HF2 : Hid ((out ++ [t]) ++ r' = st.1 ++ st.2) := by rw [Hid, ← HF.out]; simp
            clear HF
            have HRL' : Hid (r'.length ≤ 1000000) := by rw [Hid]; omega
            have HLR := Lib.hid hlr
            go_wp2_with (at_builtin; go_must (refine push_law _ rfl (.tmp 52) (.tmp 54) 22 rfl (g + 1) 3 i0 Try.underlying22 HI.out _ out t rfl rfl HQ.out.out HOL.out hgw ?_); intro v4 w4 hv4 hg4 hat4; obtain ⟨g4, cap4, hu4, hu5⟩ := hv4.form (by simp); clear hu5; rw [List.length_append, HM.out, List.length_singleton] at hu4; subst hu4; have HE4 := Lib.hid (HQ.out.add hv4 hg4 hat4); clear hv4 hg4 hat4)
            have H4 := Lib.hid (pop_any HE4.out.pile HRL'.out)
            go_wp2_with (go_at_call 75; refine H4.out.mono ?_; clear H4; rintro e w5 ⟨rfl, vs5, hp5, ht5, hat5⟩; have HE5 := Lib.hid (HE4.out.turn hp5 (ht5.mono fun _ _ h => .inl h) (.inl hat5)); clear hp5 ht5 hat5)
            go_roundw
            case rel => exact ⟨out ++ [t], r', vs5, by cases r' <;> rfl, by cases r' <;> rfl, by have := HLR.out; have := HM.out; simp; omega, HF2, HE5⟩
            case measure => simp; omega
end Go.Proofs.Ytmnnehpoaedifaa
