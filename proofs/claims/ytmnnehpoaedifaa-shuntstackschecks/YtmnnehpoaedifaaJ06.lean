import Derived.Test.YtmnnehpoaedifaaJ04
import Derived.Test.YtmnnehpoaedifaaJ05
/- Contract: SidesSort. -/
namespace Go.Proofs.Ytmnnehpoaedifaa
open Go.RowKit

/-- Block g holds two slices that the call owns, in blocks behind it: the two stacks (their tops first). -/
structure St2 (W : World) (g e : Nat) (v0 v1 : Value) (s : S2) : Prop where
  c0 : W.cell? ⟨g, 0, none⟩ = some v0
  c1 : W.cell? ⟨g, 1, none⟩ = some v1
  f0 : W.frozen? ⟨g, 0, none⟩ = false
  f1 : W.frozen? ⟨g, 1, none⟩ = false
  o0 : Ow W (g + 1) e v0 s.r0.reverse
  o1 : Ow W (g + 1) e v1 s.r1.reverse
  ap : Apart v0 v1
theorem Ow.setBelow {w : World} {B e : Nat} {v : Value} {zs : List Int} (h : Ow w B e v zs) {a : Addr} (ha : a.block < B) (u : Value) : Ow (w.setCell a u) B e v zs := ownsRow_setCell_below h ha u
theorem grown_cell {w w' : World} {r : Option Nat} (h : w.grownBy w' r) {p : Addr} {x : Value} (hx : w.cell? p = some x) (hne : some p.block ≠ r) : w'.cell? p = some x := World.grownBy.cell h hx hne
theorem grown_frozen {w w' : World} {r : Option Nat} (h : w.grownBy w' r) {p : Addr} (hp : p.block < w.heap.size) (hne : some p.block ≠ r) : w'.frozen? p = w.frozen? p := World.frozen?_of_block (h.block p.block hp hne)
theorem St2.push0 {W W' : World} {g e : Nat} {v0 v1 v' : Value} {s : S2} {x : Int} (h : St2 W g e v0 v1 s) (hgl : g < W.heap.size) (hv : Ow W' (g + 1) e v' (s.r0.reverse ++ [x])) (hg : W.grownBy W' v0.ownBlock)
    (hat : v'.ownBlock = v0.ownBlock ∨ ∃ b, v'.ownBlock = some b ∧ W.heap.size ≤ b) : St2 (W'.setCell ⟨g, 0, none⟩ v') g e v' v1 ⟨x :: s.r0, s.r1, s.wa⟩ := by
  have hne : some g ≠ v0.ownBlock := fun e => by have := (h.o0.lt e.symm).1; omega
  have hc : W'.cell? ⟨g, 0, none⟩ = some v0 := grown_cell hg h.c0 hne
  have hd : W'.cell? ⟨g, 1, none⟩ = some v1 := grown_cell hg h.c1 hne
  have hf0 : W'.frozen? ⟨g, 0, none⟩ = false := (grown_frozen hg hgl hne).trans h.f0
  have hf1 : W'.frozen? ⟨g, 1, none⟩ = false := (grown_frozen hg hgl hne).trans h.f1
  have kc : (W'.setCell ⟨g, 0, none⟩ v').cell? ⟨g, 0, none⟩ = some v' := World.cell?_setCell_same' _ _ _ (by rw [hc]; rfl)
  have kd : (W'.setCell ⟨g, 0, none⟩ v').cell? ⟨g, 1, none⟩ = some v1 := (World.cell?_setCell_other W' ⟨g, 0, none⟩ ⟨g, 1, none⟩ v' (fun e => by injection e with _ e2; omega)).trans hd
  have ko : Ow (W'.setCell ⟨g, 0, none⟩ v') (g + 1) e v' (x :: s.r0).reverse := by
    rw [List.reverse_cons]; exact hv.setBelow (Nat.lt_succ_self g) _
  have kp : Ow (W'.setCell ⟨g, 0, none⟩ v') (g + 1) e v1 s.r1.reverse := (h.o1.kept hg (Apart.symm h.ap)).setBelow (Nat.lt_succ_self g) _
  exact ⟨kc, kd, by rw [World.frozen?_setCell]; exact hf0, by rw [World.frozen?_setCell]; exact hf1, ko, kp, Apart.pushed (w := W) h.ap h.o1 hat⟩
theorem St2.pop0 {W : World} {g e b m cap : Nat} {v0 v1 : Value} {s : S2} {t : Int} {r : List Int} (h : St2 W g e v0 v1 s) (hr : s.r0 = t :: r) (hv : v0 = .slice (some ⟨b, 0, none⟩) (m + 1) cap) (hm : r.length = m) :
    St2 (W.setCell ⟨g, 0, none⟩ (.slice (some ⟨b, 0, none⟩) m cap)) g e (.slice (some ⟨b, 0, none⟩) m cap) v1 ⟨r, s.r1, s.wa + 1⟩ := by
  subst hm
  have ho := h.o0
  rw [hr, hv, List.reverse_cons] at ho
  have hp := ho.pop (by rw [List.length_reverse])
  rw [List.length_reverse] at hp
  have kc : (W.setCell ⟨g, 0, none⟩ (.slice (some ⟨b, 0, none⟩) r.length cap)).cell? ⟨g, 0, none⟩ = some (.slice (some ⟨b, 0, none⟩) r.length cap) := World.cell?_setCell_same' _ _ _ (by rw [h.c0]; rfl)
  have kd : (W.setCell ⟨g, 0, none⟩ (.slice (some ⟨b, 0, none⟩) r.length cap)).cell? ⟨g, 1, none⟩ = some v1 := (World.cell?_setCell_other W ⟨g, 0, none⟩ ⟨g, 1, none⟩ _ (fun e => by injection e with _ e2; omega)).trans h.c1
  have ko : Ow (W.setCell ⟨g, 0, none⟩ (.slice (some ⟨b, 0, none⟩) r.length cap)) (g + 1) e (.slice (some ⟨b, 0, none⟩) r.length cap) r.reverse := hp.setBelow (Nat.lt_succ_self g) _
  have kp : Ow (W.setCell ⟨g, 0, none⟩ (.slice (some ⟨b, 0, none⟩) r.length cap)) (g + 1) e v1 s.r1.reverse := h.o1.setBelow (Nat.lt_succ_self g) _
  have hap := h.ap
  rw [hv] at hap
  exact ⟨kc, kd, by rw [World.frozen?_setCell]; exact h.f0, by rw [World.frozen?_setCell]; exact h.f1, ko, kp, hap⟩
theorem St2.push1 {W W' : World} {g e : Nat} {v0 v1 v' : Value} {s : S2} {x : Int} (h : St2 W g e v0 v1 s) (hgl : g < W.heap.size) (hv : Ow W' (g + 1) e v' (s.r1.reverse ++ [x])) (hg : W.grownBy W' v1.ownBlock)
    (hat : v'.ownBlock = v1.ownBlock ∨ ∃ b, v'.ownBlock = some b ∧ W.heap.size ≤ b) : St2 (W'.setCell ⟨g, 1, none⟩ v') g e v0 v' ⟨s.r0, x :: s.r1, s.wa⟩ := by
  have hne : some g ≠ v1.ownBlock := fun e => by have := (h.o1.lt e.symm).1; omega
  have hc : W'.cell? ⟨g, 1, none⟩ = some v1 := grown_cell hg h.c1 hne
  have hd : W'.cell? ⟨g, 0, none⟩ = some v0 := grown_cell hg h.c0 hne
  have hf0 : W'.frozen? ⟨g, 0, none⟩ = false := (grown_frozen hg hgl hne).trans h.f0
  have hf1 : W'.frozen? ⟨g, 1, none⟩ = false := (grown_frozen hg hgl hne).trans h.f1
  have kc : (W'.setCell ⟨g, 1, none⟩ v').cell? ⟨g, 1, none⟩ = some v' := World.cell?_setCell_same' _ _ _ (by rw [hc]; rfl)
  have kd : (W'.setCell ⟨g, 1, none⟩ v').cell? ⟨g, 0, none⟩ = some v0 := (World.cell?_setCell_other W' ⟨g, 1, none⟩ ⟨g, 0, none⟩ v' (fun e => by injection e with _ e2; omega)).trans hd
  have ko : Ow (W'.setCell ⟨g, 1, none⟩ v') (g + 1) e v' (x :: s.r1).reverse := by
    rw [List.reverse_cons]; exact hv.setBelow (Nat.lt_succ_self g) _
  have kp : Ow (W'.setCell ⟨g, 1, none⟩ v') (g + 1) e v0 s.r0.reverse := (h.o0.kept hg h.ap).setBelow (Nat.lt_succ_self g) _
  exact ⟨kd, kc, by rw [World.frozen?_setCell]; exact hf0, by rw [World.frozen?_setCell]; exact hf1, kp, ko, Apart.symm (Apart.pushed (w := W) (Apart.symm h.ap) h.o0 hat)⟩
theorem St2.pop1 {W : World} {g e b m cap : Nat} {v0 v1 : Value} {s : S2} {t : Int} {r : List Int} (h : St2 W g e v0 v1 s) (hr : s.r1 = t :: r) (hv : v1 = .slice (some ⟨b, 0, none⟩) (m + 1) cap) (hm : r.length = m) :
    St2 (W.setCell ⟨g, 1, none⟩ (.slice (some ⟨b, 0, none⟩) m cap)) g e v0 (.slice (some ⟨b, 0, none⟩) m cap) ⟨s.r0, r, s.wa + 1⟩ := by
  subst hm
  have ho := h.o1
  rw [hr, hv, List.reverse_cons] at ho
  have hp := ho.pop (by rw [List.length_reverse])
  rw [List.length_reverse] at hp
  have kc : (W.setCell ⟨g, 1, none⟩ (.slice (some ⟨b, 0, none⟩) r.length cap)).cell? ⟨g, 1, none⟩ = some (.slice (some ⟨b, 0, none⟩) r.length cap) := World.cell?_setCell_same' _ _ _ (by rw [h.c1]; rfl)
  have kd : (W.setCell ⟨g, 1, none⟩ (.slice (some ⟨b, 0, none⟩) r.length cap)).cell? ⟨g, 0, none⟩ = some v0 := (World.cell?_setCell_other W ⟨g, 1, none⟩ ⟨g, 0, none⟩ _ (fun e => by injection e with _ e2; omega)).trans h.c0
  have ko : Ow (W.setCell ⟨g, 1, none⟩ (.slice (some ⟨b, 0, none⟩) r.length cap)) (g + 1) e (.slice (some ⟨b, 0, none⟩) r.length cap) r.reverse := hp.setBelow (Nat.lt_succ_self g) _
  have kp : Ow (W.setCell ⟨g, 1, none⟩ (.slice (some ⟨b, 0, none⟩) r.length cap)) (g + 1) e v0 s.r0.reverse := h.o0.setBelow (Nat.lt_succ_self g) _
  have hap := h.ap
  rw [hv] at hap
  exact ⟨kd, kc, by rw [World.frozen?_setCell]; exact h.f0, by rw [World.frozen?_setCell]; exact h.f1, kp, ko, hap⟩

def sideIn (d : List Int) (i : Nat) : Bool := decide (0 ≤ d[i]?.getD 0) && decide (d[i]?.getD 0 ≤ 1)
def sidesB (o d : List Int) : Bool := decide (d.length = o.length) && allB (sideIn d) o.length && decide ((sidesTo o d o.length).wa = o.length + 1)
/-- The state after k of the two stacks have been looked at. -/
def KEQ (k : Nat) (s0 s : S2) : Prop := (k = 0 → s = s0) ∧ (k = 1 → s = pop0 s0) ∧ (k = 2 → s = pop1 (pop0 s0))
def BoxIf (b : Bool) (p q : Prop) : Prop := (b = true → p) ∧ (b = false → q)

set_option maxHeartbeats 1600000 in
theorem sidesSort_any (A B : Option Addr) (n c m k0 : Nat) (o d : List Int) (w : World) (hs : Sl w A n c o) (hl : Sl w B m k0 d) (hn : n ≤ 1000000) :
    Calls Try.prog 37 #[.slice A n c, .slice B m k0] w fun e w' => e = .returned (.bool (sidesB o d)) ∧ Below w.heap.size w w' := by
  have hbig' := hl.big
  have HS := Lib.hid hs; clear hs
  have HL := Lib.hid hl; clear hl
  obtain ⟨i0, hi, hz0, hz1, hz2⟩ := info_parts Try.infoInt
  have HI : Hid (Try.prog.info? 3 = some i0 ∧ i0.zero = some (.int .i64 0) ∧ i0.size = 1 ∧ i0.bytes = 8) := ⟨hi, hz0, hz1, hz2⟩
  clear hi hz0 hz1 hz2
  by_cases hnm : m = n
  · obtain rfl : n = m := hnm.symm
    clear hnm
    have gm : ((n : Int) != n) = false := by simp
    have HB0 : Hid (sidesB o d = (allB (sideIn d) n && decide ((sidesTo o d n).wa = n + 1))) := by unfold sidesB; rw [Hid, HS.out.len, HL.out.len]; simp
    go_enter Try.func37, Try.ntmps37
    go_wp2
    have HST0 : Hid (St2 (w.alloc (.cells #[.slice none 0 0, .slice none 0 0] 74)) w.heap.size 3 (.slice none 0 0) (.slice none 0 0) ⟨[], [], 1⟩) :=
      ⟨by simp, by simp, by simp, by simp, Ow.nil _ _ _, Ow.nil _ _ _, .inl rfl⟩
    go_loopw [6, 7, 8, 9, 10, 11, 12] (fun wt i _ _ _ _ _ w' => ∃ (j : Nat) (v0 v1 : Value), j ≤ n ∧ i = .int .i64 j ∧ wt = .int .i64 (sidesTo o d j).wa ∧ Hid (∀ t, t < j → sideIn d t = true) ∧ Hid (St2 w' w.heap.size 3 v0 v1 (sidesTo o d j)) ∧ Below w.heap.size w w') (fun _ i _ _ _ _ _ _ => n - (intOf i).toNat)
    case atStart => exact ⟨0, _, _, by omega, by go_num, rfl, fun j hj => absurd hj (by omega), HST0, (Below.refl _ _).alloc (Nat.le_refl _) _⟩
    case round =>
      obtain ⟨j, v0, v1, hj, rfl, rfl, hok, HST, hW⟩ := hrel
      have hsum := sidesTo_sum o d j
      by_cases hlt : j < n
      · obtain ⟨wo, rfl⟩ : ∃ wo : World, wo = wr := ⟨_, rfl⟩
        obtain ⟨b2, off2, rfl, hc2⟩ := HL.out.at_ hlt
        have hb2 := HL.out.old b2 off2 rfl (by omega)
        obtain ⟨b1, off1, rfl, hc1⟩ := HS.out.at_ hlt
        have hb1 := HS.out.old b1 off1 rfl (by omega)
        have hxc := (hW.cell (p := ⟨b2, off2 + j, none⟩) hb2).trans hc2
        have hyc := (hW.cell (p := ⟨b1, off1 + j, none⟩) hb1).trans hc1
        clear hc1 hc2
        obtain ⟨x, hx⟩ : ∃ x, x = d[j]?.getD 0 := ⟨_, rfl⟩
        rw [← hx] at hxc
        have HX := Lib.hid hx; clear hx
        obtain ⟨y, hy⟩ : ∃ y, y = o[j]?.getD 0 := ⟨_, rfl⟩
        rw [← hy] at hyc
        have HY := Lib.hid hy; clear hy
        obtain ⟨S, hS⟩ : ∃ S, S = sidesTo o d j := ⟨_, rfl⟩
        rw [← hS] at hsum HST
        rw [← hS]
        have HSS := Lib.hid hS; clear hS
        have HSUM := Lib.hid hsum; clear hsum
        by_cases h1 : x < 0
        · have HB : Hid (false = sidesB o d) := by rw [Hid, HB0.out, ← allB_bad (p := sideIn d) hlt (by unfold sideIn; rw [← HX.out]; simp; omega)]; rfl
          go_wp2
          go_ret
          exact ⟨bend HB.out, hW⟩
        · by_cases h2 : 1 < x
          · have HB : Hid (false = sidesB o d) := by rw [Hid, HB0.out, ← allB_bad (p := sideIn d) hlt (by unfold sideIn; rw [← HX.out]; simp; omega)]; rfl
            go_wp2
            go_ret
            exact ⟨bend HB.out, hW⟩
          · by_cases hx0 : x = 0
            · have HSI : Hid (sideIn d j = true) := by unfold sideIn; rw [Hid, ← HX.out]; simp; omega
              have HNX : Hid (sidesTo o d (j + 1) = drain (pushS S 0 y)) := by
                have e : sidesTo o d (j + 1) = drain (pushS (sidesTo o d j) (d[j]?.getD 0) (o[j]?.getD 0)) := rfl
                rw [Hid, e, ← HX.out, ← HY.out, ← HSS.out, show x = 0 from by omega]
              obtain rfl : x = 0 := by omega
              clear h1 h2
              have hcv := HST.out.c0
              obtain ⟨L, hL⟩ : ∃ L, S.r0.length = L := ⟨_, rfl⟩
              have hLb : L ≤ n + 1 := by
                have h := HSUM.out
                unfold S2.size at h
                omega
              obtain ⟨A', c', hve, _⟩ := HST.out.o0.sl (by rw [List.length_reverse]; omega)
              rw [List.length_reverse, hL] at hve
              subst hve
              have hsr : S.r0.reverse.length ≤ 1099511627776 := by rw [List.length_reverse, hL]; omega
              have HSR := Lib.hid hsr; clear hsr
              have HLL := Lib.hid hL; clear hL
              have hgl : w.heap.size < wo.heap.size := by
                have h := HST.out.c0
                rcases Nat.lt_or_ge w.heap.size wo.heap.size with h' | h'
                · exact h'
                · exfalso
                  have : wo.heap[w.heap.size]? = none := Array.getElem?_eq_none h'
                  simp [World.cell?, this] at h
              have hfz := HST.out.f0
              have hob : w.heap.size + 1 ≤ wo.heap.size := hgl
              go_wp2_with (at_builtin; go_must (refine push_law _ rfl (.tmp 38) (.tmp 43) 22 rfl (w.heap.size + 1) 3 i0 Try.underlying22 HI.out _ S.r0.reverse y rfl rfl HST.out.o0 HSR.out hob ?_); intro u w1 hv1 hg1 hat1; obtain ⟨g1, cap1, hu, hu1⟩ := hv1.form (by simp); clear hu1; have hu2 : (S.r0.reverse ++ [y]).length = L + 1 := (by rw [List.length_append, List.length_reverse, HLL.out]; rfl); rw [hu2] at hu; clear hu2; subst hu; have hne : some w.heap.size ≠ (Value.slice A' L c').ownBlock := (fun e => by have := (HST.out.o0.lt e.symm).1; omega); have hcg := grown_cell hg1 HST.out.c0 hne; have hfg := (grown_frozen hg1 hgl hne).trans hfz; have HP := Lib.hid (HST.out.push0 hgl hv1 hg1 hat1); have HB1 := Lib.hid ((hW.grown hg1 hW.size (fun k e => by have := (HST.out.o0.lt e).1; omega)).setCell (p := ⟨w.heap.size, 0, none⟩) (Nat.le_refl _) (.slice (some ⟨g1, 0, none⟩) (L + 1) cap1)); clear hv1 hg1 hat1 hne)
              obtain ⟨F, hF⟩ : ∃ F, F = sidesTo o d (j + 1) := ⟨_, rfl⟩
              rw [← hF] at HNX
              have HF0 := Lib.hid hF; clear hF
              have HPS : Hid ((⟨y :: S.r0, S.r1, S.wa⟩ : S2).wa + (⟨y :: S.r0, S.r1, S.wa⟩ : S2).size = j + 2) := by
                have h1 := HSUM.out
                have h2 := pushS_sum S 0 y
                rw [show pushS S 0 y = ⟨y :: S.r0, S.r1, S.wa⟩ from by simp [pushS]] at h2
                rw [Hid]; omega
              clear hcv hfz hcg hfg hgl hob
              go_loopw [6, 10, 11, 12] (fun wt ag _ _ w' => ∃ (s : S2) (v0 v1 : Value) (q : Bool), ag = .bool q ∧ wt = .int .i64 s.wa ∧ Hid (BoxIf q (drain s = F) (s = F)) ∧ s.wa + s.size = j + 2 ∧ Hid (St2 w' w.heap.size 3 v0 v1 s) ∧ Below w.heap.size w w') (fun wt ag _ _ _ => 2 * (n + 3 - (intOf wt).toNat) + (match ag with | .bool true => 1 | _ => 0))
              case atStart => exact ⟨⟨y :: S.r0, S.r1, S.wa⟩, _, _, true, rfl, rfl, ⟨fun _ => (by rw [HNX.out, show pushS S 0 y = ⟨y :: S.r0, S.r1, S.wa⟩ from by simp [pushS]]), fun h => by cases h⟩, HPS.out, HP, HB1.out⟩
              case round =>
                obtain ⟨s0, v0, v1, q, rfl, rfl, HF, hsum, HST, hBE⟩ := hrel
                cases q with
                | false =>
                  have HE : Hid (s0 = sidesTo o d (j + 1)) := by rw [Hid, ← HF0.out]; exact HF.out.2 rfl
                  go_wp2
                  go_roundw
                  case rel => exact ⟨j + 1, v0, v1, by omega, by go_num, (by rw [← HE.out]), ok_step hok.out HSI.out, (by rw [← HE.out]; exact HST), hBE⟩
                  case measure => simp [intOf]; omega
                | true =>
                  obtain ⟨wp, rfl⟩ : ∃ wp : World, wp = wr := ⟨_, rfl⟩
                  go_wp2
                  go_loopw [6, 10, 11, 12] (fun wt ag kk _ w' => ∃ (k : Nat) (s : S2) (v0 v1 : Value) (q : Bool), k ≤ 2 ∧ kk = .int .i64 k ∧ wt = .int .i64 s.wa ∧ ag = .bool q ∧ Hid (KEQ k s0 s) ∧ Hid (q = decide (s.wa ≠ s0.wa)) ∧ s0.wa ≤ s.wa ∧ s.wa + s.size = j + 2 ∧ Hid (St2 w' w.heap.size 3 v0 v1 s) ∧ Below w.heap.size w w') (fun _ _ kk _ _ => 2 - (intOf kk).toNat)
                  case atStart => exact ⟨0, s0, v0, v1, false, by omega, by go_num, rfl, rfl, ⟨fun _ => rfl, fun h => absurd h (by omega), fun h => absurd h (by omega)⟩, (by rw [Hid]; simp), Nat.le_refl _, hsum, HST, hBE⟩
                  case round =>
                    have HF' := Lib.hid (HF.out.1 rfl)
                    clear HST hBE hsum HF
                    obtain ⟨k, s, v0, v1, q, hk, rfl, rfl, rfl, HEQ, HQ, hle, hsum, HST, hBE⟩ := hrel
                    by_cases hk0 : k = 0
                    · subst hk0
                      have heq := HEQ.out.1 rfl
                      have hcv := HST.out.c0
                      have hov := HST.out.o0
                      obtain ⟨r, hr⟩ : ∃ r, r = s.r0 := ⟨_, rfl⟩
                      rw [← hr] at hov
                      cases r with
                      | nil =>
                        obtain ⟨A3, c3, rfl, _⟩ := hov.sl (by simp)
                        have hl0 : ([] : List Int).reverse.length = 0 := rfl
                        rw [hl0] at hcv HST
                        have HN : Hid (pop0 s = s) := by rw [Hid, pop0, ← hr]
                        have HEQ' : Hid (KEQ (0 + 1) s0 s) := ⟨fun h => absurd h (by omega), fun _ => (by rw [← heq]; exact HN.out.symm), fun h => absurd h (by omega)⟩
                        clear hl0 hr hov heq
                        go_wp2
                        go_roundw
                        case rel => exact ⟨0 + 1, s, _, _, q, by omega, by go_num, rfl, rfl, HEQ', HQ, hle, hsum, HST, hBE⟩
                        case measure => simp [intOf]
                      | cons t r =>
                        obtain ⟨g2, cap2, rfl, hcap, hgB, hgl', hcell⟩ := hov.form (by simp)
                        obtain ⟨mm, hm⟩ : ∃ mm, r.length = mm := ⟨_, rfl⟩
                        have hct := hcell mm (by simp; omega)
                        rw [← hm, last_rev, hm] at hct
                        have hlm : (t :: r).reverse.length = mm + 1 := by simp; omega
                        rw [hlm] at hcv HST hcap
                        have hmb : mm + 1 ≤ n + 2 := by
                          have h : s.r0.length = mm + 1 := by rw [← hr]; simp; omega
                          unfold S2.size at hsum; omega
                        have hfz := HST.out.f0
                        have HM := Lib.hid hm; clear hm
                        by_cases ht : t = s.wa
                        · have g4 : (t == (s.wa : Int)) = true := by simpa using ht
                          have HN : Hid (pop0 s = (⟨r, s.r1, s.wa + 1⟩ : S2)) := by rw [Hid, pop0, ← hr]; simp only; rw [if_pos ht]
                          have HEQ' : Hid (KEQ (0 + 1) s0 (⟨r, s.r1, s.wa + 1⟩ : S2)) := ⟨fun h => absurd h (by omega), fun _ => (by rw [← heq]; exact HN.out.symm), fun h => absurd h (by omega)⟩
                          have HSP := Lib.hid (HST.out.pop0 hr.symm rfl HM.out)
                          have hsum' : s.wa + 1 + ((⟨r, s.r1, s.wa + 1⟩ : S2)).size = j + 2 := by have h := (pop0_sum s).1; rw [HN.out] at h; simp only at h; omega
                          have HSUM' := Lib.hid hsum'; clear hsum'
                          clear ht hr hov heq hcell hlm
                          go_wp2
                          go_roundw
                          case rel => exact ⟨0 + 1, (⟨r, s.r1, s.wa + 1⟩ : S2), _, _, true, by omega, by go_num, by go_num, rfl, HEQ', (by rw [Hid, eq_comm, decide_eq_true_eq]; show s.wa + 1 ≠ s0.wa; omega), (by show s0.wa ≤ s.wa + 1; omega), HSUM'.out, HSP, hBE.setCell (p := ⟨w.heap.size, 0, none⟩) (Nat.le_refl _) _⟩
                          case measure => simp [intOf]
                        · have g4 : (t == (s.wa : Int)) = false := by simpa using ht
                          have HN : Hid (pop0 s = s) := by rw [Hid, pop0, ← hr]; simp only; rw [if_neg ht]
                          have HEQ' : Hid (KEQ (0 + 1) s0 s) := ⟨fun h => absurd h (by omega), fun _ => (by rw [← heq]; exact HN.out.symm), fun h => absurd h (by omega)⟩
                          clear ht hr hov heq hcell hlm
                          go_wp2
                          go_roundw
                          case rel => exact ⟨0 + 1, s, _, _, q, by omega, by go_num, rfl, rfl, HEQ', HQ, hle, hsum, HST, hBE⟩
                          case measure => simp [intOf]

                    · by_cases hk1 : k = 1
                      · subst hk1
                        clear hk0
                        have heq := HEQ.out.2.1 rfl
                        have hcv := HST.out.c1
                        have hov := HST.out.o1
                        obtain ⟨r, hr⟩ : ∃ r, r = s.r1 := ⟨_, rfl⟩
                        rw [← hr] at hov
                        cases r with
                        | nil =>
                          obtain ⟨A3, c3, rfl, _⟩ := hov.sl (by simp)
                          have hl0 : ([] : List Int).reverse.length = 0 := rfl
                          rw [hl0] at hcv HST
                          have HN : Hid (pop1 s = s) := by rw [Hid, pop1, ← hr]
                          have HEQ' : Hid (KEQ (1 + 1) s0 s) := ⟨fun h => absurd h (by omega), fun h => absurd h (by omega), fun _ => (by rw [← heq]; exact HN.out.symm)⟩
                          clear hl0 hr hov heq
                          go_wp2
                          go_roundw
                          case rel => exact ⟨1 + 1, s, _, _, q, by omega, by go_num, rfl, rfl, HEQ', HQ, hle, hsum, HST, hBE⟩
                          case measure => simp [intOf]
                        | cons t r =>
                          obtain ⟨g2, cap2, rfl, hcap, hgB, hgl', hcell⟩ := hov.form (by simp)
                          obtain ⟨mm, hm⟩ : ∃ mm, r.length = mm := ⟨_, rfl⟩
                          have hct := hcell mm (by simp; omega)
                          rw [← hm, last_rev, hm] at hct
                          have hlm : (t :: r).reverse.length = mm + 1 := by simp; omega
                          rw [hlm] at hcv HST hcap
                          have hmb : mm + 1 ≤ n + 2 := by
                            have h : s.r1.length = mm + 1 := by rw [← hr]; simp; omega
                            unfold S2.size at hsum; omega
                          have hfz := HST.out.f1
                          have HM := Lib.hid hm; clear hm
                          by_cases ht : t = s.wa
                          · have g4 : (t == (s.wa : Int)) = true := by simpa using ht
                            have HN : Hid (pop1 s = (⟨s.r0, r, s.wa + 1⟩ : S2)) := by rw [Hid, pop1, ← hr]; simp only; rw [if_pos ht]
                            have HEQ' : Hid (KEQ (1 + 1) s0 (⟨s.r0, r, s.wa + 1⟩ : S2)) := ⟨fun h => absurd h (by omega), fun h => absurd h (by omega), fun _ => (by rw [← heq]; exact HN.out.symm)⟩
                            have HSP := Lib.hid (HST.out.pop1 hr.symm rfl HM.out)
                            have hsum' : s.wa + 1 + ((⟨s.r0, r, s.wa + 1⟩ : S2)).size = j + 2 := by have h := (pop1_sum s).1; rw [HN.out] at h; simp only at h; omega
                            have HSUM' := Lib.hid hsum'; clear hsum'
                            clear ht hr hov heq hcell hlm
                            go_wp2
                            go_roundw
                            case rel => exact ⟨1 + 1, (⟨s.r0, r, s.wa + 1⟩ : S2), _, _, true, by omega, by go_num, by go_num, rfl, HEQ', (by rw [Hid, eq_comm, decide_eq_true_eq]; show s.wa + 1 ≠ s0.wa; omega), (by show s0.wa ≤ s.wa + 1; omega), HSUM'.out, HSP, hBE.setCell (p := ⟨w.heap.size, 1, none⟩) (Nat.le_refl _) _⟩
                            case measure => simp [intOf]
                          · have g4 : (t == (s.wa : Int)) = false := by simpa using ht
                            have HN : Hid (pop1 s = s) := by rw [Hid, pop1, ← hr]; simp only; rw [if_neg ht]
                            have HEQ' : Hid (KEQ (1 + 1) s0 s) := ⟨fun h => absurd h (by omega), fun h => absurd h (by omega), fun _ => (by rw [← heq]; exact HN.out.symm)⟩
                            clear ht hr hov heq hcell hlm
                            go_wp2
                            go_roundw
                            case rel => exact ⟨1 + 1, s, _, _, q, by omega, by go_num, rfl, rfl, HEQ', HQ, hle, hsum, HST, hBE⟩
                            case measure => simp [intOf]

                      · obtain rfl : k = 2 := by omega
                        clear hk0 hk1
                        have heq := HEQ.out.2.2 rfl
                        have HEQ2 := Lib.hid heq; clear heq
                        cases q with
                        | true =>
                          have hne : s.wa ≠ s0.wa := by have h := HQ.out; rw [eq_comm, decide_eq_true_eq] at h; exact h
                          have HBX : Hid (BoxIf true (drain s = F) (s = F)) := ⟨fun _ => by rw [HEQ2.out, ← drain_go (by rw [← HEQ2.out]; exact hne)]; exact HF'.out, fun h => by cases h⟩
                          go_wp2
                          go_roundw
                          case rel => exact ⟨s, _, _, true, rfl, rfl, HBX, hsum, HST, hBE⟩
                          case measure => simp [intOf]; omega
                        | false =>
                          have hne : s.wa = s0.wa := by have h := HQ.out; rw [eq_comm, decide_eq_false_iff_not] at h; omega
                          have HBX : Hid (BoxIf false (drain s = F) (s = F)) := ⟨fun h => (by cases h), fun _ => by rw [HEQ2.out, ← drain_stop (by rw [← HEQ2.out]; exact hne)]; exact HF'.out⟩
                          have HNE := Lib.hid hne; clear hne
                          go_wp2
                          go_roundw
                          case rel => exact ⟨s, _, _, false, rfl, rfl, HBX, hsum, HST, hBE⟩
                          case measure => simp [intOf]; have := HNE.out; omega
            · have HSI : Hid (sideIn d j = true) := by unfold sideIn; rw [Hid, ← HX.out]; simp; omega
              have HNX : Hid (sidesTo o d (j + 1) = drain (pushS S 1 y)) := by
                have e : sidesTo o d (j + 1) = drain (pushS (sidesTo o d j) (d[j]?.getD 0) (o[j]?.getD 0)) := rfl
                rw [Hid, e, ← HX.out, ← HY.out, ← HSS.out, show x = 1 from by omega]
              obtain rfl : x = 1 := by omega
              clear h1 h2
              have hcv := HST.out.c1
              obtain ⟨L, hL⟩ : ∃ L, S.r1.length = L := ⟨_, rfl⟩
              have hLb : L ≤ n + 1 := by
                have h := HSUM.out
                unfold S2.size at h
                omega
              obtain ⟨A', c', hve, _⟩ := HST.out.o1.sl (by rw [List.length_reverse]; omega)
              rw [List.length_reverse, hL] at hve
              subst hve
              have hsr : S.r1.reverse.length ≤ 1099511627776 := by rw [List.length_reverse, hL]; omega
              have HSR := Lib.hid hsr; clear hsr
              have HLL := Lib.hid hL; clear hL
              have hgl : w.heap.size < wo.heap.size := by
                have h := HST.out.c0
                rcases Nat.lt_or_ge w.heap.size wo.heap.size with h' | h'
                · exact h'
                · exfalso
                  have : wo.heap[w.heap.size]? = none := Array.getElem?_eq_none h'
                  simp [World.cell?, this] at h
              have hfz := HST.out.f1
              have hob : w.heap.size + 1 ≤ wo.heap.size := hgl
              go_wp2_with (at_builtin; go_must (refine push_law _ rfl (.tmp 38) (.tmp 43) 22 rfl (w.heap.size + 1) 3 i0 Try.underlying22 HI.out _ S.r1.reverse y rfl rfl HST.out.o1 HSR.out hob ?_); intro u w1 hv1 hg1 hat1; obtain ⟨g1, cap1, hu, hu1⟩ := hv1.form (by simp); clear hu1; have hu2 : (S.r1.reverse ++ [y]).length = L + 1 := (by rw [List.length_append, List.length_reverse, HLL.out]; rfl); rw [hu2] at hu; clear hu2; subst hu; have hne : some w.heap.size ≠ (Value.slice A' L c').ownBlock := (fun e => by have := (HST.out.o1.lt e.symm).1; omega); have hcg := grown_cell hg1 HST.out.c1 hne; have hfg := (grown_frozen hg1 hgl hne).trans hfz; have HP := Lib.hid (HST.out.push1 hgl hv1 hg1 hat1); have HB1 := Lib.hid ((hW.grown hg1 hW.size (fun k e => by have := (HST.out.o1.lt e).1; omega)).setCell (p := ⟨w.heap.size, 1, none⟩) (Nat.le_refl _) (.slice (some ⟨g1, 0, none⟩) (L + 1) cap1)); clear hv1 hg1 hat1 hne)
              obtain ⟨F, hF⟩ : ∃ F, F = sidesTo o d (j + 1) := ⟨_, rfl⟩
              rw [← hF] at HNX
              have HF0 := Lib.hid hF; clear hF
              have HPS : Hid ((⟨S.r0, y :: S.r1, S.wa⟩ : S2).wa + (⟨S.r0, y :: S.r1, S.wa⟩ : S2).size = j + 2) := by
                have h1 := HSUM.out
                have h2 := pushS_sum S 1 y
                rw [show pushS S 1 y = ⟨S.r0, y :: S.r1, S.wa⟩ from by simp [pushS]] at h2
                rw [Hid]; omega
              clear hcv hfz hcg hfg hgl hob
              go_loopw [6, 10, 11, 12] (fun wt ag _ _ w' => ∃ (s : S2) (v0 v1 : Value) (q : Bool), ag = .bool q ∧ wt = .int .i64 s.wa ∧ Hid (BoxIf q (drain s = F) (s = F)) ∧ s.wa + s.size = j + 2 ∧ Hid (St2 w' w.heap.size 3 v0 v1 s) ∧ Below w.heap.size w w') (fun wt ag _ _ _ => 2 * (n + 3 - (intOf wt).toNat) + (match ag with | .bool true => 1 | _ => 0))
              case atStart => exact ⟨⟨S.r0, y :: S.r1, S.wa⟩, _, _, true, rfl, rfl, ⟨fun _ => (by rw [HNX.out, show pushS S 1 y = ⟨S.r0, y :: S.r1, S.wa⟩ from by simp [pushS]]), fun h => by cases h⟩, HPS.out, HP, HB1.out⟩
              case round =>
                obtain ⟨s0, v0, v1, q, rfl, rfl, HF, hsum, HST, hBE⟩ := hrel
                cases q with
                | false =>
                  have HE : Hid (s0 = sidesTo o d (j + 1)) := by rw [Hid, ← HF0.out]; exact HF.out.2 rfl
                  go_wp2
                  go_roundw
                  case rel => exact ⟨j + 1, v0, v1, by omega, by go_num, (by rw [← HE.out]), ok_step hok.out HSI.out, (by rw [← HE.out]; exact HST), hBE⟩
                  case measure => simp [intOf]; omega
                | true =>
                  obtain ⟨wp, rfl⟩ : ∃ wp : World, wp = wr := ⟨_, rfl⟩
                  go_wp2
                  go_loopw [6, 10, 11, 12] (fun wt ag kk _ w' => ∃ (k : Nat) (s : S2) (v0 v1 : Value) (q : Bool), k ≤ 2 ∧ kk = .int .i64 k ∧ wt = .int .i64 s.wa ∧ ag = .bool q ∧ Hid (KEQ k s0 s) ∧ Hid (q = decide (s.wa ≠ s0.wa)) ∧ s0.wa ≤ s.wa ∧ s.wa + s.size = j + 2 ∧ Hid (St2 w' w.heap.size 3 v0 v1 s) ∧ Below w.heap.size w w') (fun _ _ kk _ _ => 2 - (intOf kk).toNat)
                  case atStart => exact ⟨0, s0, v0, v1, false, by omega, by go_num, rfl, rfl, ⟨fun _ => rfl, fun h => absurd h (by omega), fun h => absurd h (by omega)⟩, (by rw [Hid]; simp), Nat.le_refl _, hsum, HST, hBE⟩
                  case round =>
                    have HF' := Lib.hid (HF.out.1 rfl)
                    clear HST hBE hsum HF
                    obtain ⟨k, s, v0, v1, q, hk, rfl, rfl, rfl, HEQ, HQ, hle, hsum, HST, hBE⟩ := hrel
                    by_cases hk0 : k = 0
                    · subst hk0
                      have heq := HEQ.out.1 rfl
                      have hcv := HST.out.c0
                      have hov := HST.out.o0
                      obtain ⟨r, hr⟩ : ∃ r, r = s.r0 := ⟨_, rfl⟩
                      rw [← hr] at hov
                      cases r with
                      | nil =>
                        obtain ⟨A3, c3, rfl, _⟩ := hov.sl (by simp)
                        have hl0 : ([] : List Int).reverse.length = 0 := rfl
                        rw [hl0] at hcv HST
                        have HN : Hid (pop0 s = s) := by rw [Hid, pop0, ← hr]
                        have HEQ' : Hid (KEQ (0 + 1) s0 s) := ⟨fun h => absurd h (by omega), fun _ => (by rw [← heq]; exact HN.out.symm), fun h => absurd h (by omega)⟩
                        clear hl0 hr hov heq
                        go_wp2
                        go_roundw
                        case rel => exact ⟨0 + 1, s, _, _, q, by omega, by go_num, rfl, rfl, HEQ', HQ, hle, hsum, HST, hBE⟩
                        case measure => simp [intOf]
                      | cons t r =>
                        obtain ⟨g2, cap2, rfl, hcap, hgB, hgl', hcell⟩ := hov.form (by simp)
                        obtain ⟨mm, hm⟩ : ∃ mm, r.length = mm := ⟨_, rfl⟩
                        have hct := hcell mm (by simp; omega)
                        rw [← hm, last_rev, hm] at hct
                        have hlm : (t :: r).reverse.length = mm + 1 := by simp; omega
                        rw [hlm] at hcv HST hcap
                        have hmb : mm + 1 ≤ n + 2 := by
                          have h : s.r0.length = mm + 1 := by rw [← hr]; simp; omega
                          unfold S2.size at hsum; omega
                        have hfz := HST.out.f0
                        have HM := Lib.hid hm; clear hm
                        by_cases ht : t = s.wa
                        · have g4 : (t == (s.wa : Int)) = true := by simpa using ht
                          have HN : Hid (pop0 s = (⟨r, s.r1, s.wa + 1⟩ : S2)) := by rw [Hid, pop0, ← hr]; simp only; rw [if_pos ht]
                          have HEQ' : Hid (KEQ (0 + 1) s0 (⟨r, s.r1, s.wa + 1⟩ : S2)) := ⟨fun h => absurd h (by omega), fun _ => (by rw [← heq]; exact HN.out.symm), fun h => absurd h (by omega)⟩
                          have HSP := Lib.hid (HST.out.pop0 hr.symm rfl HM.out)
                          have hsum' : s.wa + 1 + ((⟨r, s.r1, s.wa + 1⟩ : S2)).size = j + 2 := by have h := (pop0_sum s).1; rw [HN.out] at h; simp only at h; omega
                          have HSUM' := Lib.hid hsum'; clear hsum'
                          clear ht hr hov heq hcell hlm
                          go_wp2
                          go_roundw
                          case rel => exact ⟨0 + 1, (⟨r, s.r1, s.wa + 1⟩ : S2), _, _, true, by omega, by go_num, by go_num, rfl, HEQ', (by rw [Hid, eq_comm, decide_eq_true_eq]; show s.wa + 1 ≠ s0.wa; omega), (by show s0.wa ≤ s.wa + 1; omega), HSUM'.out, HSP, hBE.setCell (p := ⟨w.heap.size, 0, none⟩) (Nat.le_refl _) _⟩
                          case measure => simp [intOf]
                        · have g4 : (t == (s.wa : Int)) = false := by simpa using ht
                          have HN : Hid (pop0 s = s) := by rw [Hid, pop0, ← hr]; simp only; rw [if_neg ht]
                          have HEQ' : Hid (KEQ (0 + 1) s0 s) := ⟨fun h => absurd h (by omega), fun _ => (by rw [← heq]; exact HN.out.symm), fun h => absurd h (by omega)⟩
                          clear ht hr hov heq hcell hlm
                          go_wp2
                          go_roundw
                          case rel => exact ⟨0 + 1, s, _, _, q, by omega, by go_num, rfl, rfl, HEQ', HQ, hle, hsum, HST, hBE⟩
                          case measure => simp [intOf]

                    · by_cases hk1 : k = 1
                      · subst hk1
                        clear hk0
                        have heq := HEQ.out.2.1 rfl
                        have hcv := HST.out.c1
                        have hov := HST.out.o1
                        obtain ⟨r, hr⟩ : ∃ r, r = s.r1 := ⟨_, rfl⟩
                        rw [← hr] at hov
                        cases r with
                        | nil =>
                          obtain ⟨A3, c3, rfl, _⟩ := hov.sl (by simp)
                          have hl0 : ([] : List Int).reverse.length = 0 := rfl
                          rw [hl0] at hcv HST
                          have HN : Hid (pop1 s = s) := by rw [Hid, pop1, ← hr]
                          have HEQ' : Hid (KEQ (1 + 1) s0 s) := ⟨fun h => absurd h (by omega), fun h => absurd h (by omega), fun _ => (by rw [← heq]; exact HN.out.symm)⟩
                          clear hl0 hr hov heq
                          go_wp2
                          go_roundw
                          case rel => exact ⟨1 + 1, s, _, _, q, by omega, by go_num, rfl, rfl, HEQ', HQ, hle, hsum, HST, hBE⟩
                          case measure => simp [intOf]
                        | cons t r =>
                          obtain ⟨g2, cap2, rfl, hcap, hgB, hgl', hcell⟩ := hov.form (by simp)
                          obtain ⟨mm, hm⟩ : ∃ mm, r.length = mm := ⟨_, rfl⟩
                          have hct := hcell mm (by simp; omega)
                          rw [← hm, last_rev, hm] at hct
                          have hlm : (t :: r).reverse.length = mm + 1 := by simp; omega
                          rw [hlm] at hcv HST hcap
                          have hmb : mm + 1 ≤ n + 2 := by
                            have h : s.r1.length = mm + 1 := by rw [← hr]; simp; omega
                            unfold S2.size at hsum; omega
                          have hfz := HST.out.f1
                          have HM := Lib.hid hm; clear hm
                          by_cases ht : t = s.wa
                          · have g4 : (t == (s.wa : Int)) = true := by simpa using ht
                            have HN : Hid (pop1 s = (⟨s.r0, r, s.wa + 1⟩ : S2)) := by rw [Hid, pop1, ← hr]; simp only; rw [if_pos ht]
                            have HEQ' : Hid (KEQ (1 + 1) s0 (⟨s.r0, r, s.wa + 1⟩ : S2)) := ⟨fun h => absurd h (by omega), fun h => absurd h (by omega), fun _ => (by rw [← heq]; exact HN.out.symm)⟩
                            have HSP := Lib.hid (HST.out.pop1 hr.symm rfl HM.out)
                            have hsum' : s.wa + 1 + ((⟨s.r0, r, s.wa + 1⟩ : S2)).size = j + 2 := by have h := (pop1_sum s).1; rw [HN.out] at h; simp only at h; omega
                            have HSUM' := Lib.hid hsum'; clear hsum'
                            clear ht hr hov heq hcell hlm
                            go_wp2
                            go_roundw
                            case rel => exact ⟨1 + 1, (⟨s.r0, r, s.wa + 1⟩ : S2), _, _, true, by omega, by go_num, by go_num, rfl, HEQ', (by rw [Hid, eq_comm, decide_eq_true_eq]; show s.wa + 1 ≠ s0.wa; omega), (by show s0.wa ≤ s.wa + 1; omega), HSUM'.out, HSP, hBE.setCell (p := ⟨w.heap.size, 1, none⟩) (Nat.le_refl _) _⟩
                            case measure => simp [intOf]
                          · have g4 : (t == (s.wa : Int)) = false := by simpa using ht
                            have HN : Hid (pop1 s = s) := by rw [Hid, pop1, ← hr]; simp only; rw [if_neg ht]
                            have HEQ' : Hid (KEQ (1 + 1) s0 s) := ⟨fun h => absurd h (by omega), fun h => absurd h (by omega), fun _ => (by rw [← heq]; exact HN.out.symm)⟩
                            clear ht hr hov heq hcell hlm
                            go_wp2
                            go_roundw
                            case rel => exact ⟨1 + 1, s, _, _, q, by omega, by go_num, rfl, rfl, HEQ', HQ, hle, hsum, HST, hBE⟩
                            case measure => simp [intOf]

                      · obtain rfl : k = 2 := by omega
                        clear hk0 hk1
                        have heq := HEQ.out.2.2 rfl
                        have HEQ2 := Lib.hid heq; clear heq
                        cases q with
                        | true =>
                          have hne : s.wa ≠ s0.wa := by have h := HQ.out; rw [eq_comm, decide_eq_true_eq] at h; exact h
                          have HBX : Hid (BoxIf true (drain s = F) (s = F)) := ⟨fun _ => by rw [HEQ2.out, ← drain_go (by rw [← HEQ2.out]; exact hne)]; exact HF'.out, fun h => by cases h⟩
                          go_wp2
                          go_roundw
                          case rel => exact ⟨s, _, _, true, rfl, rfl, HBX, hsum, HST, hBE⟩
                          case measure => simp [intOf]; omega
                        | false =>
                          have hne : s.wa = s0.wa := by have h := HQ.out; rw [eq_comm, decide_eq_false_iff_not] at h; omega
                          have HBX : Hid (BoxIf false (drain s = F) (s = F)) := ⟨fun h => (by cases h), fun _ => by rw [HEQ2.out, ← drain_stop (by rw [← HEQ2.out]; exact hne)]; exact HF'.out⟩
                          have HNE := Lib.hid hne; clear hne
                          go_wp2
                          go_roundw
                          case rel => exact ⟨s, _, _, false, rfl, rfl, HBX, hsum, HST, hBE⟩
                          case measure => simp [intOf]; have := HNE.out; omega
      · have hjn : j = n := by omega
        subst hjn
        have HB : Hid (decide ((sidesTo o d j).wa = j + 1) = sidesB o d) := by rw [Hid, HB0.out, ← allB_good hok.out]; rfl
        obtain ⟨wa, hwa⟩ : ∃ wa, wa = (sidesTo o d j).wa := ⟨_, rfl⟩
        rw [← hwa] at HB
        rw [← hwa]
        clear hwa
        by_cases he : wa = j + 1
        · have g : ((wa : Int) == (j : Int) + 1) = true := by simp; omega
          have HB' : Hid (true = sidesB o d) := by rw [Hid, ← HB.out, decide_eq_true he]
          clear he
          go_wp2
          go_ret
          exact ⟨bend HB'.out, hW⟩
        · have g : ((wa : Int) == (j : Int) + 1) = false := by simp; omega
          have HB' : Hid (false = sidesB o d) := by rw [Hid, ← HB.out, decide_eq_false he]
          clear he
          go_wp2
          go_ret
          exact ⟨bend HB'.out, hW⟩
  · have gm : ((m : Int) != n) = true := by simp; omega
    have HB : Hid (false = sidesB o d) := by unfold sidesB; rw [Hid, HS.out.len, HL.out.len, decide_eq_false hnm]; rfl
    clear hnm
    go_enter Try.func37, Try.ntmps37
    go_wp2
    go_ret
    exact ⟨bend HB.out, Below.refl _ _⟩
end Go.Proofs.Ytmnnehpoaedifaa
