import Derived.Test.YtieaolihdbcekaaT32
/- Layer 6: the reference's Refutes, Right. -/
namespace Go.Proofs.Ytieaolihdbcekaa
open Go.RowKit Go.Maps
set_option linter.unusedVariables false

set_option maxRecDepth 100000 in
set_option maxHeartbeats 12800000 in
theorem refutesR_any (N : List Nd) (A : Option Addr) (n c p q : Nat) (z : ByteArray) (w : World) (hN : Nl w A n c N) (hok : OkN N) (hp : p < n) (hq : q < n) (hn : n ≤ 1000) (hz : z.size ≤ 1099511627776) :
    Calls Try.prog 45 #[.slice A n c, .int .i64 (p : Int), .int .i64 (q : Int), .string z] w fun e w' => e = .returned (.bool (refB N (p, q) (bs z))) ∧ Below w.heap.size w w' := by
  have HL : Hid (N.length = n) := hN.len
  have HN := Lib.hid hN
  have HOK := Lib.hid hok
  have HP0 : Hid (p < n ∧ q < n) := ⟨hp, hq⟩
  clear hN hok hp hq
  go_enter Try.func45, Try.ntmps45
  go_wp2
  go_loopw [1, 2, 9] (fun i1 i2 i w' => ∃ k x y : Nat, k ≤ z.size ∧ i1 = .int .i64 (x : Int) ∧ i2 = .int .i64 (y : Int) ∧ i = .int .i64 (k : Int) ∧ Hid (x < n ∧ y < n) ∧ Hid (refB N (x, y) ((bs z).drop k) = refB N (p, q) (bs z)) ∧ Hid (Below w.heap.size w w')) (fun _ _ i _ => z.size + 1 - (intOf i).toNat)
  case atStart => exact ⟨0, p, q, by omega, by go_num, by go_num, by go_num, HP0.out, rfl, Below.refl _ _⟩
  case round =>
    obtain ⟨k, p', q', hk, rfl, rfl, rfl, HXY, HR, HB⟩ := hrel
    obtain ⟨W, rfl⟩ : ∃ W : World, W = wr := ⟨_, rfl⟩
    have h2 := HXY.out.1
    have h3 := HXY.out.2
    have i1 : (k : Int) ≤ (z.size : Int) := by omega
    obtain ⟨b, off', rfl, hbl, ⟨p0, p1, p2⟩, q0, q1, q2⟩ := (HN.out.below HB.out (Nat.le_refl _)).two h2 h3
    have hkk : (nd N p').k < 6 := HOK.out.kind p' (by rw [HL.out]; exact h2)
    have HIA := Lib.hid (HOK.out.pA (p := (p', q')) ⟨by rw [HL.out]; exact h2, by rw [HL.out]; exact h3⟩)
    have HIB := Lib.hid (HOK.out.pB (p := (p', q')) ⟨by rw [HL.out]; exact h2, by rw [HL.out]; exact h3⟩)
    rw [HL.out] at HIA HIB
    have HJ : Hid (jud N (p', q') = judX (nd N p') (nd N q')) := rfl
    have HPA : Hid (pA N (p', q') = if (nd N p').k = 5 then ((nd N q').a, (nd N p').a) else ((nd N p').a, (nd N q').a)) := rfl
    have HPB : Hid (pB N (p', q') = ((nd N p').b, (nd N q').b)) := rfl
    generalize nd N p' = x at *
    generalize nd N q' = y at *
    obtain ⟨kx, ax, bx⟩ := x
    obtain ⟨ky, ay, byy⟩ := y
    dsimp only at p0 p1 p2 q0 q1 q2 HPA HPB hkk
    have i3 : (p' : Int) < (n : Int) := by omega
    have i4 : (q' : Int) < (n : Int) := by omega
    obtain ⟨p01, p02⟩ := cell_2z p0 hbl
    obtain ⟨p11, p12⟩ := cell_2z p1 hbl
    obtain ⟨p21, p22⟩ := cell_2z p2 hbl
    obtain ⟨q01, q02⟩ := cell_2z q0 hbl
    obtain ⟨q11, q12⟩ := cell_2z q1 hbl
    obtain ⟨q21, q22⟩ := cell_2z q2 hbl
    have HNX := Lib.hid HN.out
    clear HN HXY
    go_wp2
    go_region
    all_goals (
      clear p0 p1 p2 q0 q1 q2 p01 p02 p11 p12 p21 p22 q01 q02 q11 q12 q21 q22
      generalize hW2 : World.drew (World.alloc (World.alloc W _) _) = W2
      first
        | have T : TwoNew W W2 (W.heap.size + 1) W.heap.size #[.int .i64 (kx : Int), .int .i64 (ax : Int), .int .i64 (bx : Int)] #[.int .i64 (ky : Int), .int .i64 (ay : Int), .int .i64 (byy : Int)] 59 := by rw [← hW2]; exact (twoNew_a W _ _ _).swap
        | have T : TwoNew W W2 W.heap.size (W.heap.size + 1) #[.int .i64 (kx : Int), .int .i64 (ax : Int), .int .i64 (bx : Int)] #[.int .i64 (ky : Int), .int .i64 (ay : Int), .int .i64 (byy : Int)] 59 := by rw [← hW2]; exact twoNew_a W _ _ _
      clear hW2
      have HB2 : Hid (Below w.heap.size w W2) := HB.out.trans (T.bl.mono HB.out.size)
      have u0' := cell_in T.hu (i := 0) rfl
      have u1' := cell_in T.hu (i := 1) rfl
      have u2' := cell_in T.hu (i := 2) rfl
      have v0' := cell_in T.hv (i := 0) rfl
      have v1' := cell_in T.hv (i := 1) rfl
      have v2' := cell_in T.hv (i := 2) rfl
      clear T HB
      -- a settled pair refutes nothing
      have HZ : Hid (jud N (p', q') = 0 → false = refB N (p, q) (bs z)) := fun hj => by
        rw [← HR.out]
        by_cases hlt : k < z.size
        · rw [bs_drop hlt, refB_no (by omega)]
        · rw [show k = z.size from by omega, refB_end, decide_eq_false (by omega)]
      have HO : Hid (k < z.size → jud N (p', q') = 1 → false = refB N (p, q) (bs z)) := fun hlt hj => by rw [← HR.out, bs_drop hlt, refB_no (by omega)]
      have HE : Hid (k = z.size → ∀ r, decide (jud N (p', q') = 1) = r → r = refB N (p, q) (bs z)) := fun h r hr => by rw [← hr, ← HR.out, h, refB_end]
      by_cases h0 : kx = 0
      · have HX := Lib.hid (HZ.out (by rw [HJ.out, judX_zero h0]))
        have g0 : ((kx : Int) == 0) = true := by simpa using h0
        clear h0
        go_wp2
        go_ret
        exact ⟨bend HX.out, HB2.out⟩
      · have g0 : ((kx : Int) == 0) = false := by simpa using h0
        by_cases h1 : ky = 1
        · have HX := Lib.hid (HZ.out (by rw [HJ.out, judX_one h1]))
          have g1 : ((ky : Int) == 1) = true := by simpa using (by omega : (ky : Int) = 1)
          clear h0 h1
          go_wp2
          go_ret
          exact ⟨bend HX.out, HB2.out⟩
        · have g1 : ((ky : Int) == 1) = false := by simpa using (by omega : ¬ (ky : Int) = 1)
          by_cases hlt : k < z.size
          · have gk : ((k : Int) == (z.size : Int)) = false := by simp; omega
            by_cases hxy : kx = ky
            · have n2 : ((kx : Int) != (ky : Int)) = false := by simp; omega
              by_cases h4 : kx < 4
              · have HX := Lib.hid (HZ.out (by rw [HJ.out, judX_leaf h0 h1 hxy (by dsimp only; omega)]))
                have i9 : (kx : Int) < 4 := by omega
                clear h0 h1 hxy h4
                go_wp2
                go_ret
                exact ⟨bend HX.out, HB2.out⟩
              · have hj2 : jud N (p', q') = 2 := by rw [HJ.out, judX_part h1 hxy (by dsimp only; omega)]
                have i9 : ¬ (kx : Int) < 4 := by omega
                have hix := run_byte z hlt
                have HD := Lib.hid (bs_drop hlt)
                have ik : (k : Int) < (z.size : Int) := by omega
                have HRA : Hid (byteI z k = 97 → refB N (pA N (p', q')) ((bs z).drop (k + 1)) = refB N (p, q) (bs z)) := fun h => by
                  rw [← HR.out, HD.out, h, refB_a hj2]
                have HRB : Hid (byteI z k = 98 → refB N (pB N (p', q')) ((bs z).drop (k + 1)) = refB N (p, q) (bs z)) := fun h => by
                  rw [← HR.out, HD.out, h, refB_b hj2]
                have HRX : Hid (byteI z k ≠ 97 → byteI z k ≠ 98 → false = refB N (p, q) (bs z)) := fun h1 h2 => by
                  rw [← HR.out, HD.out, refB_x h1 h2]
                generalize byteI z k = ch at *
                by_cases hb : ch = 98
                · subst hb
                  have HX := Lib.hid (HRB.out rfl)
                  rw [HPB.out] at HX HIB
                  clear h0 h1 hxy h4 hj2 HRA HRB HRX HD HR HZ HO HE
                  go_wp2
                  exact ⟨⟨k + 1, bx, byy, by omega, by go_num, by go_num, by go_num, HIB.out, HX.out, HB2.out⟩, by simp [intOf]; omega⟩
                · have gb : (ch == 98) = false := by simpa using hb
                  have gbn : (ch != 98) = true := by simpa using hb
                  by_cases ha : ch = 97
                  · subst ha
                    have HX := Lib.hid (HRA.out rfl)
                    by_cases h5 : kx = 5
                    · have g4 : ((kx : Int) == 4) = false := by simpa using (by omega : ¬ (kx : Int) = 4)
                      rw [if_pos h5] at HPA
                      rw [HPA.out] at HX HIA
                      clear h0 h1 hxy h4 hj2 HRA HRB HRX HD HR HZ HO HE hb h5
                      go_wp2
                      exact ⟨⟨k + 1, ay, ax, by omega, by go_num, by go_num, by go_num, HIA.out, HX.out, HB2.out⟩, by simp [intOf]; omega⟩
                    · have g4 : ((kx : Int) == 4) = true := by simpa using (by omega : (kx : Int) = 4)
                      rw [if_neg h5] at HPA
                      rw [HPA.out] at HX HIA
                      clear h0 h1 hxy h4 hj2 HRA HRB HRX HD HR HZ HO HE hb h5
                      go_wp2
                      exact ⟨⟨k + 1, ax, ay, by omega, by go_num, by go_num, by go_num, HIA.out, HX.out, HB2.out⟩, by simp [intOf]; omega⟩
                  · have ga : (ch != 97) = true := by simpa using ha
                    have HX := Lib.hid (HRX.out ha hb)
                    clear h0 h1 hxy h4 hj2 HRA HRB HRX HD HR HZ HO HE hb ha
                    go_wp2
                    go_ret
                    exact ⟨bend HX.out, HB2.out⟩
            · have n2 : ((kx : Int) != (ky : Int)) = true := by simp; omega
              have HX := Lib.hid (HO.out hlt (by rw [HJ.out, judX_ne h0 h1 hxy]))
              clear h0 h1 hxy
              go_wp2
              go_ret
              exact ⟨bend HX.out, HB2.out⟩
          · have gk : ((k : Int) == (z.size : Int)) = true := by simp; omega
            by_cases hxy : kx = ky
            · have n2 : ((kx : Int) != (ky : Int)) = false := by simp; omega
              have HX := Lib.hid (HE.out (by omega) false (by rw [HJ.out]; unfold judX; dsimp only; rw [if_neg (by omega), if_neg (by omega)]; split <;> rfl))
              clear h0 h1 hxy
              go_wp2
              go_ret
              exact ⟨bend HX.out, HB2.out⟩
            · have n2 : ((kx : Int) != (ky : Int)) = true := by simp; omega
              have HX := Lib.hid (HE.out (by omega) true (by rw [HJ.out, judX_ne h0 h1 hxy]; rfl))
              clear h0 h1 hxy
              go_wp2
              go_ret
              exact ⟨bend HX.out, HB2.out⟩)
theorem cloB_closR (N : List Nd) (ps : List (Int × Int)) (p q : Nat) (h : inP N.length (p, q)) : (closR N ps && hasQ ps (p : Int) (q : Int)) = cloB N ps (p, q) := by
  unfold closR cloB
  by_cases hi : ∀ k, k < ps.length → inQ N.length (psAt ps k) = true
  · have e : hasQ ps (p : Int) (q : Int) = decide ((p, q) ∈ ps.map ptOf) := by
      unfold hasQ
      by_cases hm : ((p : Int), (q : Int)) ∈ ps
      · rw [decide_eq_true hm, decide_eq_true (mem_pt hm)]
      · rw [decide_eq_false hm, decide_eq_false (fun h => hm (pt_mem hi h))]
    rw [e]
    cases allB (fun k => inQ N.length (psAt ps k)) ps.length <;> cases allB (fun k => folB N (ps.map ptOf) (ptOf (psAt ps k))) ps.length <;> cases decide (ps.length ≤ 600) <;> cases decide ((p, q) ∈ ps.map ptOf) <;> rfl
  · have : allB (fun k => inQ N.length (psAt ps k)) ps.length = false := by
      rw [Bool.eq_false_iff]
      intro h'
      exact hi (allB_iff.1 h')
    rw [this]; simp
set_option maxRecDepth 100000 in
set_option maxHeartbeats 6400000 in
theorem right_any (N : List Nd) (A : Option Addr) (n c p q : Nat) (b : Bool) (X : Option Addr) (m d : Nat) (ps : List (Int × Int)) (t : ByteArray) (w : World) (hN : Nl w A n c N) (hok : OkN N) (hp : p < n) (hq : q < n) (hn : n ≤ 1000) (hP : Plr w X m d ps) (ht : t.size ≤ 1099511627776) (r : Bool) (hr : prB N (p, q) b ps t = r) :
    Calls Try.prog 21 #[.slice A n c, .int .i64 (p : Int), .int .i64 (q : Int), .agg #[.bool b, .slice X m d, .string t]] w fun e w' => e = .returned (.bool r) ∧ Below w.heap.size w w' := by
  subst hr
  obtain ⟨W, hW⟩ : ∃ W, W = w.alloc (.cells #[.bool b, .slice X m d, .string t] 27) := ⟨_, rfl⟩
  have hb : Below w.heap.size w W := by rw [hW]; exact (Below.refl _ w).alloc (Nat.le_refl _) _
  have hbx : W.heap[w.heap.size]? = some (.cells #[.bool b, .slice X m d, .string t] 27 (0, 0)) := by rw [hW]; exact heap_alloc_new _ _
  have hsz : w.heap.size < W.heap.size := by rw [hW]; simp
  have HCL : Hid (∀ r, closR N ps = r → Calls Try.prog 43 #[.slice A n c, .slice X m d] W fun e w' => e = .returned (.bool r) ∧ Below W.heap.size W w') := fun r h => h ▸ closed_any N A n c X m d ps W (hN.below hb (Nat.le_refl _)) hok hn (hP.below hb (Nat.le_refl _))
  have HHA : Hid (∀ W2, Below W.heap.size W W2 → ∀ r, hasQ ps (p : Int) (q : Int) = r → Calls Try.prog 44 #[.slice X m d, .int .i64 (p : Int), .int .i64 (q : Int)] W2 fun e w' => e = .returned (.bool r) ∧ W2 = w') := fun W2 h2 r h => h ▸ has_any ps X m d p q W2 (hP.below (hb.trans (h2.mono hb.size)) (Nat.le_refl _))
  have HRF : Hid (Calls Try.prog 45 #[.slice A n c, .int .i64 (p : Int), .int .i64 (q : Int), .string t] W fun e w' => e = .returned (.bool (refB N (p, q) (bs t))) ∧ Below W.heap.size W w') := refutesR_any N A n c p q t W (hN.below hb (Nat.le_refl _)) hok hp hq hn ht
  have HCC := Lib.hid (cloB_closR N ps p q ⟨by rw [hN.len]; exact hp, by rw [hN.len]; exact hq⟩)
  have e0 := cell_in hbx (i := 0) rfl
  have e1 := cell_in hbx (i := 1) rfl
  have e2 := cell_in hbx (i := 2) rfl
  have HBX := Lib.hid hbx
  have HB := Lib.hid hb
  have HW := Lib.hid hW
  have hl := hP.len
  have hbig := hP.big
  clear hb hW hN hok hP hbx
  rcases b with _ | _
  · by_cases h0 : m = 0
    · subst h0
      have HX : Hid (refB N (p, q) (bs t) = prB N (p, q) false ps t) := by rw [Hid]; unfold prB; rw [if_neg (by decide), decide_eq_true hl]; rfl
      clear HCL HHA HCC
      rw [HX.out] at HRF
      go_enter Try.func21, Try.ntmps21
      go_wp2_with (go_at_call 45; rw [← HW.out]; refine HRF.out.mono ?_; rintro e w1 ⟨rfl, hb1⟩)
      go_ret
      exact ⟨rfl, HB.out.trans (hb1.mono HB.out.size)⟩
    · have HX : Hid (false = prB N (p, q) false ps t) := by rw [Hid]; unfold prB; rw [if_neg (by decide), decide_eq_false (by rw [hl]; exact h0)]; rfl
      have g0 : ((m : Int) == 0) = false := by simpa using h0
      clear HCL HRF h0 HHA HCC
      go_enter Try.func21, Try.ntmps21
      go_wp2
      rw [← HW.out]
      go_ret
      exact ⟨bend HX.out, HB.out⟩
  · by_cases h0 : t.toList = []
    · have HX : Hid (cloB N ps (p, q) = prB N (p, q) true ps t) := by rw [Hid]; unfold prB; rw [if_pos rfl, decide_eq_true h0]; rfl
      have g0 : t.toList.isEmpty = true := by rw [h0]; rfl
      rw [← HX.out, ← HCC.out]
      clear HRF
      rcases hc : closR N ps with _ | _
      · have HC := Lib.hid (HCL.out _ hc)
        clear hc HCL
        go_enter Try.func21, Try.ntmps21
        go_wp2_with (go_at_call 43; rw [← HW.out]; refine HC.out.mono ?_; rintro e w1 ⟨rfl, hb1⟩)
        go_ret
        exact ⟨rfl, HB.out.trans (hb1.mono HB.out.size)⟩
      · have HC := Lib.hid (HCL.out _ hc)
        obtain ⟨r2, hr2⟩ : ∃ r2, hasQ ps (p : Int) (q : Int) = r2 := ⟨_, rfl⟩
        have HH2 := Lib.hid (fun W2 h => HHA.out W2 h r2 hr2)
        rw [hr2]
        have HSZ := Lib.hid hsz
        clear hc HCL hr2 HHA
        go_enter Try.func21, Try.ntmps21
        go_wp2_with (first
          | (go_at_call 43; rw [← HW.out]; refine HC.out.mono ?_; rintro e w1 ⟨rfl, hb1⟩; have HB1 := Lib.hid hb1; have hf := (hb1.block _ HSZ.out).trans HBX.out; have f1 := cell_in hf (i := 1) rfl; clear hf hb1 e0 e1 e2)
          | (go_at_call 44; refine (HH2.out _ HB1.out).mono ?_; rintro e w2 ⟨rfl, rfl⟩))
        go_ret
        exact ⟨by first | rfl | (cases r2 <;> rfl), HB.out.trans (HB1.out.mono HB.out.size)⟩
    · have HX : Hid (false = prB N (p, q) true ps t) := by rw [Hid]; unfold prB; rw [if_pos rfl, decide_eq_false h0]; rfl
      have g0 : t.toList.isEmpty = false := by simpa using h0
      clear HCL HRF HHA HCC
      go_enter Try.func21, Try.ntmps21
      go_wp2
      rw [← HW.out]
      go_ret
      exact ⟨bend HX.out, HB.out⟩
end Go.Proofs.Ytieaolihdbcekaa
