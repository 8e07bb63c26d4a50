import Derived.Test.YtieaolihdbcekaaT21
import Derived.Test.YtieaolihdbcekaaT19
/- Layer 6: the reference's has, Closed. -/
namespace Go.Proofs.Ytieaolihdbcekaa
open Go.RowKit Go.Maps
set_option linter.unusedVariables false

def hasQ (ps : List (Int × Int)) (i j : Int) : Bool := decide ((i, j) ∈ ps)
theorem hasQ_stop {ps : List (Int × Int)} {i j : Int} {k : Nat} (hk : k < ps.length) (h : psAt ps k = (i, j)) : true = hasQ ps i j := by
  unfold hasQ
  rw [decide_eq_true (by rw [← h]; exact psAt_in hk)]
theorem hasQ_none {ps : List (Int × Int)} {i j : Int} (h : ∀ k, k < ps.length → psAt ps k ≠ (i, j)) : false = hasQ ps i j := by
  unfold hasQ
  rw [decide_eq_false]
  intro hm
  obtain ⟨k, hk, e⟩ := psAt_mem hm
  exact h k hk e
set_option maxHeartbeats 3200000 in
theorem has_any (ps : List (Int × Int)) (X : Option Addr) (m d : Nat) (i j : Int) (w : World) (hP : Plr w X m d ps) :
    Calls Try.prog 44 #[.slice X m d, .int .i64 i, .int .i64 j] w fun e w' => e = .returned (.bool (hasQ ps i j)) ∧ w = w' := by
  have HL : Hid (ps.length = m) := hP.len
  have hbig := hP.big
  have HP := Lib.hid hP
  have HYE : Hid (∀ k, k < m → psAt ps k = (i, j) → true = hasQ ps i j) := fun k hk h => hasQ_stop (by rw [HL.out]; exact hk) h
  have HNO : Hid ((∀ k, k < m → psAt ps k ≠ (i, j)) → false = hasQ ps i j) := fun h => hasQ_none fun k hk => h k (by rw [← HL.out]; exact hk)
  clear hP
  go_enter Try.func44, Try.ntmps44
  go_wp2
  go_loopw [7] (fun i' w' => ∃ k : Nat, k ≤ m ∧ i' = .int .i64 (k : Int) ∧ Hid (∀ t, t < k → psAt ps t ≠ (i, j)) ∧ w = w') (fun i _ => m - (intOf i).toNat)
  case atStart => exact ⟨0, by omega, by go_num, fun j hj => absurd hj (Nat.not_lt_zero _), rfl⟩
  case round =>
    obtain ⟨k, hk, rfl, HK, rfl⟩ := hrel
    by_cases hlt : k < m
    · have i1 : (k : Int) < (m : Int) := by omega
      obtain ⟨b, off, rfl, hbl, c0, c1⟩ := HP.out.rows k hlt
      change w.cell? _ = some (.int .i64 (psAt ps k).1) at c0
      change w.cell? _ = some (.int .i64 (psAt ps k).2) at c1
      have HYK := Lib.hid (HYE.out k hlt)
      have HKS : Hid (psAt ps k ≠ (i, j) → ∀ t, t < k + 1 → psAt ps t ≠ (i, j)) := fun h t ht => by
        by_cases e : t = k
        · rw [e]; exact h
        · exact HK.out t (by omega)
      generalize psAt ps k = z at *
      obtain ⟨x, y⟩ := z
      dsimp only at c0 c1
      by_cases h1 : x = i
      · have g1 : (x == i) = true := by simpa using h1
        by_cases h2 : y = j
        · have g2 : (y == j) = true := by simpa using h2
          have HX := Lib.hid (HYK.out (by rw [h1, h2]))
          clear h1 h2
          go_wp2
          go_ret
          exact ⟨bend HX.out, rfl⟩
        · have g2 : (y == j) = false := by simpa using h2
          have HX := Lib.hid (HKS.out (fun e => h2 (congrArg Prod.snd e)))
          clear h1 h2
          go_wp2
          exact ⟨⟨k + 1, by omega, by go_num, HX.out, trivial⟩, by simp [intOf]; omega⟩
      · have g1 : (x == i) = false := by simpa using h1
        have HX := Lib.hid (HKS.out (fun e => h1 (congrArg Prod.fst e)))
        clear h1
        go_wp2
        exact ⟨⟨k + 1, by omega, by go_num, HX.out, trivial⟩, by simp [intOf]; omega⟩
    · have i1 : ¬ (k : Int) < (m : Int) := by omega
      have HX := Lib.hid (HNO.out (fun t ht => HK.out t (by omega)))
      go_wp2
      go_ret
      exact ⟨bend HX.out, rfl⟩
/-- The pairs are a closed relation. -/
def closR (N : List Nd) (ps : List (Int × Int)) : Bool := allB (fun k => inQ N.length (psAt ps k)) ps.length && (allB (fun k => folB N (ps.map ptOf) (ptOf (psAt ps k))) ps.length && decide (ps.length ≤ 600))
theorem mem_pt {ps : List (Int × Int)} {a b : Nat} (h : ((a : Int), (b : Int)) ∈ ps) : (a, b) ∈ ps.map ptOf := List.mem_map.2 ⟨_, h, by simp [ptOf]⟩
theorem pt_mem {n : Nat} {ps : List (Int × Int)} {a b : Nat} (hi : ∀ k, k < ps.length → inQ n (psAt ps k) = true) (h : (a, b) ∈ ps.map ptOf) : ((a : Int), (b : Int)) ∈ ps := by
  obtain ⟨x, hx, e⟩ := List.mem_map.1 h
  obtain ⟨k, hk, rfl⟩ := psAt_mem hx
  obtain ⟨h1, _, _⟩ := inQ_nat (hi k hk)
  rw [e] at h1
  rw [← h1]
  exact hx
theorem closR_no {N : List Nd} {ps : List (Int × Int)} {k : Nat} (hk : k < ps.length) (h : (∀ k, k < ps.length → inQ N.length (psAt ps k) = true) → folB N (ps.map ptOf) (ptOf (psAt ps k)) = false) : false = closR N ps := by
  unfold closR
  by_cases hi : ∀ k, k < ps.length → inQ N.length (psAt ps k) = true
  · rw [← allB_bad (p := fun k => folB N (ps.map ptOf) (ptOf (psAt ps k))) hk (h hi)]
    simp
  · have : allB (fun k => inQ N.length (psAt ps k)) ps.length = false := by
      rw [Bool.eq_false_iff]
      intro h'
      exact hi (allB_iff.1 h')
    rw [this]; rfl
set_option maxRecDepth 100000 in
set_option maxHeartbeats 12800000 in
theorem closed_any (N : List Nd) (A : Option Addr) (n c : Nat) (X : Option Addr) (m d : Nat) (ps : List (Int × Int)) (w : World) (hN : Nl w A n c N) (hok : OkN N) (hn : n ≤ 1000) (hP : Plr w X m d ps) :
    Calls Try.prog 43 #[.slice A n c, .slice X m d] w fun e w' => e = .returned (.bool (closR N ps)) ∧ Below w.heap.size w w' := by
  have HLN : Hid (N.length = n) := hN.len
  have HLP : Hid (ps.length = m) := hP.len
  have hbig := hP.big
  have HN := Lib.hid hN
  have HOK := Lib.hid hok
  have HP := Lib.hid hP
  have HNW : Hid (∀ k, k < m → inQ n (psAt ps k) = false → false = closR N ps) := fun k hk h => by
    unfold closR; rw [← allB_bad (p := fun k => inQ N.length (psAt ps k)) (k := k) (by rw [HLP.out]; exact hk) (by rw [HLN.out]; exact h)]; simp
  have HNF : Hid (∀ k, k < m → ((∀ k, k < ps.length → inQ N.length (psAt ps k) = true) → folB N (ps.map ptOf) (ptOf (psAt ps k)) = false) → false = closR N ps) := fun k hk h => closR_no (by rw [HLP.out]; exact hk) h
  have HYE : Hid ((∀ k, k < m → inQ n (psAt ps k) = true ∧ folB N (ps.map ptOf) (ptOf (psAt ps k)) = true) → decide (m ≤ 600) = closR N ps) := fun h => by
    unfold closR
    rw [← allB_good (p := fun k => inQ N.length (psAt ps k)) (fun k hk => by rw [HLN.out]; exact (h k (by rw [← HLP.out]; exact hk)).1), ← allB_good (p := fun k => folB N (ps.map ptOf) (ptOf (psAt ps k))) (fun k hk => (h k (by rw [← HLP.out]; exact hk)).2), HLP.out]
    rfl
  clear hN hok hP
  go_enter Try.func43, Try.ntmps43
  go_wp2
  go_loopw [5] (fun i w' => ∃ k : Nat, k ≤ m ∧ i = .int .i64 (k : Int) ∧ Hid (∀ j, j < k → inQ n (psAt ps j) = true ∧ folB N (ps.map ptOf) (ptOf (psAt ps j)) = true) ∧ Hid (Below w.heap.size w w')) (fun i _ => m - (intOf i).toNat)
  case atStart => exact ⟨0, by omega, by go_num, fun j hj => absurd hj (Nat.not_lt_zero _), Below.refl _ _⟩
  case round =>
    obtain ⟨k, hk, rfl, HIN, HBW⟩ := hrel
    obtain ⟨wo, rfl⟩ : ∃ wo : World, wo = wr := ⟨_, rfl⟩
    by_cases hlt : k < m
    · have i2 : (k : Int) < (m : Int) := by omega
      obtain ⟨gb, off, rfl, hgb, c0, c1⟩ := (HP.out.below HBW.out (Nat.le_refl _)).rows k hlt
      change wo.cell? _ = some (.int .i64 (psAt ps k).1) at c0
      change wo.cell? _ = some (.int .i64 (psAt ps k).2) at c1
      have HNWK := Lib.hid (HNW.out k hlt)
      have HNFK := Lib.hid (HNF.out k hlt)
      have HKS : Hid (inQ n (psAt ps k) = true → folB N (ps.map ptOf) (ptOf (psAt ps k)) = true → ∀ j, j < k + 1 → inQ n (psAt ps j) = true ∧ folB N (ps.map ptOf) (ptOf (psAt ps j)) = true) := fun h h' j hj => by
        by_cases e : j = k
        · rw [e]; exact ⟨h, h'⟩
        · exact HIN.out j (by omega)
      go_wp2
      go_quiet (fail)
      clear c0 c1
      have HBQ : Hid (Below w.heap.size w (wo.drewN nq)) := below_dn HBW.out _
      generalize wo.drewN nq = W at *
      clear HBW
      obtain ⟨Z, hZ⟩ : ∃ Z, Z = psAt ps k := ⟨_, rfl⟩
      rw [← hZ] at HNWK HNFK HKS ⊢
      clear hZ
      by_cases hz : inQ n Z = true
      · obtain ⟨h1, h2, h3⟩ := inQ_nat hz
        have HKS2 := Lib.hid (HKS.out hz)
        rw [h1]
        clear hz h1 HKS HNWK
        generalize ptOf Z = P at *
        obtain ⟨p, q⟩ := P
        dsimp only at h2 h3
        obtain ⟨b, off', rfl, hbl, ⟨p0, p1, p2⟩, q0, q1, q2⟩ := (HN.out.below HBQ.out (Nat.le_refl _)).two h2 h3
        have hkk : (nd N p).k < 6 := HOK.out.kind p (by rw [HLN.out]; exact h2)
        have HJ : Hid (jud N (p, q) = judX (nd N p) (nd N q)) := rfl
        have HPA : Hid (pA N (p, q) = if (nd N p).k = 5 then ((nd N q).a, (nd N p).a) else ((nd N p).a, (nd N q).a)) := rfl
        have HPB : Hid (pB N (p, q) = ((nd N p).b, (nd N q).b)) := rfl
        generalize nd N p = x at *
        generalize nd N q = y at *
        obtain ⟨kx, ax, bx⟩ := x
        obtain ⟨ky, ay, byy⟩ := y
        dsimp only at p0 p1 p2 q0 q1 q2 HPA HPB hkk
        have i3 : (p : Int) < (n : Int) := by omega
        have i4 : (q : Int) < (n : Int) := by omega
        have i5 : ¬ (p : Int) < 0 := by omega
        have i6 : ¬ (p : Int) ≥ (n : Int) := by omega
        have i7 : ¬ (q : Int) < 0 := by omega
        have i8 : ¬ (q : Int) ≥ (n : Int) := by omega
        obtain ⟨p01, p02⟩ := cell_2z p0 hbl
        obtain ⟨p11, p12⟩ := cell_2z p1 hbl
        obtain ⟨p21, p22⟩ := cell_2z p2 hbl
        obtain ⟨q01, q02⟩ := cell_2z q0 hbl
        obtain ⟨q11, q12⟩ := cell_2z q1 hbl
        obtain ⟨q21, q22⟩ := cell_2z q2 hbl
        have HPP : Hid (∀ W2, Below W.heap.size W W2 → ∀ i j r, hasQ ps i j = r → Calls Try.prog 44 #[.slice (some ⟨gb, off, none⟩) m d, .int .i64 i, .int .i64 j] W2 fun e w' => e = .returned (.bool r) ∧ W2 = w') := fun W2 h i j r hr => hr ▸ has_any ps _ m d i j W2 (HP.out.below (HBQ.out.trans (h.mono HBQ.out.size)) (Nat.le_refl _))
        clear HP HN
        go_wp2
        go_region
        all_goals (
          clear p0 p1 p2 q0 q1 q2 p01 p02 p11 p12 p21 p22 q01 q02 q11 q12 q21 q22 i5 i6 i7 i8
          generalize hW2 : World.drew (World.alloc (World.alloc W _) _) = W2
          first
            | have T : TwoNew W W2 (W.heap.size + 1) W.heap.size #[.int .i64 (kx : Int), .int .i64 (ax : Int), .int .i64 (bx : Int)] #[.int .i64 (ky : Int), .int .i64 (ay : Int), .int .i64 (byy : Int)] 59 := by rw [← hW2]; exact (twoNew_a W _ _ _).swap
            | have T : TwoNew W W2 W.heap.size (W.heap.size + 1) #[.int .i64 (kx : Int), .int .i64 (ax : Int), .int .i64 (bx : Int)] #[.int .i64 (ky : Int), .int .i64 (ay : Int), .int .i64 (byy : Int)] 59 := by rw [← hW2]; exact twoNew_a W _ _ _
          clear hW2
          have HB2 : Hid (Below w.heap.size w W2) := HBQ.out.trans (T.bl.mono HBQ.out.size)
          have HH := Lib.hid (HPP.out W2 T.bl)
          have u0' := cell_in T.hu (i := 0) rfl
          have u1' := cell_in T.hu (i := 1) rfl
          have u2' := cell_in T.hu (i := 2) rfl
          have v0' := cell_in T.hv (i := 0) rfl
          have v1' := cell_in T.hv (i := 1) rfl
          have v2' := cell_in T.hv (i := 2) rfl
          clear T HPP
          by_cases h0 : kx = 0
          · have HX := Lib.hid (HKS2.out (folB_zero (by rw [HJ.out, judX_zero h0])))
            have g0 : ((kx : Int) == 0) = true := by simpa using h0
            clear h0
            go_wp2
            exact ⟨⟨k + 1, by omega, by go_num, HX.out, HB2.out⟩, by simp [intOf]; omega⟩
          · have g0 : ((kx : Int) == 0) = false := by simpa using h0
            by_cases h1 : ky = 1
            · have HX := Lib.hid (HKS2.out (folB_zero (by rw [HJ.out, judX_one h1])))
              have g1 : ((ky : Int) == 1) = true := by simpa using (by omega : (ky : Int) = 1)
              clear h0 h1
              go_wp2
              exact ⟨⟨k + 1, by omega, by go_num, HX.out, HB2.out⟩, by simp [intOf]; omega⟩
            · have g1 : ((ky : Int) == 1) = false := by simpa using (by omega : ¬ (ky : Int) = 1)
              by_cases hxy : kx = ky
              · have e2 : ((kx : Int) == (ky : Int)) = true := by simp; omega
                have n2 : ((kx : Int) != (ky : Int)) = false := by simp; omega
                by_cases h4 : kx < 4
                · have HX := Lib.hid (HKS2.out (folB_zero (by rw [HJ.out, judX_leaf h0 h1 hxy (by dsimp only; omega)])))
                  have i9 : (kx : Int) < 4 := by omega
                  clear h0 h1 hxy h4
                  go_wp2
                  exact ⟨⟨k + 1, by omega, by go_num, HX.out, HB2.out⟩, by simp [intOf]; omega⟩
                · have hj2 : jud N (p, q) = 2 := by rw [HJ.out, judX_part h1 hxy (by dsimp only; omega)]
                  have i9 : ¬ (kx : Int) < 4 := by omega
                  rcases hbB : hasQ ps (bx : Int) (byy : Int) with _ | _
                  · have HX := Lib.hid (HNFK.out (fun hi => folB_noB hj2 (fun hm => by
                      rw [HPB.out] at hm
                      have := of_decide_eq_false (p := ((bx : Int), (byy : Int)) ∈ ps) hbB
                      exact this (pt_mem hi hm))))
                    have HC := Lib.hid (HH.out _ _ _ hbB)
                    clear h0 h1 hxy h4 hj2 hbB
                    go_wp2_with (go_at_call 44; refine HC.out.mono ?_; rintro e w1 ⟨rfl, rfl⟩)
                    go_ret
                    exact ⟨bend HX.out, HB2.out⟩
                  · have HC := Lib.hid (HH.out _ _ _ hbB)
                    have HMB : Hid (pB N (p, q) ∈ ps.map ptOf) := by rw [HPB.out]; exact mem_pt (of_decide_eq_true (p := ((bx : Int), (byy : Int)) ∈ ps) hbB)
                    clear hbB
                    by_cases h5 : kx = 5
                    · have g4 : ((kx : Int) == 4) = false := by simpa using (by omega : ¬ (kx : Int) = 4)
                      have g5 : ((kx : Int) == 5) = true := by simpa using (by omega : (kx : Int) = 5)
                      rw [if_pos h5] at HPA
                      rcases hbA : hasQ ps (ay : Int) (ax : Int) with _ | _
                      · have HX := Lib.hid (HNFK.out (fun hi => folB_noA hj2 (fun hm => by
                          rw [HPA.out] at hm
                          have := of_decide_eq_false (p := ((ay : Int), (ax : Int)) ∈ ps) hbA
                          exact this (pt_mem hi hm))))
                        have HC2 := Lib.hid (HH.out _ _ _ hbA)
                        clear h0 h1 hxy h4 h5 hj2 hbA hkk
                        go_wp2_with (first | (go_at_call 44; (with_reducible refine HC.out.mono ?_); rintro e w1 ⟨rfl, rfl⟩) | (go_at_call 44; (with_reducible refine HC2.out.mono ?_); rintro e w1 ⟨rfl, rfl⟩))
                        go_ret
                        exact ⟨bend HX.out, HB2.out⟩
                      · have HX := Lib.hid (HKS2.out (folB_two hj2 (by rw [HPA.out]; exact mem_pt (of_decide_eq_true (p := ((ay : Int), (ax : Int)) ∈ ps) hbA)) HMB.out))
                        have HC2 := Lib.hid (HH.out _ _ _ hbA)
                        clear h0 h1 hxy h4 h5 hj2 hbA hkk
                        go_wp2_with (first | (go_at_call 44; (with_reducible refine HC.out.mono ?_); rintro e w1 ⟨rfl, rfl⟩) | (go_at_call 44; (with_reducible refine HC2.out.mono ?_); rintro e w1 ⟨rfl, rfl⟩))
                        exact ⟨⟨k + 1, by omega, by go_num, HX.out, HB2.out⟩, by simp [intOf]; omega⟩
                    · have g4 : ((kx : Int) == 4) = true := by
                        simpa using (by omega : (kx : Int) = 4)
                      have g5 : ((kx : Int) == 5) = false := by simpa using (by omega : ¬ (kx : Int) = 5)
                      rw [if_neg h5] at HPA
                      rcases hbA : hasQ ps (ax : Int) (ay : Int) with _ | _
                      · have HX := Lib.hid (HNFK.out (fun hi => folB_noA hj2 (fun hm => by
                          rw [HPA.out] at hm
                          have := of_decide_eq_false (p := ((ax : Int), (ay : Int)) ∈ ps) hbA
                          exact this (pt_mem hi hm))))
                        have HC2 := Lib.hid (HH.out _ _ _ hbA)
                        clear h0 h1 hxy h4 h5 hj2 hbA hkk
                        go_wp2_with (first | (go_at_call 44; (with_reducible refine HC.out.mono ?_); rintro e w1 ⟨rfl, rfl⟩) | (go_at_call 44; (with_reducible refine HC2.out.mono ?_); rintro e w1 ⟨rfl, rfl⟩))
                        go_ret
                        exact ⟨bend HX.out, HB2.out⟩
                      · have HX := Lib.hid (HKS2.out (folB_two hj2 (by rw [HPA.out]; exact mem_pt (of_decide_eq_true (p := ((ax : Int), (ay : Int)) ∈ ps) hbA)) HMB.out))
                        have HC2 := Lib.hid (HH.out _ _ _ hbA)
                        clear h0 h1 hxy h4 h5 hj2 hbA hkk
                        go_wp2_with (first | (go_at_call 44; (with_reducible refine HC.out.mono ?_); rintro e w1 ⟨rfl, rfl⟩) | (go_at_call 44; (with_reducible refine HC2.out.mono ?_); rintro e w1 ⟨rfl, rfl⟩))
                        exact ⟨⟨k + 1, by omega, by go_num, HX.out, HB2.out⟩, by simp [intOf]; omega⟩
              · have e2 : ((kx : Int) == (ky : Int)) = false := by simp; omega
                have n2 : ((kx : Int) != (ky : Int)) = true := by simp; omega
                have HX := Lib.hid (HNFK.out (fun _ => folB_one (by rw [HJ.out, judX_ne h0 h1 hxy])))
                clear h0 h1 hxy
                go_wp2
                go_ret
                exact ⟨bend HX.out, HB2.out⟩)
      · have hz : inQ n Z = false := by simpa using hz
        have HX := Lib.hid (HNWK.out hz)
        obtain ⟨z1, z2⟩ := Z
        dsimp only
        have key : z1 < 0 ∨ (¬ z1 < 0 ∧ z1 ≥ (n : Int)) ∨ (¬ z1 < 0 ∧ ¬ z1 ≥ (n : Int) ∧ z2 < 0) ∨ (¬ z1 < 0 ∧ ¬ z1 ≥ (n : Int) ∧ ¬ z2 < 0 ∧ z2 ≥ (n : Int)) := by
          unfold inQ at hz
          have : ¬ (¬ z1 < 0 ∧ ¬ z1 ≥ (n : Int) ∧ ¬ z2 < 0 ∧ ¬ z2 ≥ (n : Int)) := fun h => by
            rw [inB_in h.1 (by omega), inB_in h.2.2.1 (by omega)] at hz
            cases hz
          omega
        clear hz HNWK
        rcases key with h1 | ⟨h1, h2⟩ | ⟨h1, h2, h3⟩ | ⟨h1, h2, h3, h4⟩
        all_goals (
          go_wp2
          go_ret
          exact ⟨bend HX.out, HBQ.out⟩)
    · have hkm2 : k = m := by omega
      subst hkm2
      have i2 : ¬ (k : Int) < (k : Int) := by omega
      have HX := Lib.hid (HYE.out HIN.out)
      clear hlt hk HIN HYE HNW HNF
      by_cases h6 : k ≤ 600
      · have i6 : (k : Int) ≤ 600 := by omega
        rw [decide_eq_true h6] at HX
        go_wp2
        go_ret
        exact ⟨bend HX.out, HBW.out⟩
      · have i6 : ¬ (k : Int) ≤ 600 := by omega
        rw [decide_eq_false h6] at HX
        go_wp2
        go_ret
        exact ⟨bend HX.out, HBW.out⟩
end Go.Proofs.Ytieaolihdbcekaa
