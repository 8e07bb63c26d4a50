import Derived.Test.YtmbdjjkgjnemiaaT21
/- Layer 6: the reference's Types. -/
namespace Go.Proofs.Ytmbdjjkgjnemiaa
open Go.RowKit Go.Maps
set_option linter.unusedVariables false

def typB (zs : List Ty) (most : Nat) : Bool := tysB zs.length zs && (decide (1 ≤ zs.length) && decide (zs.length ≤ most))
theorem typB_val (zs : List Ty) : typB zs 24 = valB zs := by
  unfold typB valB
  cases tysB zs.length zs <;> cases decide (1 ≤ zs.length) <;> cases decide (zs.length ≤ 24) <;> rfl
theorem nodeB_of {n : Nat} {x : Ty} (h0 : 0 ≤ x.k) (h5 : x.k ≤ 5) (h4 : 4 ≤ x.k ∨ (x.a = 0 ∧ x.b = 0)) (ha : 0 ≤ x.a) (ha' : x.a < (n : Int)) (hb : 0 ≤ x.b) (hb' : x.b < (n : Int)) : nodeB n x = true := nodeB_iff.2 (by omega)
theorem nodeB_not {n : Nat} {x : Ty} (h : ¬ (0 ≤ x.k ∧ x.k ≤ 5 ∧ (4 ≤ x.k ∨ (x.a = 0 ∧ x.b = 0)) ∧ 0 ≤ x.a ∧ x.a < (n : Int) ∧ 0 ≤ x.b ∧ x.b < (n : Int))) : nodeB n x = false := by
  rw [Bool.eq_false_iff]
  intro h'
  have := nodeB_iff.1 h'
  omega
set_option maxRecDepth 100000 in
set_option maxHeartbeats 6400000 in
theorem typesR_any (zs : List Ty) (A : Option Addr) (n c most : Nat) (w : World) (hT : Tl w A n c zs) (hm : most ≤ 1000000) :
    Calls Try.prog 33 #[.slice A n c, .int .i64 (most : Int)] w fun e w' => e = .returned (.bool (typB zs most)) ∧ Below w.heap.size w w' := by
  have HL : Hid (zs.length = n) := hT.len
  have hbig := hT.big
  have HT := Lib.hid hT
  have HNO : Hid (∀ k, k < n → nodeB n (tyAt zs k) = false → false = typB zs most) := fun k hk h => by
    have : false = tysB n zs := allB_bad (p := fun j => nodeB n (tyAt zs j)) hk h
    unfold typB
    rw [HL.out, ← this]; rfl
  have HYES : Hid ((∀ k, k < n → nodeB n (tyAt zs k) = true) → (decide (1 ≤ n) && decide (n ≤ most)) = typB zs most) := fun h => by
    have : true = tysB n zs := allB_good (p := fun j => nodeB n (tyAt zs j)) h
    unfold typB
    rw [HL.out, ← this]; simp
  clear hT
  go_enter Try.func33, Try.ntmps33
  go_wp2
  go_loopw [5] (fun i w' => ∃ k : Nat, k ≤ n ∧ i = .int .i64 (k : Int) ∧ Hid (∀ j, j < k → nodeB n (tyAt zs j) = true) ∧ Hid (Below w.heap.size w w')) (fun i _ => n - (intOf i).toNat)
  case atStart => exact ⟨0, by omega, by go_num, fun j hj => absurd hj (Nat.not_lt_zero _), Below.refl _ _⟩
  case round =>
    obtain ⟨k, hk, rfl, HK, HB⟩ := hrel
    obtain ⟨wo, rfl⟩ : ∃ wo : World, wo = wr := ⟨_, rfl⟩
    by_cases hlt : k < n
    · have i1 : (k : Int) < (n : Int) := by omega
      obtain ⟨b, off, rfl, hbl, c0, c1, c2⟩ := (HT.out.below HB.out (Nat.le_refl _)).rows k hlt
      have HNK := Lib.hid (HNO.out k hlt)
      have HKS : Hid (nodeB n (tyAt zs k) = true → ∀ j, j < k + 1 → nodeB n (tyAt zs j) = true) := fun h j hj => by
        by_cases e : j = k
        · rw [e]; exact h
        · exact HK.out j (by omega)
      have HA : Hid (∀ o, Below w.heap.size w (wo.alloc o)) := fun o => HB.out.alloc HB.out.size _
      generalize tyAt zs k = x at *
      obtain ⟨kx, ax, bx⟩ := x
      dsimp only at c0 c1 c2
      have key : kx < 0 ∨ (¬ kx < 0 ∧ kx > 5) ∨ (¬ kx < 0 ∧ ¬ kx > 5 ∧ kx < 4 ∧ ax ≠ 0) ∨ (¬ kx < 0 ∧ ¬ kx > 5 ∧ kx < 4 ∧ ax = 0 ∧ bx ≠ 0) ∨ (¬ kx < 0 ∧ ¬ kx > 5 ∧ kx < 4 ∧ ax = 0 ∧ bx = 0) ∨
          (¬ kx < 0 ∧ ¬ kx > 5 ∧ ¬ kx < 4 ∧ ax < 0) ∨ (¬ kx < 0 ∧ ¬ kx > 5 ∧ ¬ kx < 4 ∧ ¬ ax < 0 ∧ ax ≥ (n : Int)) ∨ (¬ kx < 0 ∧ ¬ kx > 5 ∧ ¬ kx < 4 ∧ ¬ ax < 0 ∧ ¬ ax ≥ (n : Int) ∧ bx < 0) ∨
          (¬ kx < 0 ∧ ¬ kx > 5 ∧ ¬ kx < 4 ∧ ¬ ax < 0 ∧ ¬ ax ≥ (n : Int) ∧ ¬ bx < 0 ∧ bx ≥ (n : Int)) ∨ (¬ kx < 0 ∧ ¬ kx > 5 ∧ ¬ kx < 4 ∧ ¬ ax < 0 ∧ ¬ ax ≥ (n : Int) ∧ ¬ bx < 0 ∧ ¬ bx ≥ (n : Int)) := by omega
      rcases key with h1 | ⟨h1, h2⟩ | ⟨h1, h2, h3, h4⟩ | ⟨h1, h2, h3, h4, h5⟩ | ⟨h1, h2, h3, h4, h5⟩ | ⟨h1, h2, h3, h4⟩ | ⟨h1, h2, h3, h4, h5⟩ | ⟨h1, h2, h3, h4, h5, h6⟩ | ⟨h1, h2, h3, h4, h5, h6, h7⟩ | ⟨h1, h2, h3, h4, h5, h6, h7⟩
      · have HX := Lib.hid (HNK.out (nodeB_not (by dsimp only; omega)))
        go_wp2
        go_ret
        exact ⟨bend HX.out, HA.out _⟩
      · have HX := Lib.hid (HNK.out (nodeB_not (by dsimp only; omega)))
        go_wp2
        go_ret
        exact ⟨bend HX.out, HA.out _⟩
      · have HX := Lib.hid (HNK.out (nodeB_not (by dsimp only; omega)))
        have g4 : (ax != 0) = true := by simpa using h4
        clear h4
        go_wp2
        go_ret
        exact ⟨bend HX.out, HA.out _⟩
      · have HX := Lib.hid (HNK.out (nodeB_not (by dsimp only; omega)))
        have g4 : (ax != 0) = false := by simpa using h4
        have g5 : (bx != 0) = true := by simpa using h5
        clear h4 h5
        go_wp2
        go_ret
        exact ⟨bend HX.out, HA.out _⟩
      · have HX := Lib.hid (HKS.out (nodeB_of (by dsimp only; omega) (by dsimp only; omega) (by dsimp only; omega) (by dsimp only; omega) (by dsimp only; omega) (by dsimp only; omega) (by dsimp only; omega)))
        subst h4 h5
        have i3 : ¬ (0 : Int) ≥ (n : Int) := by omega
        go_wp2
        exact ⟨⟨k + 1, by omega, by go_num, HX.out, HA.out _⟩, by simp [intOf]; omega⟩
      · have HX := Lib.hid (HNK.out (nodeB_not (by dsimp only; omega)))
        go_wp2
        go_ret
        exact ⟨bend HX.out, HA.out _⟩
      · have HX := Lib.hid (HNK.out (nodeB_not (by dsimp only; omega)))
        go_wp2
        go_ret
        exact ⟨bend HX.out, HA.out _⟩
      · have HX := Lib.hid (HNK.out (nodeB_not (by dsimp only; omega)))
        go_wp2
        go_ret
        exact ⟨bend HX.out, HA.out _⟩
      · have HX := Lib.hid (HNK.out (nodeB_not (by dsimp only; omega)))
        go_wp2
        go_ret
        exact ⟨bend HX.out, HA.out _⟩
      · have HX := Lib.hid (HKS.out (nodeB_of (by dsimp only; omega) (by dsimp only; omega) (by dsimp only; omega) (by dsimp only; omega) (by dsimp only; omega) (by dsimp only; omega) (by dsimp only; omega)))
        go_wp2
        exact ⟨⟨k + 1, by omega, by go_num, HX.out, HA.out _⟩, by simp [intOf]; omega⟩
    · have hkn : k = n := by omega
      subst hkn
      have i1 : ¬ (k : Int) < (k : Int) := by omega
      have HX := Lib.hid (HYES.out HK.out)
      clear HK HYES HNO
      by_cases h1 : 1 ≤ k
      · have g1 : (k : Int) ≥ 1 := by omega
        by_cases h2 : k ≤ most
        · have g2 : (k : Int) ≤ (most : Int) := by omega
          rw [decide_eq_true h1, decide_eq_true h2] at HX
          go_wp2
          go_ret
          exact ⟨bend HX.out, HB.out⟩
        · have g2 : ¬ (k : Int) ≤ (most : Int) := by omega
          rw [decide_eq_true h1, decide_eq_false h2] at HX
          go_wp2
          go_ret
          exact ⟨bend HX.out, HB.out⟩
      · have g1 : ¬ (k : Int) ≥ 1 := by omega
        rw [decide_eq_false h1, Bool.false_and] at HX
        go_wp2
        go_ret
        exact ⟨bend HX.out, HB.out⟩
end Go.Proofs.Ytmbdjjkgjnemiaa
/- Layer 6: the law's bad; Check on bad arguments. -/
namespace Go.Proofs.Ytmbdjjkgjnemiaa
open Go.RowKit Go.Maps
set_option linter.unusedVariables false

def badB (zs : List Ty) (i j : Int) : Bool := !(valB zs && (inB zs.length i && inB zs.length j))
set_option maxRecDepth 100000 in
set_option maxHeartbeats 3200000 in
theorem bad_any (zs : List Ty) (A : Option Addr) (n c : Nat) (i j : Int) (w : World) (hT : Tl w A n c zs) :
    Calls Try.prog 17 #[.slice A n c, .int .i64 i, .int .i64 j] w fun e w' => e = .returned (.bool (badB zs i j)) ∧ Below w.heap.size w w' := by
  have HTY : Hid (Calls Try.prog 33 #[.slice A n c, .int .i64 24] w fun e w' => e = .returned (.bool (valB zs)) ∧ Below w.heap.size w w') := by
    have := typesR_any zs A n c 24 w hT (by omega)
    rw [typB_val] at this
    exact this
  have hl := hT.len
  have hbig := hT.big
  have HBD : Hid (badB zs i j = !(valB zs && (inB n i && inB n j))) := by rw [Hid, badB, hl]
  clear hT hl
  rcases hv : valB zs with _ | _
  · rw [hv] at HTY HBD
    clear hv
    have HX : Hid (true = badB zs i j) := by rw [Hid, HBD.out]; rfl
    clear HBD
    go_enter Try.func17, Try.ntmps17
    go_wp2_with (go_at_call 33; refine HTY.out.mono ?_; rintro e w1 ⟨rfl, hb1⟩)
    go_ret
    exact ⟨bend HX.out, hb1⟩
  · rw [hv] at HTY HBD
    clear hv
    have HX : Hid ((decide (i < 0) || decide ((n : Int) ≤ i) || decide (j < 0) || decide ((n : Int) ≤ j)) = badB zs i j) := by
      rw [Hid, HBD.out]
      unfold inB
      by_cases h1 : i < 0 <;> by_cases h2 : (n : Int) ≤ i <;> by_cases h3 : j < 0 <;> by_cases h4 : (n : Int) ≤ j <;> simp [h1, h2, h3, h4] <;> omega
    clear HBD
    go_enter Try.func17, Try.ntmps17
    go_wp2_with (go_at_call 33; refine HTY.out.mono ?_; rintro e w1 ⟨rfl, hb1⟩)
    all_goals (
      go_ret
      exact ⟨bend (by first | exact HX.out | (rw [← HX.out, Bool.eq_iff_iff]; simp; omega) | (rw [← HX.out, Bool.eq_iff_iff]; simp)), hb1⟩)
set_option maxRecDepth 100000 in
set_option maxHeartbeats 3200000 in
theorem check_bad (zs : List Ty) (A : Option Addr) (n c : Nat) (i j : Int) (b : Bool) (X : Option Addr) (m d : Nat) (t : ByteArray) (w : World) (hN : Tl w A n c zs) (h : bad2 zs i j) :
    Calls Try.prog 18 #[.slice A n c, .int .i64 i, .int .i64 j, .agg #[.bool b, .slice X m d, .string t]] w fun e w' => e = .returned (.int .i64 2) ∧ Below w.heap.size w w' := by
  have HV : Hid (∀ W g, Below w.heap.size w W → Sl W (some ⟨g, 0, none⟩) 2 2 [i, j] → Calls Try.prog 40 #[.slice A n c, .slice (some ⟨g, 0, none⟩) 2 2] W fun e w' => e = .returned (.bool false) ∧ Below W.heap.size W w') := fun W g hb hs => valid2 h (hN.below hb (Nat.le_refl _)) hs
  have hA1 : ∀ o, Below w.heap.size w (w.alloc o) := fun o => (Below.refl _ _).alloc (Nat.le_refl _) _
  have HA2 : Hid (∀ o o', Below w.heap.size w ((w.alloc o).alloc o')) := fun o o' => (hA1 o).alloc (by simp) _
  clear hA1 hN h
  go_enter Try.func18, Try.ntmps18
  go_wp2_with (go_at_call 40; refine (HV.out _ _ (HA2.out _ _) (Sl.two_at _ _ _ _ _ (by simp))).mono ?_; rintro e w1 ⟨rfl, hb1⟩; have HB1 := Lib.hid ((HA2.out _ _).trans (hb1.mono (HA2.out _ _).size)))
  go_ret
  exact ⟨rfl, HB1.out⟩
end Go.Proofs.Ytmbdjjkgjnemiaa
