import Derived.Test.YtmbdjjkgjnemiaaT01
import Derived.StillTailTactics
import Derived.Deep.RegionHeldLaw
/- Layer 6: nodes of naturals; judge, parts. -/
namespace Go.Proofs.Ytmbdjjkgjnemiaa
open Go.RowKit
set_option linter.unusedVariables false

/-- The slice A n c holds the nodes N. -/
structure Nl (w : World) (A : Option Addr) (n c : Nat) (N : List Nd) : Prop where
  len : N.length = n
  cap : n ≤ c
  big : n ≤ 9223372036854775807
  rows : ∀ k, k < n → ∃ b off, A = some ⟨b, off, none⟩ ∧ b < w.heap.size ∧ w.cell? ⟨b, off + k * 3, none⟩ = some (.int .i64 ((nd N k).k : Int)) ∧ w.cell? ⟨b, off + k * 3 + 1, none⟩ = some (.int .i64 ((nd N k).a : Int)) ∧ w.cell? ⟨b, off + k * 3 + 2, none⟩ = some (.int .i64 ((nd N k).b : Int))
theorem Nl.below {w w' : World} {A : Option Addr} {n c : Nat} {N : List Nd} {B : Nat} (h : Nl w A n c N) (hb : Below B w w') (hB : w.heap.size ≤ B) : Nl w' A n c N :=
  ⟨h.len, h.cap, h.big, fun k hk => by
    obtain ⟨b, off, e, hlt, h1, h2, h3⟩ := h.rows k hk
    exact ⟨b, off, e, Nat.lt_of_lt_of_le hlt hb.size, (hb.cell (p := ⟨b, off + k * 3, none⟩) (by show b < B; omega)).trans h1, (hb.cell (p := ⟨b, off + k * 3 + 1, none⟩) (by show b < B; omega)).trans h2, (hb.cell (p := ⟨b, off + k * 3 + 2, none⟩) (by show b < B; omega)).trans h3⟩⟩
theorem Nl.two {w : World} {A : Option Addr} {n c : Nat} {N : List Nd} (h : Nl w A n c N) {p q : Nat} (hp : p < n) (hq : q < n) : ∃ b off, A = some ⟨b, off, none⟩ ∧ b < w.heap.size ∧
    (w.cell? ⟨b, off + p * 3, none⟩ = some (.int .i64 ((nd N p).k : Int)) ∧ w.cell? ⟨b, off + p * 3 + 1, none⟩ = some (.int .i64 ((nd N p).a : Int)) ∧ w.cell? ⟨b, off + p * 3 + 2, none⟩ = some (.int .i64 ((nd N p).b : Int))) ∧
    (w.cell? ⟨b, off + q * 3, none⟩ = some (.int .i64 ((nd N q).k : Int)) ∧ w.cell? ⟨b, off + q * 3 + 1, none⟩ = some (.int .i64 ((nd N q).a : Int)) ∧ w.cell? ⟨b, off + q * 3 + 2, none⟩ = some (.int .i64 ((nd N q).b : Int))) := by
  obtain ⟨b, off, e, hlt, h1⟩ := h.rows p hp
  obtain ⟨b', off', e', _, h2⟩ := h.rows q hq
  rw [e] at e'
  injection e' with e'
  injection e' with e1 e2
  subst e1; subst e2
  exact ⟨b, off, e, hlt, h1, h2⟩
theorem judX_zero {x y : Nd} (h : x.k = 0) : judX x y = 0 := if_pos (.inl h)
theorem judX_one {x y : Nd} (h : y.k = 1) : judX x y = 0 := if_pos (.inr h)
theorem judX_ne {x y : Nd} (h0 : x.k ≠ 0) (h1 : y.k ≠ 1) (h : x.k ≠ y.k) : judX x y = 1 := by unfold judX; rw [if_neg (by omega), if_pos h]
theorem judX_part {x y : Nd} (h1 : y.k ≠ 1) (h : x.k = y.k) (h4 : 4 ≤ x.k) : judX x y = 2 := by unfold judX; rw [if_neg (by omega), if_neg (by omega), if_pos h4]
theorem judX_leaf {x y : Nd} (h0 : x.k ≠ 0) (h1 : y.k ≠ 1) (h : x.k = y.k) (h4 : ¬ 4 ≤ x.k) : judX x y = 0 := by unfold judX; rw [if_neg (by omega), if_neg (by omega), if_neg h4]
theorem hasParts_is (x : Ty) (b : Bool) (w : World) (h : hasB' x.k = b) : Calls Try.prog 51 #[tyV x] w fun e w' => e = .returned (.bool b) ∧ Below w.heap.size w w' := h ▸ hasParts_any x w
theorem iendk {k : IntKind} {a b : Int} (h : a = b) : Ending.returned (.int k a) = .returned (.int k b) := by rw [h]
abbrev zTy : Obj := .cells #[.int .i64 0, .int .i64 0, .int .i64 0] 59
theorem cell_2z {W : World} {b i : Nat} {v : Value} (h : W.cell? ⟨b, i, none⟩ = some v) (hb : b < W.heap.size) : (W.alloc (.cells #[.int .i64 0, .int .i64 0, .int .i64 0] 59)).cell? ⟨b, i, none⟩ = some v ∧ ((W.alloc (.cells #[.int .i64 0, .int .i64 0, .int .i64 0] 59)).alloc (.cells #[.int .i64 0, .int .i64 0, .int .i64 0] 59)).cell? ⟨b, i, none⟩ = some v :=
  ⟨(((Below.refl _ W).alloc (Nat.le_refl _) _).cell (p := ⟨b, i, none⟩) hb).trans h, ((((Below.refl W.heap.size W).alloc (Nat.le_refl _) _).alloc (by simp) _).cell (p := ⟨b, i, none⟩) hb).trans h⟩
set_option maxRecDepth 100000 in
set_option maxHeartbeats 3200000 in
theorem judge_any (N : List Nd) (A : Option Addr) (n c p q : Nat) (w : World) (hN : Nl w A n c N) (hok : OkN N) (hp : p < n) (hq : q < n) :
    Calls Try.prog 55 #[.slice A n c, .agg #[.int .i64 (p : Int), .int .i64 (q : Int)]] w fun e w' => e = .returned (.int .i64 (jud N (p, q) : Int)) ∧ Below w.heap.size w w' := by
  have HJ : Hid (jud N (p, q) = judX (nd N p) (nd N q)) := rfl
  have hkp := hok.kind p (by rw [hN.len]; exact hp)
  have hkq := hok.kind q (by rw [hN.len]; exact hq)
  obtain ⟨W, hW⟩ : ∃ W, W = w.alloc (.cells #[.int .i64 (p : Int), .int .i64 (q : Int)] 23) := ⟨_, rfl⟩
  have HB : Hid (Below w.heap.size w W) := by rw [hW]; exact (Below.refl _ w).alloc (Nat.le_refl _) _
  have hbig := hN.big
  obtain ⟨b, off, rfl, hbl, ⟨p0, p1, p2⟩, q0, q1, q2⟩ := (hN.below HB.out (Nat.le_refl _)).two hp hq
  have d0 : W.cell? ⟨w.heap.size, 0, none⟩ = some (.int .i64 (p : Int)) := by rw [hW]; simp
  have d1 : W.cell? ⟨w.heap.size, 1, none⟩ = some (.int .i64 (q : Int)) := by rw [hW]; simp
  have HSZ : Hid (W.heap.size = w.heap.size + 1) := by rw [hW, Hid]; simp
  have hS : w.heap.size < W.heap.size := by rw [HSZ.out]; omega
  have HW := Lib.hid hW
  clear hW hN hok
  rw [HJ.out]
  clear HJ
  generalize nd N p = x at *
  generalize nd N q = y at *
  obtain ⟨k, a, b'⟩ := x
  obtain ⟨l, c', d'⟩ := y
  dsimp only at p0 p1 p2 q0 q1 q2 hkp hkq
  have i1 : (p : Int) < (n : Int) := by omega
  have i2 : (q : Int) < (n : Int) := by omega
  obtain ⟨p01, p02⟩ := cell_2z p0 hbl
  obtain ⟨p11, p12⟩ := cell_2z p1 hbl
  obtain ⟨p21, p22⟩ := cell_2z p2 hbl
  obtain ⟨q01, q02⟩ := cell_2z q0 hbl
  obtain ⟨q11, q12⟩ := cell_2z q1 hbl
  obtain ⟨q21, q22⟩ := cell_2z q2 hbl
  obtain ⟨d01, d02⟩ := cell_2z d0 hS
  obtain ⟨d11, d12⟩ := cell_2z d1 hS
  go_enter Try.func55, Try.ntmps55
  go_wp2
  rw [← HW.out]
  go_region
  all_goals (
    clear p0 p1 p2 q0 q1 q2 d0 d1 p01 p02 p11 p12 p21 p22 q01 q02 q11 q12 q21 q22 d01 d02 d11 d12
    by_cases h0 : k = 0
    · have HX : Hid ((0 : Int) = (judX ⟨k, a, b'⟩ ⟨l, c', d'⟩ : Nat)) := by rw [Hid, judX_zero h0]; rfl
      have g0 : ((k : Int) == 0) = true := by simpa using h0
      clear h0
      go_wp2
      go_ret
      exact ⟨iendk HX.out, ((HB.out.alloc HB.out.size _).alloc (by simp; omega) _).drew⟩
    · have g0 : ((k : Int) == 0) = false := by simpa using h0
      by_cases h1 : l = 1
      · have HX : Hid ((0 : Int) = (judX ⟨k, a, b'⟩ ⟨l, c', d'⟩ : Nat)) := by rw [Hid, judX_one h1]; rfl
        have g1 : ((l : Int) == 1) = true := by simpa using (by omega : (l : Int) = 1)
        clear h0 h1
        go_wp2
        go_ret
        exact ⟨iendk HX.out, ((HB.out.alloc HB.out.size _).alloc (by simp; omega) _).drew⟩
      · have g1 : ((l : Int) == 1) = false := by simpa using (by omega : ¬ (l : Int) = 1)
        by_cases h2 : k = l
        · have g2 : ((k : Int) != (l : Int)) = false := by simp; omega
          by_cases h4 : 4 ≤ k
          · have HX : Hid ((2 : Int) = (judX ⟨k, a, b'⟩ ⟨l, c', d'⟩ : Nat)) := by rw [Hid, judX_part h1 h2 h4]; rfl
            have HHP := Lib.hid (fun W => hasParts_is ⟨k, a, b'⟩ true W (by unfold hasB'; dsimp only; by_cases e : (k : Int) = 4 <;> simp [e] <;> omega))
            clear h0 h1 h2 h4
            go_wp2_with (go_at_call 51; refine (HHP.out _).mono ?_; rintro e w3 ⟨rfl, hb3⟩)
            go_ret
            exact ⟨iendk HX.out, ((HB.out.alloc HB.out.size _).alloc (by simp; omega) _).drew.trans (hb3.mono (by simp; omega))⟩
          · have HX : Hid ((0 : Int) = (judX ⟨k, a, b'⟩ ⟨l, c', d'⟩ : Nat)) := by rw [Hid, judX_leaf h0 h1 h2 h4]; rfl
            have HHP := Lib.hid (fun W => hasParts_is ⟨k, a, b'⟩ false W (by unfold hasB'; dsimp only; rw [decide_eq_false (by omega), decide_eq_false (by omega)]; rfl))
            clear h0 h1 h2 h4
            go_wp2_with (go_at_call 51; refine (HHP.out _).mono ?_; rintro e w3 ⟨rfl, hb3⟩)
            go_ret
            exact ⟨iendk HX.out, ((HB.out.alloc HB.out.size _).alloc (by simp; omega) _).drew.trans (hb3.mono (by simp; omega))⟩
        · have HX : Hid ((1 : Int) = (judX ⟨k, a, b'⟩ ⟨l, c', d'⟩ : Nat)) := by rw [Hid, judX_ne h0 h1 h2]; rfl
          have g2 : ((k : Int) != (l : Int)) = true := by simp; omega
          clear h0 h1 h2
          go_wp2
          go_ret
          exact ⟨iendk HX.out, ((HB.out.alloc HB.out.size _).alloc (by simp; omega) _).drew⟩)
end Go.Proofs.Ytmbdjjkgjnemiaa
/- Layer 6: parts. -/
namespace Go.Proofs.Ytmbdjjkgjnemiaa
open Go.RowKit
set_option linter.unusedVariables false

theorem cell_2p {W : World} {b i : Nat} {v : Value} (h : W.cell? ⟨b, i, none⟩ = some v) (hb : b < W.heap.size) : (∀ o, (W.alloc o).cell? ⟨b, i, none⟩ = some v) ∧ ∀ o o', ((W.alloc o).alloc o').cell? ⟨b, i, none⟩ = some v :=
  ⟨fun o => (((Below.refl _ W).alloc (Nat.le_refl _) _).cell (p := ⟨b, i, none⟩) hb).trans h, fun o o' => ((((Below.refl W.heap.size W).alloc (Nat.le_refl _) _).alloc (by simp) _).cell (p := ⟨b, i, none⟩) hb).trans h⟩
/-- Two new rows behind a draw. -/
structure TwoNew (W W2 : World) (u v : Nat) (xs ys : Array Value) (t : Nat) : Prop where
  bl : Below W.heap.size W W2
  sz : W2.heap.size = W.heap.size + 2
  hu : W2.heap[u]? = some (.cells xs t (0, 0))
  hv : W2.heap[v]? = some (.cells ys t (0, 0))
  lu : W.heap.size ≤ u ∧ u < W2.heap.size
  lv : W.heap.size ≤ v ∧ v < W2.heap.size
theorem twoNew_a (W : World) (xs ys : Array Value) (t : Nat) : TwoNew W ((W.alloc (.cells xs t)).alloc (.cells ys t)).drew W.heap.size (W.heap.size + 1) xs ys t := by
  refine ⟨(((Below.refl _ W).alloc (Nat.le_refl _) _).alloc (by simp) _).drew, by simp, ?_, ?_, ⟨by simp, by simp; omega⟩, ⟨by simp, by simp⟩⟩
  · show ((W.heap.push _).push _)[W.heap.size]? = _
    rw [Array.getElem?_push, if_neg (by simp), Array.getElem?_push, if_pos rfl]
  · show ((W.heap.push _).push _)[W.heap.size + 1]? = _
    rw [Array.getElem?_push, if_pos (by simp)]
theorem TwoNew.swap {W W2 : World} {u v : Nat} {xs ys : Array Value} {t : Nat} (h : TwoNew W W2 u v xs ys t) : TwoNew W W2 v u ys xs t := ⟨h.bl, h.sz, h.hv, h.hu, h.lv, h.lu⟩
theorem cell_in {W : World} {u t i : Nat} {xs : Array Value} {x : Value} (h : W.heap[u]? = some (.cells xs t (0, 0))) (hi : xs[i]? = some x) : W.cell? ⟨u, i, none⟩ = some x := by
  rw [cell_of_row _ _ _ _ _ _ h]; exact hi
theorem row_set {W : World} {g t : Nat} {old : Array Value} (c : Array Value) (h : W.heap[g]? = some (.cells old t (0, 0))) : ∃ W4, W4 = W.setRow g c ∧ W4.heap[g]? = some (.cells c t (0, 0)) ∧ (∀ k, k ≠ g → W4.heap[k]? = W.heap[k]?) ∧ (∀ B, B ≤ g → Below B W W4) :=
  ⟨_, rfl, setRow_heap _ _ _ _ _ _ h, fun k hk => setRow_other _ _ _ _ hk, fun B hB => ⟨rfl, rfl, rfl, by simp [World.setRow], fun k hk => setRow_other _ _ _ _ (by omega)⟩⟩
theorem Try.sizePts : (Try.prog.info? 90).map (·.size) = some 4 := by kernel_rfl
theorem Try.sizePt : (Try.prog.info? 23).map (·.size) = some 2 := by kernel_rfl
theorem ends_pts {a b c d x y z t : Nat} (h1 : a = x) (h2 : b = y) (h3 : c = z) (h4 : d = t) : Ending.returned (.agg #[.int .i64 (a : Int), .int .i64 (b : Int), .int .i64 (c : Int), .int .i64 (d : Int)]) = .returned (.agg #[.int .i64 (x : Int), .int .i64 (y : Int), .int .i64 (z : Int), .int .i64 (t : Int)]) := by rw [h1, h2, h3, h4]
set_option maxRecDepth 100000 in
set_option maxHeartbeats 6400000 in
theorem parts_any (N : List Nd) (A : Option Addr) (n c p q : Nat) (w : World) (hN : Nl w A n c N) (hp : p < n) (hq : q < n) :
    Calls Try.prog 56 #[.slice A n c, .agg #[.int .i64 (p : Int), .int .i64 (q : Int)]] w fun e w' => e = .returned (.agg #[.int .i64 ((pA N (p, q)).1 : Int), .int .i64 ((pA N (p, q)).2 : Int), .int .i64 ((pB N (p, q)).1 : Int), .int .i64 ((pB N (p, q)).2 : Int)]) ∧ Below w.heap.size w w' := by
  obtain ⟨u1, hu1⟩ : ∃ u, u = (pA N (p, q)).1 := ⟨_, rfl⟩
  obtain ⟨u2, hu2⟩ : ∃ u, u = (pA N (p, q)).2 := ⟨_, rfl⟩
  have HU1 : Hid ((nd N p).k = 5 → u1 = (nd N q).a ∧ u2 = (nd N p).a) := fun h => by rw [hu1, hu2]; unfold pA; rw [if_pos h]; exact ⟨rfl, rfl⟩
  have HU2 : Hid ((nd N p).k ≠ 5 → u1 = (nd N p).a ∧ u2 = (nd N q).a) := fun h => by rw [hu1, hu2]; unfold pA; rw [if_neg h]; exact ⟨rfl, rfl⟩
  have e1 : (pB N (p, q)).1 = (nd N p).b := rfl
  have e2 : (pB N (p, q)).2 = (nd N q).b := rfl
  rw [← hu1, ← hu2, e1, e2]
  clear hu1 hu2 e1 e2
  obtain ⟨W, hW⟩ : ∃ W, W = (w.alloc (.cells #[.int .i64 (p : Int), .int .i64 (q : Int)] 23)).alloc (.cells #[.int .i64 0, .int .i64 0, .int .i64 0, .int .i64 0] 90) := ⟨_, rfl⟩
  have HB : Hid (Below w.heap.size w W) := by rw [hW]; exact ((Below.refl _ w).alloc (Nat.le_refl _) _).alloc (by simp) _
  have hbig := hN.big
  obtain ⟨b, off, rfl, hbl, ⟨p0, p1, p2⟩, q0, q1, q2⟩ := (hN.below HB.out (Nat.le_refl _)).two hp hq
  have d0 : W.cell? ⟨w.heap.size, 0, none⟩ = some (.int .i64 (p : Int)) := by rw [hW]; simp
  have d1 : W.cell? ⟨w.heap.size, 1, none⟩ = some (.int .i64 (q : Int)) := by rw [hW]; simp
  have HSZ : Hid (W.heap.size = w.heap.size + 2) := by rw [hW, Hid]; simp
  have hS : w.heap.size < W.heap.size := by rw [HSZ.out]; omega
  have HR : Hid (W.heap[w.heap.size + 1]? = some (Obj.cells #[.int .i64 0, .int .i64 0, .int .i64 0, .int .i64 0] 90 (0, 0))) := by
    rw [hW]
    show ((w.heap.push _).push _)[w.heap.size + 1]? = _
    rw [Array.getElem?_push, if_pos (by simp)]
  have HW := Lib.hid hW
  clear hW hN
  generalize nd N p = x at *
  generalize nd N q = y at *
  obtain ⟨k, a, b'⟩ := x
  obtain ⟨l, c', d'⟩ := y
  dsimp only at p0 p1 p2 q0 q1 q2 HU1 HU2
  have i1 : (p : Int) < (n : Int) := by omega
  have i2 : (q : Int) < (n : Int) := by omega
  obtain ⟨p01, p02⟩ := cell_2z p0 hbl
  obtain ⟨p11, p12⟩ := cell_2z p1 hbl
  obtain ⟨p21, p22⟩ := cell_2z p2 hbl
  obtain ⟨q01, q02⟩ := cell_2z q0 hbl
  obtain ⟨q11, q12⟩ := cell_2z q1 hbl
  obtain ⟨q21, q22⟩ := cell_2z q2 hbl
  obtain ⟨d01, d02⟩ := cell_2z d0 hS
  obtain ⟨d11, d12⟩ := cell_2z d1 hS
  dsimp only
  go_enter Try.func56, Try.ntmps56
  go_wp2
  rw [← HW.out]
  go_region
  all_goals (
    clear p0 p1 p2 q0 q1 q2 d0 d1 p01 p02 p11 p12 p21 p22 q01 q02 q11 q12 q21 q22 d01 d02 d11 d12
    generalize hW2 : World.drew (World.alloc (World.alloc W _) _) = W2
    first
      | have T : TwoNew W W2 (W.heap.size + 1) W.heap.size #[.int .i64 (k : Int), .int .i64 (a : Int), .int .i64 (b' : Int)] #[.int .i64 (l : Int), .int .i64 (c' : Int), .int .i64 (d' : Int)] 59 := by rw [← hW2]; exact (twoNew_a W _ _ _).swap
      | have T : TwoNew W W2 W.heap.size (W.heap.size + 1) #[.int .i64 (k : Int), .int .i64 (a : Int), .int .i64 (b' : Int)] #[.int .i64 (l : Int), .int .i64 (c' : Int), .int .i64 (d' : Int)] 59 := by rw [← hW2]; exact twoNew_a W _ _ _
    clear hW2
    have HT := Lib.hid T
    have u1' := cell_in T.hu (i := 1) rfl
    have u2' := cell_in T.hu (i := 2) rfl
    have v1' := cell_in T.hv (i := 1) rfl
    have v2' := cell_in T.hv (i := 2) rfl
    clear T
    have HK : Hid (∀ W', Below W2.heap.size W2 W' → W'.cell? ⟨W.heap.size, 1, none⟩ = W2.cell? ⟨W.heap.size, 1, none⟩ ∧ W'.cell? ⟨W.heap.size, 2, none⟩ = W2.cell? ⟨W.heap.size, 2, none⟩ ∧ W'.cell? ⟨W.heap.size + 1, 1, none⟩ = W2.cell? ⟨W.heap.size + 1, 1, none⟩ ∧ W'.cell? ⟨W.heap.size + 1, 2, none⟩ = W2.cell? ⟨W.heap.size + 1, 2, none⟩) := fun W' h => ⟨h.cell (by rw [HT.out.sz]; show W.heap.size < _; omega), h.cell (by rw [HT.out.sz]; show W.heap.size < _; omega), h.cell (by rw [HT.out.sz]; show W.heap.size + 1 < _; omega), h.cell (by rw [HT.out.sz]; show W.heap.size + 1 < _; omega)⟩
    rw [u1', u2', v1', v2'] at HK
    go_wp2
    first
      | go_region_held_law (fun W' => W'.cell? ⟨W.heap.size, 1, none⟩ = some (.int .i64 (a : Int)) ∧ W'.cell? ⟨W.heap.size, 2, none⟩ = some (.int .i64 (b' : Int)) ∧ W'.cell? ⟨W.heap.size + 1, 1, none⟩ = some (.int .i64 (c' : Int)) ∧ W'.cell? ⟨W.heap.size + 1, 2, none⟩ = some (.int .i64 (d' : Int))) (first | assumption | exact HK.out _ (Below.refl _ _).drew | exact HK.out _ ((Below.refl _ _).alloc (Nat.le_refl _) _).drew | exact HK.out _ (((Below.refl _ _).alloc (Nat.le_refl _) _).alloc (by simp) _).drew) (fail)
      | go_region_held_law (fun W' => W'.cell? ⟨W.heap.size, 1, none⟩ = some (.int .i64 (c' : Int)) ∧ W'.cell? ⟨W.heap.size, 2, none⟩ = some (.int .i64 (d' : Int)) ∧ W'.cell? ⟨W.heap.size + 1, 1, none⟩ = some (.int .i64 (a : Int)) ∧ W'.cell? ⟨W.heap.size + 1, 2, none⟩ = some (.int .i64 (b' : Int))) (first | assumption | exact HK.out _ (Below.refl _ _).drew | exact HK.out _ ((Below.refl _ _).alloc (Nat.le_refl _) _).drew | exact HK.out _ (((Below.refl _ _).alloc (Nat.le_refl _) _).alloc (by simp) _).drew) (fail))
  all_goals (
    clear u1' u2' v1' v2' HK
    generalize hW3 : World.drew (World.alloc (World.alloc W2 _) _) = W3
    first
      | have T3 : TwoNew W2 W3 (W2.heap.size + 1) W2.heap.size #[.int .i64 (a : Int), .int .i64 (c' : Int)] #[.int .i64 (b' : Int), .int .i64 (d' : Int)] 23 := by rw [← hW3]; exact (twoNew_a W2 _ _ _).swap
      | have T3 : TwoNew W2 W3 W2.heap.size (W2.heap.size + 1) #[.int .i64 (a : Int), .int .i64 (c' : Int)] #[.int .i64 (b' : Int), .int .i64 (d' : Int)] 23 := by rw [← hW3]; exact twoNew_a W2 _ _ _
    clear hW3
    have HT3 := Lib.hid T3
    have hu3 := (T3.bl.block _ HT.out.lu.2).trans HT.out.hu
    have hv3 := (T3.bl.block _ HT.out.lv.2).trans HT.out.hv
    have z0 := cell_in hu3 (i := 0) rfl
    have HR3 : Hid (W3.heap[w.heap.size + 1]? = some (Obj.cells #[.int .i64 0, .int .i64 0, .int .i64 0, .int .i64 0] 90 (0, 0))) := ((HT.out.bl.trans (T3.bl.mono HT.out.bl.size)).block _ (by rw [HSZ.out]; omega)).trans HR.out
    by_cases h5 : k = 5
    · have g5 : ((k : Int) == 5) = true := by simp; omega
      have HU := Lib.hid (HU1.out h5)
      have HU3 := Lib.hid hu3
      have HV3 := Lib.hid hv3
      clear h5 T3 hu3 hv3
      have l0 := cell_in HU3.out (i := 1) rfl
      have l1 := cell_in HV3.out (i := 1) rfl
      have HI2 : Hid ((Try.prog.info? 23).map (·.size) = some (#[Value.int .i64 (c' : Int), Value.int .i64 (a : Int)] : Array Value).size) := Try.sizePt
      have HI4 : Hid ((Try.prog.info? 90).map (·.size) = some (#[Value.int .i64 (c' : Int), Value.int .i64 (a : Int), Value.int .i64 (b' : Int), Value.int .i64 (d' : Int)] : Array Value).size) := Try.sizePts
      obtain ⟨W4, hW4, r1, r2, r3⟩ := row_set #[Value.int .i64 (c' : Int), Value.int .i64 (a : Int)] HT3.out.hu
      have HW4 := Lib.hid hW4
      have x0 := cell_in r1 (i := 0) rfl
      have x1 := cell_in r1 (i := 1) rfl
      have hy := (r2 _ (by omega)).trans HT3.out.hv
      have y0 := cell_in hy (i := 0) rfl
      have y1 := cell_in hy (i := 1) rfl
      have HR4 := Lib.hid ((r2 (w.heap.size + 1) (by have := HSZ.out; have := HT.out.sz; omega)).trans HR3.out)
      have HB4 : Hid (Below w.heap.size w W4) := (HB.out.trans (HT.out.bl.mono HB.out.size)).trans ((HT3.out.bl.mono (by have := HSZ.out; have := HT.out.sz; omega)).trans (r3 _ (by have := HSZ.out; have := HT.out.sz; omega)))
      clear r1 r2 r3 hy hW4
      go_wp2_with (first | (refine wpList_store_row (by rfl) 23 (.tmp 7) (.tmp 36) (by rfl) _ _ (by rfl) (by rfl) 23 _ HT3.out.hu HI2.out (by rfl) (by simp [Value.oneCell']) ?_; rw [← HW4.out]; clear z0 l0 l1) | (refine wpList_store_row (by rfl) 90 (.tmp 4) (.tmp 39) (by rfl) (w.heap.size + 1) _ (by rfl) (by rfl) 90 _ HR4.out HI4.out (by rfl) (by simp [Value.oneCell']) ?_))
      refine bodyPost_ret (results_cell_row (by rfl) _ _ (w.heap.size + 1) 90 _ (0, 0) _ (by rfl) (setRow_heap _ _ _ _ _ _ HR4.out) Try.underlying90 (by rfl) HI4.out) (by rfl) ⟨ends_pts HU.out.1.symm HU.out.2.symm rfl rfl, ?_⟩
      obtain ⟨W5, hW5, _, _, r5⟩ := row_set #[Value.int .i64 (c' : Int), Value.int .i64 (a : Int), Value.int .i64 (b' : Int), Value.int .i64 (d' : Int)] HR4.out
      rw [← hW5]
      exact HB4.out.trans (r5 _ (by omega))
    · have g5 : ((k : Int) == 5) = false := by simp; omega
      have HU := Lib.hid (HU2.out h5)
      have x0 := cell_in T3.hu (i := 0) rfl
      have x1 := cell_in T3.hu (i := 1) rfl
      have y0 := cell_in T3.hv (i := 0) rfl
      have y1 := cell_in T3.hv (i := 1) rfl
      have HI4 : Hid ((Try.prog.info? 90).map (·.size) = some (#[Value.int .i64 (a : Int), Value.int .i64 (c' : Int), Value.int .i64 (b' : Int), Value.int .i64 (d' : Int)] : Array Value).size) := Try.sizePts
      have HB3 : Hid (Below w.heap.size w W3) := (HB.out.trans (HT.out.bl.mono HB.out.size)).trans (HT3.out.bl.mono (by have := HSZ.out; have := HT.out.sz; omega))
      clear h5 T3 hu3 hv3
      go_wp2_with (refine wpList_store_row (by rfl) 90 (.tmp 4) (.tmp 39) (by rfl) (w.heap.size + 1) _ (by rfl) (by rfl) 90 _ HR3.out HI4.out (by rfl) (by simp [Value.oneCell']) ?_)
      refine bodyPost_ret (results_cell_row (by rfl) _ _ (w.heap.size + 1) 90 _ (0, 0) _ (by rfl) (setRow_heap _ _ _ _ _ _ HR3.out) Try.underlying90 (by rfl) HI4.out) (by rfl) ⟨ends_pts HU.out.1.symm HU.out.2.symm rfl rfl, ?_⟩
      obtain ⟨W5, hW5, _, _, r5⟩ := row_set #[Value.int .i64 (a : Int), Value.int .i64 (c' : Int), Value.int .i64 (b' : Int), Value.int .i64 (d' : Int)] HR3.out
      rw [← hW5]
      exact HB3.out.trans (r5 _ (by omega)))
end Go.Proofs.Ytmbdjjkgjnemiaa
