import Derived.Test.YtmbdjjkgjnemiaaT11
/- Layer 6: the walk of LoopsDeep. -/
namespace Go.Proofs.Ytmbdjjkgjnemiaa
open Go.RowKit
set_option linter.unusedVariables false

/-- What Depth answers at a node. -/
def DepV (N : List Nd) (n i : Nat) (v : Nat) (er : Int) : Prop := (er = 0 ∧ v = dep N n i ∧ dep N n i < n) ∨ (er = 6 ∧ v = 0 ∧ dep N n i = n)
theorem depth_out (N : List Nd) (A : Option Addr) (n c i : Nat) (w : World) (hN : Nl w A n c N) (hok : OkN N) (h24 : n ≤ 24) (hi : i < n) : ∃ v er, DepV N n i v er ∧ ∀ W, Below w.heap.size w W →
    Calls Try.prog 31 #[.slice A n c, .int .i64 (i : Int)] W fun e w' => e = .returned (.tuple #[.int .i64 (v : Int), .int .i64 er]) ∧ Below W.heap.size W w' := by
  have hl := hN.len
  have hp : 1 ≤ n := by omega
  have key := fun W (hW : Below w.heap.size w W) => depth_of (upN N) A n c i W ((hN.tl hp).below hW (Nat.le_refl _)) (valB_up hok (by omega)) hi
  rw [toN_up] at key
  have hd := dep_le N n i
  rcases Nat.lt_or_ge (dep N n i) n with h | h
  · refine ⟨dep N n i, 0, .inl ⟨rfl, rfl, h⟩, fun W hW => (key W hW).mono ?_⟩
    rintro e w' ⟨⟨_, rfl⟩ | ⟨h', _⟩, hb⟩
    · exact ⟨rfl, hb⟩
    · omega
  · refine ⟨0, 6, .inr ⟨rfl, rfl, by omega⟩, fun W hW => (key W hW).mono ?_⟩
    rintro e w' ⟨⟨h', _⟩ | ⟨_, rfl⟩, hb⟩
    · omega
    · exact ⟨rfl, hb⟩
theorem equal_is (N : List Nd) (A : Option Addr) (n c i j : Nat) (b : Bool) (w : World) (hN : Nl w A n c N) (hok : OkN N) (h24 : n ≤ 24) (hi : i < n) (hj : j < n) (hb : b = true ↔ EqT N (i, j)) :
    Calls Try.prog 23 #[.slice A n c, .int .i64 (i : Int), .int .i64 (j : Int)] w fun e w' => e = .returned (.tuple #[.bool b, .int .i64 0]) ∧ Below w.heap.size w w' := by
  have hl := hN.len
  refine (equal_any (upN N) A n c i j w (hN.tl (by omega)) (valB_up hok (by omega)) hi hj).mono ?_
  rintro e w' ⟨⟨b', rfl, h'⟩, hbl⟩
  rw [toN_up] at h'
  have : b' = b := by
    rw [Bool.eq_iff_iff]
    exact h'.trans hb.symm
  rw [this]
  exact ⟨rfl, hbl⟩
theorem depV_same {N : List Nd} {n i j v v' : Nat} {e e' : Int} (h : DepV N n i v e) (h' : DepV N n j v' e') (he : EqT N (i, j)) : v = v' ∧ e = e' := by
  have := eqT_dep n i j he
  rcases h with ⟨h1, h2, h3⟩ | ⟨h1, h2, h3⟩ <;> rcases h' with ⟨k1, k2, k3⟩ | ⟨k1, k2, k3⟩ <;> omega
/-- The four kinds of answers at a node and its parts. -/
theorem deep_cases {N : List Nd} {n i : Nat} (hok : OkN N) (hn : N.length = n) (hi : i < n) {v v3 v4 : Nat} {e e3 e4 : Int} (h : DepV N n i v e) (h3 : DepV N n (nd N i).a v3 e3) (h4 : DepV N n (nd N i).b v4 e4) :
    ((nd N i).k < 4 ∧ e = 0 ∧ v = 0) ∨ (4 ≤ (nd N i).k ∧ e = 0 ∧ e3 = 0 ∧ e4 = 0 ∧ v < n ∧ v3 < v4 ∧ v = 1 + v4) ∨ (4 ≤ (nd N i).k ∧ e = 0 ∧ e3 = 0 ∧ e4 = 0 ∧ v < n ∧ ¬ v3 < v4 ∧ v = 1 + v3) ∨ (4 ≤ (nd N i).k ∧ e = 6 ∧ e3 = 6) ∨ (4 ≤ (nd N i).k ∧ e = 6 ∧ e3 = 0 ∧ e4 = 6) := by
  by_cases hk : 4 ≤ (nd N i).k
  · have hp := dep_part hk n
    rcases h with ⟨h1, h2, hf⟩ | ⟨h1, h2, hf⟩
    · have h6 := dep_fin hf 1
      rw [hp] at h6
      rcases h3 with ⟨a1, a2, a3⟩ | ⟨a1, a2, a3⟩
      · rcases h4 with ⟨b1, b2, b3⟩ | ⟨b1, b2, b3⟩
        · by_cases hl : v3 < v4
          · exact .inr (.inl ⟨hk, h1, a1, b1, by omega, hl, by omega⟩)
          · exact .inr (.inr (.inl ⟨hk, h1, a1, b1, by omega, hl, by omega⟩))
        · omega
      · omega
    · have h6 := dep_inf hok (i := i) (by rw [hn]; exact hi) (by rw [hn]; exact hf) 1
      rw [hn, hp] at h6
      have la := dep_le N n (nd N i).a
      have lb := dep_le N n (nd N i).b
      rcases h3 with ⟨a1, a2, a3⟩ | ⟨a1, a2, a3⟩
      · rcases h4 with ⟨b1, b2, b3⟩ | ⟨b1, b2, b3⟩
        · omega
        · exact .inr (.inr (.inr (.inr ⟨hk, h1, a1, b1⟩)))
      · exact .inr (.inr (.inr (.inl ⟨hk, h1, a1⟩)))
  · left
    have hz := dep_leaf hk n
    rcases h with ⟨h1, h2, hf⟩ | ⟨h1, h2, hf⟩
    · exact ⟨by omega, h1, by omega⟩
    · omega
theorem wr_small {x : Nat} (h : x ≤ 24) : IntKind.i64.wrap (1 + (x : Int)) = 1 + (x : Int) ∧ wrap64 (1 + (x : Int)) = 1 + (x : Int) := ⟨IntWalk.i64_in _ (by omega), IntWalk.wrap64_in _ ⟨by omega, by omega⟩⟩
set_option maxRecDepth 100000 in
set_option maxHeartbeats 6400000 in
theorem deep_walk (zs : List Ty) (A : Option Addr) (len cap : Nat) (x0 x1 : Int) (w : World) (hT : Tl w A len cap zs) :
    Calls Try.prog 13 #[.slice A len cap, .agg #[.int .i64 x0, .int .i64 x1]] w fun e w' => e = .returned (.bool true) ∧ Below w.heap.size w w' := by
  obtain ⟨W, hW⟩ : ∃ W, W = w.alloc (.cells #[.int .i64 x0, .int .i64 x1] 23) := ⟨_, rfl⟩
  have hb : Below w.heap.size w W := by rw [hW]; exact (Below.refl _ w).alloc (Nat.le_refl _) _
  have hbx : W.heap[w.heap.size]? = some (.cells #[.int .i64 x0, .int .i64 x1] 23 (0, 0)) := by rw [hW]; exact heap_alloc_new _ _
  have hsz : w.heap.size < W.heap.size := by rw [hW]; simp
  have HTM : Hid (Calls Try.prog 36 #[.slice A len cap, .int .i64 16] W fun e w' => (∃ B n c N, e = .returned (.slice B n c) ∧ 1 ≤ n ∧ n ≤ 16 ∧ OkN N ∧ Nl w' B n c N ∧ Ow3 w' W.heap.size (.slice B n c) N) ∧ Below W.heap.size W w') := tame_any zs A len cap 16 W (hT.below hb (Nat.le_refl _)) (by omega) (by omega)
  have HB := Lib.hid hb
  have HBX := Lib.hid hbx
  have HW := Lib.hid hW
  clear hW hb hbx hT
  go_enter Try.func13, Try.ntmps13
  go_wp2_with (go_at_call 36; rw [← HW.out]; refine HTM.out.mono ?_; rintro e w1 ⟨⟨B, n, c, N, rfl, hn1, hn2, hok, hnl, ho⟩, hb1⟩)
  have hbx1 := (hb1.block _ hsz).trans HBX.out
  have k0 := cell_in hbx1 (i := 0) rfl
  have k1 := cell_in hbx1 (i := 1) rfl
  obtain ⟨p, hp, hmp⟩ := mod_is x0 n hn1 (by omega)
  obtain ⟨q, hq, hmq⟩ := mod_is x1 n hn1 (by omega)
  have HM1 := Lib.hid hmp
  have HM2 := Lib.hid hmq
  have HB1 := Lib.hid (HB.out.trans (hb1.mono HB.out.size))
  have HOK := Lib.hid hok
  have HNL := Lib.hid hnl
  clear hmp hmq hb1 hok hnl ho hbx1
  go_quiet (first | (go_at_call 37; (with_reducible exact quiet_same (HM1.out _))) | (go_at_call 37; (with_reducible exact quiet_same (HM2.out _))))
  have HBQ : Hid (Below w1.heap.size w1 (w1.drewN nq)) := below_dn (Below.refl _ _) _
  have HZQ : Hid ((w1.drewN nq).heap.size = w1.heap.size) := rfl
  generalize w1.drewN nq = w2 at *
  have HKEEP : Hid (∀ W, Below w1.heap.size w1 W → Nl W B n c N) := fun W hW => HNL.out.below hW (Nat.le_refl _)
  have hln := HNL.out.len
  obtain ⟨v1, e1, hv1, hd1⟩ := depth_out N B n c p w1 HNL.out HOK.out (by omega) hp
  obtain ⟨v2, e2, hv2, hd2⟩ := depth_out N B n c q w1 HNL.out HOK.out (by omega) hq
  have hpa := HOK.out.a p (by omega)
  have hpb := HOK.out.b p (by omega)
  rw [hln] at hpa hpb
  obtain ⟨v3, e3, hv3, hd3⟩ := depth_out N B n c (nd N p).a w1 HNL.out HOK.out (by omega) hpa
  obtain ⟨v4, e4, hv4, hd4⟩ := depth_out N B n c (nd N p).b w1 HNL.out HOK.out (by omega) hpb
  have hcs := deep_cases HOK.out hln hp hv1 hv3 hv4
  have HSAME : Hid (EqT N (p, q) → v1 = v2 ∧ e1 = e2) := fun h => depV_same hv1 hv2 h
  have HEQ : Hid (∀ b W, (b = true ↔ EqT N (p, q)) → Below w1.heap.size w1 W → Calls Try.prog 23 #[.slice B n c, .int .i64 (p : Int), .int .i64 (q : Int)] W fun e w' => e = .returned (.tuple #[.bool b, .int .i64 0]) ∧ Below W.heap.size W w') := fun b W hb hW => equal_is N B n c p q b W (HNL.out.below hW (Nat.le_refl _)) HOK.out (by omega) hp hq hb
  have HE2 : Hid (e2 = 0 ∨ e2 = 6) := hv2.elim (fun h => .inl h.1) (fun h => .inr h.1)
  have HV4 : Hid (v3 ≤ 24 ∧ v4 ≤ 24) := by
    have a := dep_le N n (nd N p).a
    have b := dep_le N n (nd N p).b
    rcases hv3 with ⟨_, h3, _⟩ | ⟨_, h3, _⟩ <;> rcases hv4 with ⟨_, h4, _⟩ | ⟨_, h4, _⟩ <;> exact ⟨by omega, by omega⟩
  have HCELL : Hid (∀ W, Below w1.heap.size w1 W → ∃ b off, B = some ⟨b, off, none⟩ ∧ W.cell? ⟨b, off + p * 3, none⟩ = some (.int .i64 ((nd N p).k : Int)) ∧ W.cell? ⟨b, off + p * 3 + 1, none⟩ = some (.int .i64 ((nd N p).a : Int)) ∧ W.cell? ⟨b, off + p * 3 + 2, none⟩ = some (.int .i64 ((nd N p).b : Int))) := fun W hW => by
    obtain ⟨b, off, e, _, h1, h2, h3⟩ := (HKEEP.out W hW).rows p hp
    exact ⟨b, off, e, h1, h2, h3⟩
  have HD1 := Lib.hid hd1
  have HD2 := Lib.hid hd2
  have HD3 := Lib.hid hd3
  have HD4 := Lib.hid hd4
  have HAW := Lib.hid (fun W => awake_here W)
  obtain ⟨b, off, rfl, _, _, _⟩ := HCELL.out w1 (Below.refl _ _)
  have HCL : Hid (∀ W, Below w1.heap.size w1 W → W.cell? ⟨b, off + p * 3, none⟩ = some (.int .i64 ((nd N p).k : Int)) ∧ W.cell? ⟨b, off + p * 3 + 1, none⟩ = some (.int .i64 ((nd N p).a : Int)) ∧ W.cell? ⟨b, off + p * 3 + 2, none⟩ = some (.int .i64 ((nd N p).b : Int))) := fun W hW => by
    obtain ⟨b', off', e, h⟩ := HCELL.out W hW
    injection e with e
    injection e with g1 g2
    subst g1; subst g2
    exact h
  have i1 : (p : Int) < (n : Int) := by omega
  clear hv1 hv2 hv3 hv4 hd1 hd2 hd3 hd4 HNL HKEEP HM1 HM2 HTM HCELL k0 k1
  generalize hndp : nd N p = nx at *
  obtain ⟨kk, pa, pb⟩ := nx
  dsimp only at hcs HCL HD3 HD4
  have HND := Lib.hid hndp
  clear hndp hpa hpb
  by_cases hq2 : EqT N (p, q)
  · have HEV : Hid (∀ W, Below w1.heap.size w1 W → Calls Try.prog 23 #[.slice (some ⟨b, off, none⟩) n c, .int .i64 (p : Int), .int .i64 (q : Int)] W fun e w' => e = .returned (.tuple #[.bool true, .int .i64 0]) ∧ Below W.heap.size W w') := fun W hW => HEQ.out true W ⟨fun _ => hq2, fun _ => rfl⟩ hW
    obtain ⟨rfl, rfl⟩ := HSAME.out hq2
    have s1 : ((v1 : Int) != (v1 : Int)) = false := by simp
    clear hq2 HSAME HEQ HE2
    have hv34 := HV4.out
    rcases hcs with ⟨c1, rfl, rfl⟩ | ⟨c1, rfl, rfl, rfl, c2, c3, rfl⟩ | ⟨c1, rfl, rfl, rfl, c2, c3, rfl⟩ | ⟨c1, rfl, rfl⟩ | ⟨c1, rfl, rfl, rfl⟩
    · have c4 : (kk : Int) < 4 := by omega
      go_wp2_with (first
        | (go_at_call 31; (with_reducible refine (HD1.out _ HBQ.out).mono ?_); rintro e w3 ⟨rfl, hb3⟩; have HB3 := Lib.hid (HBQ.out.trans (hb3.mono HBQ.out.size)); clear hb3)
        | (go_at_call 31; (with_reducible refine (HD2.out _ HB3.out).mono ?_); rintro e w4 ⟨rfl, hb4⟩; have HB4 := Lib.hid (HB3.out.trans (hb4.mono HB3.out.size)); clear hb4)
        | (go_at_call 23; refine (HEV.out _ HB4.out).mono ?_; rintro e w5 ⟨rfl, hb5⟩; have HB5 := Lib.hid (HB4.out.trans (hb5.mono HB4.out.size)); clear hb5; obtain ⟨m0, m1, m2⟩ := HCL.out _ HB5.out)
        | (go_at_call 19; refine (HAW.out _).mono ?_; rintro e w8 ⟨rfl, hb8⟩))
      go_ret
      exact ⟨rfl, HB1.out.trans ((HB5.out.trans (hb8.mono HB5.out.size)).mono HB1.out.size)⟩
    · have c4 : ¬ (kk : Int) < 4 := by omega
      have c5 : (v3 : Int) < (v4 : Int) := by omega
      have c8 : (((1 + v4 : Nat) : Int) == 1 + (v4 : Int)) = true := by simp
      have c9 : ((1 + v4 : Nat) : Int) < (n : Int) := by omega
      obtain ⟨c6, c7⟩ := wr_small hv34.2
      go_wp2_with (first
        | (go_at_call 31; (with_reducible refine (HD1.out _ HBQ.out).mono ?_); rintro e w3 ⟨rfl, hb3⟩; have HB3 := Lib.hid (HBQ.out.trans (hb3.mono HBQ.out.size)); clear hb3)
        | (go_at_call 31; (with_reducible refine (HD2.out _ HB3.out).mono ?_); rintro e w4 ⟨rfl, hb4⟩; have HB4 := Lib.hid (HB3.out.trans (hb4.mono HB3.out.size)); clear hb4)
        | (go_at_call 23; refine (HEV.out _ HB4.out).mono ?_; rintro e w5 ⟨rfl, hb5⟩; have HB5 := Lib.hid (HB4.out.trans (hb5.mono HB4.out.size)); clear hb5; obtain ⟨m0, m1, m2⟩ := HCL.out _ HB5.out)
        | (go_at_call 31; (with_reducible refine (HD3.out _ HB5.out).mono ?_); rintro e w6 ⟨rfl, hb6⟩; have HB6 := Lib.hid (HB5.out.trans (hb6.mono HB5.out.size)); clear hb6 m0 m1 m2; obtain ⟨m0, m1, m2⟩ := HCL.out _ HB6.out)
        | (go_at_call 31; (with_reducible refine (HD4.out _ HB6.out).mono ?_); rintro e w7 ⟨rfl, hb7⟩; have HB7 := Lib.hid (HB6.out.trans (hb7.mono HB6.out.size)); clear hb7)
        | (go_at_call 19; refine (HAW.out _).mono ?_; rintro e w8 ⟨rfl, hb8⟩))
      go_ret
      exact ⟨rfl, HB1.out.trans ((HB7.out.trans (hb8.mono HB7.out.size)).mono HB1.out.size)⟩
    · have c4 : ¬ (kk : Int) < 4 := by omega
      have c5 : ¬ (v3 : Int) < (v4 : Int) := by omega
      have c8 : (((1 + v3 : Nat) : Int) == 1 + (v3 : Int)) = true := by simp
      have c9 : ((1 + v3 : Nat) : Int) < (n : Int) := by omega
      obtain ⟨c6, c7⟩ := wr_small hv34.1
      go_wp2_with (first
        | (go_at_call 31; (with_reducible refine (HD1.out _ HBQ.out).mono ?_); rintro e w3 ⟨rfl, hb3⟩; have HB3 := Lib.hid (HBQ.out.trans (hb3.mono HBQ.out.size)); clear hb3)
        | (go_at_call 31; (with_reducible refine (HD2.out _ HB3.out).mono ?_); rintro e w4 ⟨rfl, hb4⟩; have HB4 := Lib.hid (HB3.out.trans (hb4.mono HB3.out.size)); clear hb4)
        | (go_at_call 23; refine (HEV.out _ HB4.out).mono ?_; rintro e w5 ⟨rfl, hb5⟩; have HB5 := Lib.hid (HB4.out.trans (hb5.mono HB4.out.size)); clear hb5; obtain ⟨m0, m1, m2⟩ := HCL.out _ HB5.out)
        | (go_at_call 31; (with_reducible refine (HD3.out _ HB5.out).mono ?_); rintro e w6 ⟨rfl, hb6⟩; have HB6 := Lib.hid (HB5.out.trans (hb6.mono HB5.out.size)); clear hb6 m0 m1 m2; obtain ⟨m0, m1, m2⟩ := HCL.out _ HB6.out)
        | (go_at_call 31; (with_reducible refine (HD4.out _ HB6.out).mono ?_); rintro e w7 ⟨rfl, hb7⟩; have HB7 := Lib.hid (HB6.out.trans (hb7.mono HB6.out.size)); clear hb7)
        | (go_at_call 19; refine (HAW.out _).mono ?_; rintro e w8 ⟨rfl, hb8⟩))
      go_ret
      exact ⟨rfl, HB1.out.trans ((HB7.out.trans (hb8.mono HB7.out.size)).mono HB1.out.size)⟩
    · have c4 : ¬ (kk : Int) < 4 := by omega
      go_wp2_with (first
        | (go_at_call 31; (with_reducible refine (HD1.out _ HBQ.out).mono ?_); rintro e w3 ⟨rfl, hb3⟩; have HB3 := Lib.hid (HBQ.out.trans (hb3.mono HBQ.out.size)); clear hb3)
        | (go_at_call 31; (with_reducible refine (HD2.out _ HB3.out).mono ?_); rintro e w4 ⟨rfl, hb4⟩; have HB4 := Lib.hid (HB3.out.trans (hb4.mono HB3.out.size)); clear hb4)
        | (go_at_call 23; refine (HEV.out _ HB4.out).mono ?_; rintro e w5 ⟨rfl, hb5⟩; have HB5 := Lib.hid (HB4.out.trans (hb5.mono HB4.out.size)); clear hb5; obtain ⟨m0, m1, m2⟩ := HCL.out _ HB5.out)
        | (go_at_call 31; (with_reducible refine (HD3.out _ HB5.out).mono ?_); rintro e w6 ⟨rfl, hb6⟩; have HB6 := Lib.hid (HB5.out.trans (hb6.mono HB5.out.size)); clear hb6 m0 m1 m2; obtain ⟨m0, m1, m2⟩ := HCL.out _ HB6.out)
        | (go_at_call 31; (with_reducible refine (HD4.out _ HB6.out).mono ?_); rintro e w7 ⟨rfl, hb7⟩; have HB7 := Lib.hid (HB6.out.trans (hb7.mono HB6.out.size)); clear hb7)
        | (go_at_call 19; refine (HAW.out _).mono ?_; rintro e w8 ⟨rfl, hb8⟩))
      go_ret
      exact ⟨rfl, HB1.out.trans ((HB7.out.trans (hb8.mono HB7.out.size)).mono HB1.out.size)⟩
    · have c4 : ¬ (kk : Int) < 4 := by omega
      go_wp2_with (first
        | (go_at_call 31; (with_reducible refine (HD1.out _ HBQ.out).mono ?_); rintro e w3 ⟨rfl, hb3⟩; have HB3 := Lib.hid (HBQ.out.trans (hb3.mono HBQ.out.size)); clear hb3)
        | (go_at_call 31; (with_reducible refine (HD2.out _ HB3.out).mono ?_); rintro e w4 ⟨rfl, hb4⟩; have HB4 := Lib.hid (HB3.out.trans (hb4.mono HB3.out.size)); clear hb4)
        | (go_at_call 23; refine (HEV.out _ HB4.out).mono ?_; rintro e w5 ⟨rfl, hb5⟩; have HB5 := Lib.hid (HB4.out.trans (hb5.mono HB4.out.size)); clear hb5; obtain ⟨m0, m1, m2⟩ := HCL.out _ HB5.out)
        | (go_at_call 31; (with_reducible refine (HD3.out _ HB5.out).mono ?_); rintro e w6 ⟨rfl, hb6⟩; have HB6 := Lib.hid (HB5.out.trans (hb6.mono HB5.out.size)); clear hb6 m0 m1 m2; obtain ⟨m0, m1, m2⟩ := HCL.out _ HB6.out)
        | (go_at_call 31; (with_reducible refine (HD4.out _ HB6.out).mono ?_); rintro e w7 ⟨rfl, hb7⟩; have HB7 := Lib.hid (HB6.out.trans (hb7.mono HB6.out.size)); clear hb7)
        | (go_at_call 19; refine (HAW.out _).mono ?_; rintro e w8 ⟨rfl, hb8⟩))
      go_ret
      exact ⟨rfl, HB1.out.trans ((HB7.out.trans (hb8.mono HB7.out.size)).mono HB1.out.size)⟩
  · have HEV : Hid (∀ W, Below w1.heap.size w1 W → Calls Try.prog 23 #[.slice (some ⟨b, off, none⟩) n c, .int .i64 (p : Int), .int .i64 (q : Int)] W fun e w' => e = .returned (.tuple #[.bool false, .int .i64 0]) ∧ Below W.heap.size W w') := fun W hW => HEQ.out false W ⟨fun h => (by cases h), fun h => absurd h hq2⟩ hW
    clear hq2 HSAME HEQ HE2
    have hv34 := HV4.out
    rcases hcs with ⟨c1, rfl, rfl⟩ | ⟨c1, rfl, rfl, rfl, c2, c3, rfl⟩ | ⟨c1, rfl, rfl, rfl, c2, c3, rfl⟩ | ⟨c1, rfl, rfl⟩ | ⟨c1, rfl, rfl, rfl⟩
    · have c4 : (kk : Int) < 4 := by omega
      go_wp2_with (first
        | (go_at_call 31; (with_reducible refine (HD1.out _ HBQ.out).mono ?_); rintro e w3 ⟨rfl, hb3⟩; have HB3 := Lib.hid (HBQ.out.trans (hb3.mono HBQ.out.size)); clear hb3)
        | (go_at_call 31; (with_reducible refine (HD2.out _ HB3.out).mono ?_); rintro e w4 ⟨rfl, hb4⟩; have HB4 := Lib.hid (HB3.out.trans (hb4.mono HB3.out.size)); clear hb4)
        | (go_at_call 23; refine (HEV.out _ HB4.out).mono ?_; rintro e w5 ⟨rfl, hb5⟩; have HB5 := Lib.hid (HB4.out.trans (hb5.mono HB4.out.size)); clear hb5; obtain ⟨m0, m1, m2⟩ := HCL.out _ HB5.out)
        | (go_at_call 19; refine (HAW.out _).mono ?_; rintro e w8 ⟨rfl, hb8⟩))
      go_ret
      exact ⟨rfl, HB1.out.trans ((HB5.out.trans (hb8.mono HB5.out.size)).mono HB1.out.size)⟩
    · have c4 : ¬ (kk : Int) < 4 := by omega
      have c5 : (v3 : Int) < (v4 : Int) := by omega
      have c8 : (((1 + v4 : Nat) : Int) == 1 + (v4 : Int)) = true := by simp
      have c9 : ((1 + v4 : Nat) : Int) < (n : Int) := by omega
      obtain ⟨c6, c7⟩ := wr_small hv34.2
      go_wp2_with (first
        | (go_at_call 31; (with_reducible refine (HD1.out _ HBQ.out).mono ?_); rintro e w3 ⟨rfl, hb3⟩; have HB3 := Lib.hid (HBQ.out.trans (hb3.mono HBQ.out.size)); clear hb3)
        | (go_at_call 31; (with_reducible refine (HD2.out _ HB3.out).mono ?_); rintro e w4 ⟨rfl, hb4⟩; have HB4 := Lib.hid (HB3.out.trans (hb4.mono HB3.out.size)); clear hb4)
        | (go_at_call 23; refine (HEV.out _ HB4.out).mono ?_; rintro e w5 ⟨rfl, hb5⟩; have HB5 := Lib.hid (HB4.out.trans (hb5.mono HB4.out.size)); clear hb5; obtain ⟨m0, m1, m2⟩ := HCL.out _ HB5.out)
        | (go_at_call 31; (with_reducible refine (HD3.out _ HB5.out).mono ?_); rintro e w6 ⟨rfl, hb6⟩; have HB6 := Lib.hid (HB5.out.trans (hb6.mono HB5.out.size)); clear hb6 m0 m1 m2; obtain ⟨m0, m1, m2⟩ := HCL.out _ HB6.out)
        | (go_at_call 31; (with_reducible refine (HD4.out _ HB6.out).mono ?_); rintro e w7 ⟨rfl, hb7⟩; have HB7 := Lib.hid (HB6.out.trans (hb7.mono HB6.out.size)); clear hb7)
        | (go_at_call 19; refine (HAW.out _).mono ?_; rintro e w8 ⟨rfl, hb8⟩))
      go_ret
      exact ⟨rfl, HB1.out.trans ((HB7.out.trans (hb8.mono HB7.out.size)).mono HB1.out.size)⟩
    · have c4 : ¬ (kk : Int) < 4 := by omega
      have c5 : ¬ (v3 : Int) < (v4 : Int) := by omega
      have c8 : (((1 + v3 : Nat) : Int) == 1 + (v3 : Int)) = true := by simp
      have c9 : ((1 + v3 : Nat) : Int) < (n : Int) := by omega
      obtain ⟨c6, c7⟩ := wr_small hv34.1
      go_wp2_with (first
        | (go_at_call 31; (with_reducible refine (HD1.out _ HBQ.out).mono ?_); rintro e w3 ⟨rfl, hb3⟩; have HB3 := Lib.hid (HBQ.out.trans (hb3.mono HBQ.out.size)); clear hb3)
        | (go_at_call 31; (with_reducible refine (HD2.out _ HB3.out).mono ?_); rintro e w4 ⟨rfl, hb4⟩; have HB4 := Lib.hid (HB3.out.trans (hb4.mono HB3.out.size)); clear hb4)
        | (go_at_call 23; refine (HEV.out _ HB4.out).mono ?_; rintro e w5 ⟨rfl, hb5⟩; have HB5 := Lib.hid (HB4.out.trans (hb5.mono HB4.out.size)); clear hb5; obtain ⟨m0, m1, m2⟩ := HCL.out _ HB5.out)
        | (go_at_call 31; (with_reducible refine (HD3.out _ HB5.out).mono ?_); rintro e w6 ⟨rfl, hb6⟩; have HB6 := Lib.hid (HB5.out.trans (hb6.mono HB5.out.size)); clear hb6 m0 m1 m2; obtain ⟨m0, m1, m2⟩ := HCL.out _ HB6.out)
        | (go_at_call 31; (with_reducible refine (HD4.out _ HB6.out).mono ?_); rintro e w7 ⟨rfl, hb7⟩; have HB7 := Lib.hid (HB6.out.trans (hb7.mono HB6.out.size)); clear hb7)
        | (go_at_call 19; refine (HAW.out _).mono ?_; rintro e w8 ⟨rfl, hb8⟩))
      go_ret
      exact ⟨rfl, HB1.out.trans ((HB7.out.trans (hb8.mono HB7.out.size)).mono HB1.out.size)⟩
    · have c4 : ¬ (kk : Int) < 4 := by omega
      go_wp2_with (first
        | (go_at_call 31; (with_reducible refine (HD1.out _ HBQ.out).mono ?_); rintro e w3 ⟨rfl, hb3⟩; have HB3 := Lib.hid (HBQ.out.trans (hb3.mono HBQ.out.size)); clear hb3)
        | (go_at_call 31; (with_reducible refine (HD2.out _ HB3.out).mono ?_); rintro e w4 ⟨rfl, hb4⟩; have HB4 := Lib.hid (HB3.out.trans (hb4.mono HB3.out.size)); clear hb4)
        | (go_at_call 23; refine (HEV.out _ HB4.out).mono ?_; rintro e w5 ⟨rfl, hb5⟩; have HB5 := Lib.hid (HB4.out.trans (hb5.mono HB4.out.size)); clear hb5; obtain ⟨m0, m1, m2⟩ := HCL.out _ HB5.out)
        | (go_at_call 31; (with_reducible refine (HD3.out _ HB5.out).mono ?_); rintro e w6 ⟨rfl, hb6⟩; have HB6 := Lib.hid (HB5.out.trans (hb6.mono HB5.out.size)); clear hb6 m0 m1 m2; obtain ⟨m0, m1, m2⟩ := HCL.out _ HB6.out)
        | (go_at_call 31; (with_reducible refine (HD4.out _ HB6.out).mono ?_); rintro e w7 ⟨rfl, hb7⟩; have HB7 := Lib.hid (HB6.out.trans (hb7.mono HB6.out.size)); clear hb7)
        | (go_at_call 19; refine (HAW.out _).mono ?_; rintro e w8 ⟨rfl, hb8⟩))
      go_ret
      exact ⟨rfl, HB1.out.trans ((HB7.out.trans (hb8.mono HB7.out.size)).mono HB1.out.size)⟩
    · have c4 : ¬ (kk : Int) < 4 := by omega
      go_wp2_with (first
        | (go_at_call 31; (with_reducible refine (HD1.out _ HBQ.out).mono ?_); rintro e w3 ⟨rfl, hb3⟩; have HB3 := Lib.hid (HBQ.out.trans (hb3.mono HBQ.out.size)); clear hb3)
        | (go_at_call 31; (with_reducible refine (HD2.out _ HB3.out).mono ?_); rintro e w4 ⟨rfl, hb4⟩; have HB4 := Lib.hid (HB3.out.trans (hb4.mono HB3.out.size)); clear hb4)
        | (go_at_call 23; refine (HEV.out _ HB4.out).mono ?_; rintro e w5 ⟨rfl, hb5⟩; have HB5 := Lib.hid (HB4.out.trans (hb5.mono HB4.out.size)); clear hb5; obtain ⟨m0, m1, m2⟩ := HCL.out _ HB5.out)
        | (go_at_call 31; (with_reducible refine (HD3.out _ HB5.out).mono ?_); rintro e w6 ⟨rfl, hb6⟩; have HB6 := Lib.hid (HB5.out.trans (hb6.mono HB5.out.size)); clear hb6 m0 m1 m2; obtain ⟨m0, m1, m2⟩ := HCL.out _ HB6.out)
        | (go_at_call 31; (with_reducible refine (HD4.out _ HB6.out).mono ?_); rintro e w7 ⟨rfl, hb7⟩; have HB7 := Lib.hid (HB6.out.trans (hb7.mono HB6.out.size)); clear hb7)
        | (go_at_call 19; refine (HAW.out _).mono ?_; rintro e w8 ⟨rfl, hb8⟩))
      go_ret
      exact ⟨rfl, HB1.out.trans ((HB7.out.trans (hb8.mono HB7.out.size)).mono HB1.out.size)⟩
end Go.Proofs.Ytmbdjjkgjnemiaa
