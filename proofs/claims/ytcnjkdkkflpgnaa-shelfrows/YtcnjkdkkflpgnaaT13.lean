import Derived.Test.YtcnjkdkkflpgnaaT12
/- Layer 8: the orders of a row and the ways between them, as they are read; forward, served, cheapest. -/
namespace Go.Proofs.Ytcnjkdkkflpgnaa
open Go.RowKit
set_option linter.unusedVariables false

/-- The slice A n c holds slices that hold these rows. -/
structure Slr (w : World) (A : Option Addr) (n c : Nat) (R : List (List Int)) : Prop where
  len : R.length = n
  big : n ≤ 1000000
  rows : ∀ k, k < n → ∃ b off, A = some ⟨b, off, none⟩ ∧ b < w.heap.size ∧ ∃ A' n' c', w.cell? ⟨b, off + k, none⟩ = some (.slice A' n' c') ∧ Sl w A' n' c' (ordAt R k)
theorem Slr.below {w w' : World} {A : Option Addr} {n c B : Nat} {R : List (List Int)} (h : Slr w A n c R) (hb : Below B w w') (hB : w.heap.size ≤ B) : Slr w' A n c R :=
  ⟨h.len, h.big, fun k hk => by
    obtain ⟨b, off, e, hlt, A', n', c', hc, hs⟩ := h.rows k hk
    exact ⟨b, off, e, Nat.lt_of_lt_of_le hlt hb.size, A', n', c', (hb.cell (p := ⟨b, off + k, none⟩) (by show b < B; omega)).trans hc, hs.below hb hB⟩⟩
/-- Block r is a row with these orders, and these ways. -/
structure RowR (w : World) (r : Nat) (L R : List (List Int)) : Prop where
  o : ∃ A n c, w.cell? ⟨r, 0, none⟩ = some (.slice A n c) ∧ Slo w A n c L
  nx : ∃ A n c, w.cell? ⟨r, 2, none⟩ = some (.slice A n c) ∧ Slr w A n c R
  lt : r < w.heap.size
theorem RowR.below {w w' : World} {r : Nat} {L R : List (List Int)} (h : RowR w r L R) (hb : Below w.heap.size w w') : RowR w' r L R := by
  obtain ⟨A, n, c, h1, h2⟩ := h.o
  obtain ⟨A2, n2, c2, h3, h4⟩ := h.nx
  exact ⟨⟨A, n, c, (hb.cell (p := ⟨r, 0, none⟩) h.lt).trans h1, h2.below hb (Nat.le_refl _)⟩, ⟨A2, n2, c2, (hb.cell (p := ⟨r, 2, none⟩) h.lt).trans h3, h4.below hb (Nat.le_refl _)⟩, Nat.lt_of_lt_of_le h.lt hb.size⟩
/-- What the ways are like. -/
structure LaidR (m : Nat) (L R : List (List Int)) : Prop where
  m1 : 1 ≤ m
  m6 : m ≤ 6
  pos : 0 < L.length
  len : R.length = L.length
  row : ∀ k, k < L.length → (ordAt R k).length = m - 1 ∧ ∀ p, p < m - 1 → ∃ q : Nat, atI (ordAt R k) p = (q : Int) ∧ q < L.length
  pl : ∀ k, k < L.length → ∀ r : Nat, r < m → ∃ p : Nat, ixI (ordAt L k) (r : Int) = (p : Int) ∧ p < m
def fwdN (R : List (List Int)) (zs : List Int) : Nat → Nat → Nat → Nat
  | 0, _, best => best
  | t + 1, nu, best => fwdN R zs t (atI (ordAt R nu) t).toNat (if atI zs (atI (ordAt R nu) t).toNat < atI zs best then (atI (ordAt R nu) t).toNat else best)
/-- The order into which the roll is best moved without cost. -/
def fwdF (L R : List (List Int)) (zs : List Int) (k : Nat) (r : Nat) : Nat := fwdN R zs (ixI (ordAt L k) (r : Int)).toNat k k
theorem fwdN_lt {m : Nat} {L R : List (List Int)} (h : LaidR m L R) (zs : List Int) : ∀ t nu best, t < m → nu < L.length → best < L.length → fwdN R zs t nu best < L.length
  | 0, nu, best, _, _, hb => hb
  | t + 1, nu, best, ht, hn, hb => by
    obtain ⟨q, e, hq⟩ := (h.row nu hn).2 t (by omega)
    unfold fwdN
    rw [e, Int.toNat_natCast]
    refine fwdN_lt h zs t q _ (by omega) hq ?_
    split
    · exact hq
    · exact hb
theorem fwdF_lt {m : Nat} {L R : List (List Int)} (h : LaidR m L R) (zs : List Int) {k r : Nat} (hk : k < L.length) (hr : r < m) : fwdF L R zs k r < L.length := by
  obtain ⟨p, e, hp⟩ := h.pl k hk r hr
  unfold fwdF
  rw [e, Int.toNat_natCast]
  exact fwdN_lt h zs p k k hp hk hk
set_option maxRecDepth 100000 in
set_option maxHeartbeats 6400000 in
theorem forward_any (m : Nat) (L R : List (List Int)) (zs : List Int) (A : Option Addr) (n c k r rb : Nat) (w : World) (hL : LaidR m L R) (h : RowR w rb L R) (hs : Sl w A n c zs) (hn : n = L.length) (hk : k < n) (hr : r < m) :
    Calls Try.prog 82 #[.pointer (some ⟨rb, 0, none⟩), .int .i64 (k : Int), .int .i64 (r : Int), .slice A n c] w fun e w' => e = .returned (.int .i64 (fwdF L R zs k r : Int)) ∧ Below w.heap.size w w' := by
  have HRW := Lib.hid (fun V (hV : Below w.heap.size w V) => h.below hV)
  have HSL := Lib.hid (fun V (hV : Below w.heap.size w V) => hs.below hV (Nat.le_refl _))
  have HLA := Lib.hid hL
  have HN := Lib.hid hn
  obtain ⟨p, hp, hpm⟩ := hL.pl k (by omega) r hr
  have hF : fwdF L R zs k r = fwdN R zs p k k := by unfold fwdF; rw [hp, Int.toNat_natCast]
  rw [hF]
  obtain ⟨A1, n1, c1, e1, h1⟩ := h.o
  obtain ⟨b1, o1, rfl, hb1, hc1⟩ := h1.rows k (by have := h1.len; omega)
  have hn1 : n1 = n := by have := h1.len; omega
  subst hn1
  have d0 := hc1 0 (by omega)
  rw [Nat.add_zero] at d0
  have d1 := hc1 1 (by omega)
  have d2 := hc1 2 (by omega)
  have d3 := hc1 3 (by omega)
  have d4 := hc1 4 (by omega)
  have d5 := hc1 5 (by omega)
  have HPL : Hid (∀ V, Calls Try.prog 58 #[.agg #[.int .i64 (atI (ordAt L k) 0), .int .i64 (atI (ordAt L k) 1), .int .i64 (atI (ordAt L k) 2), .int .i64 (atI (ordAt L k) 3), .int .i64 (atI (ordAt L k) 4), .int .i64 (atI (ordAt L k) 5)], .int .i64 (r : Int)] V fun e w' => e = .returned (.int .i64 (p : Int)) ∧ Below V.heap.size V w') := fun V => by
    have := place_any (ordAt L k) (r : Int) V (ordAt_six h1.six (by omega))
    rw [hp] at this
    exact this
  have hbig := h1.big
  have HM : Hid (p < m) := hpm
  have i0 : (k : Int) < (n1 : Int) := by omega
  clear h1 hc1 hF hp h hs hL hn
  generalize atI (ordAt L k) 0 = a0 at *
  generalize atI (ordAt L k) 1 = a1 at *
  generalize atI (ordAt L k) 2 = a2 at *
  generalize atI (ordAt L k) 3 = a3 at *
  generalize atI (ordAt L k) 4 = a4 at *
  generalize atI (ordAt L k) 5 = a5 at *
  go_enter Try.func82, Try.ntmps82
  go_wp2_with (go_at_call 58; refine (HPL.out _).mono ?_; rintro e V1 ⟨rfl, hb⟩; have HB1 := Lib.hid hb; clear hb)
  have HN2 : Hid (n1 ≤ 1000000) := hbig
  clear d0 d1 d2 d3 d4 d5 e1 HPL i0
  go_loopw [1, 9, 10] (fun nu be at_ w' => ∃ t x y : Nat, t ≤ p ∧ x < n1 ∧ y < n1 ∧ nu = .int .i64 (x : Int) ∧ be = .int .i64 (y : Int) ∧ at_ = .int .i64 (t : Int) ∧ Hid (fwdN R zs p k k = fwdN R zs t x y) ∧ Hid (Below w.heap.size w w')) (fun _ _ at_ _ => (intOf at_).toNat)
  case atStart => exact ⟨p, k, k, Nat.le_refl _, hk, hk, rfl, rfl, rfl, rfl, HB1.out⟩
  case round =>
    obtain ⟨t, x, y, ht, hx, hy, rfl, rfl, rfl, HF, HB⟩ := hrel
    obtain ⟨wo, rfl⟩ : ∃ wo : World, wo = wr := ⟨_, rfl⟩
    clear HB1
    by_cases h0 : 0 < t
    · obtain ⟨u, hu⟩ : ∃ u, t = u + 1 := ⟨t - 1, by omega⟩
      have hm6 := HLA.out.m6
      have hrw := HRW.out wo HB.out
      obtain ⟨A2, n2, c2, e2, h2⟩ := hrw.nx
      have hn2 : n2 = n1 := by have h3 := h2.len; have h4 := HLA.out.len; have h5 := HN.out; omega
      subst hn2
      obtain ⟨b2, o2, rfl, hb2, A3, n3, c3, e3, h3⟩ := h2.rows x hx
      obtain ⟨hr1, hr2⟩ := HLA.out.row x (by have := HN.out; omega)
      have hn3 : n3 = m - 1 := by have := h3.len; omega
      have hpm := HM.out
      obtain ⟨b3, o3, rfl, hc3⟩ := h3.at_ (k := u) (by omega)
      obtain ⟨q, hq, hql⟩ := hr2 u (by omega)
      rw [show (ordAt R x)[u]?.getD 0 = atI (ordAt R x) u from rfl, hq] at hc3
      have hqn : q < n2 := by have := HN.out; omega
      have hso := HSL.out wo HB.out
      obtain ⟨b4, o4, rfl, hc4⟩ := hso.at_ hqn
      obtain ⟨b5, o5, e5, hc5⟩ := hso.at_ hy
      obtain ⟨rfl, rfl⟩ : b5 = b4 ∧ o5 = o4 := by
        have e1 := Option.some.inj e5
        injection e1 with e2 e3 _
        exact ⟨e2.symm, e3.symm⟩
      rw [show zs[q]?.getD 0 = atI zs q from rfl] at hc4
      rw [show zs[y]?.getD 0 = atI zs y from rfl] at hc5
      have HFS : Hid (fwdN R zs t x y = fwdN R zs u q (if atI zs q < atI zs y then q else y)) := by
        rw [Hid, hu]
        show fwdN R zs u (atI (ordAt R x) u).toNat _ = _
        rw [hq, Int.toNat_natCast]
      have HBG := HN2.out
      have i1 : (t : Int) > 0 := by omega
      have i2 : (x : Int) < (n2 : Int) := by omega
      have i3 : (u : Int) < (n3 : Int) := by omega
      have i4 : (q : Int) < (n2 : Int) := by omega
      have i5 : (y : Int) < (n2 : Int) := by omega
      have v1 : IntKind.i64.wrap ((t : Int) - 1) = (u : Int) := by rw [IntWalk.i64_in _ (by omega)]; omega
      have HB0 : Hid (Below w.heap.size w wo.drew) := HB.out.drew
      have HHX : Hid (wo.drew.cell? ⟨b5, o5 + q, none⟩ = some (.int .i64 (atI zs q)) ∧ wo.drew.cell? ⟨b5, o5 + y, none⟩ = some (.int .i64 (atI zs y))) := ⟨hc4, hc5⟩
      have HU := Lib.hid hu
      clear hu hm6 hrw h2 h3 hr1 hr2 hq hql hso hn3 hpm HSL HRW HBG
      generalize atI zs q = z1 at *
      generalize atI zs y = z2 at *
      by_cases hlv : z1 < z2
      · rw [if_pos hlv] at HFS
        go_upto_region 6 with (fail)
        go_region_held_law (fun V => V.cell? ⟨b5, o5 + q, none⟩ = some (.int .i64 z1) ∧ V.cell? ⟨b5, o5 + y, none⟩ = some (.int .i64 z2)) (first | assumption | exact HHX.out) (fail)
        all_goals
          go_wp2
          exact ⟨⟨u, q, q, by have := HU.out; omega, hqn, hqn, rfl, rfl, rfl, by rw [Hid, HF.out, HFS.out], HB0.out⟩, by have := HU.out; simp [intOf]; omega⟩
      · rw [if_neg hlv] at HFS
        go_upto_region 6 with (fail)
        go_region_held_law (fun V => V.cell? ⟨b5, o5 + q, none⟩ = some (.int .i64 z1) ∧ V.cell? ⟨b5, o5 + y, none⟩ = some (.int .i64 z2)) (first | assumption | exact HHX.out) (fail)
        all_goals
          go_wp2
          exact ⟨⟨u, q, y, by have := HU.out; omega, hqn, hy, rfl, rfl, rfl, by rw [Hid, HF.out, HFS.out], HB0.out⟩, by have := HU.out; simp [intOf]; omega⟩
    · have ht0 : t = 0 := by omega
      subst ht0
      have i1 : ¬ ((0 : Nat) : Int) > 0 := by omega
      go_wp2
      go_ret
      rw [HF.out]
      exact ⟨rfl, HB.out⟩
end Go.Proofs.Ytcnjkdkkflpgnaa
/- Layer 8: served, cheapest. -/
namespace Go.Proofs.Ytcnjkdkkflpgnaa
open Go.RowKit
set_option linter.unusedVariables false

/-- The cost of serving the roll in this order, and of all that comes after it. -/
def srvV (L R : List (List Int)) (zs : List Int) (k r : Nat) : Int := ixI (ordAt L k) (r : Int) + 1 + atI zs (fwdF L R zs k r)
def smallZ (zs : List Int) (b : Int) : Prop := ∀ i, 0 ≤ atI zs i ∧ atI zs i ≤ b
set_option maxRecDepth 100000 in
set_option maxHeartbeats 6400000 in
theorem served_any (m : Nat) (L R : List (List Int)) (zs : List Int) (A : Option Addr) (n c k r rb : Nat) (w : World) (hL : LaidR m L R) (h : RowR w rb L R) (hs : Sl w A n c zs) (hn : n = L.length) (hk : k < n) (hr : r < m) (hz : smallZ zs 1000000) :
    Calls Try.prog 79 #[.pointer (some ⟨rb, 0, none⟩), .int .i64 (k : Int), .int .i64 (r : Int), .slice A n c] w fun e w' => e = .returned (.int .i64 (srvV L R zs k r)) ∧ Below w.heap.size w w' := by
  have HFW := Lib.hid (fun V (hV : Below w.heap.size w V) => forward_any m L R zs A n c k r rb V hL (h.below hV) (hs.below hV (Nat.le_refl _)) hn hk hr)
  have HSL := Lib.hid (fun V (hV : Below w.heap.size w V) => hs.below hV (Nat.le_refl _))
  have hfl := fwdF_lt hL zs (k := k) (by omega) hr
  obtain ⟨p, hp, hpm⟩ := hL.pl k (by omega) r hr
  have hm6 := hL.m6
  have hS : srvV L R zs k r = (p : Int) + 1 + atI zs (fwdF L R zs k r) := by unfold srvV; rw [hp]
  rw [hS]
  obtain ⟨A1, n1, c1, e1, h1⟩ := h.o
  obtain ⟨b1, o1, rfl, hb1, hc1⟩ := h1.rows k (by have := h1.len; omega)
  have hn1 : n1 = n := by have := h1.len; omega
  subst hn1
  have d0 := hc1 0 (by omega)
  rw [Nat.add_zero] at d0
  have d1 := hc1 1 (by omega)
  have d2 := hc1 2 (by omega)
  have d3 := hc1 3 (by omega)
  have d4 := hc1 4 (by omega)
  have d5 := hc1 5 (by omega)
  have HPL : Hid (∀ V, Calls Try.prog 58 #[.agg #[.int .i64 (atI (ordAt L k) 0), .int .i64 (atI (ordAt L k) 1), .int .i64 (atI (ordAt L k) 2), .int .i64 (atI (ordAt L k) 3), .int .i64 (atI (ordAt L k) 4), .int .i64 (atI (ordAt L k) 5)], .int .i64 (r : Int)] V fun e w' => e = .returned (.int .i64 (p : Int)) ∧ Below V.heap.size V w') := fun V => by
    have := place_any (ordAt L k) (r : Int) V (ordAt_six h1.six (by omega))
    rw [hp] at this
    exact this
  have hbig := h1.big
  have i0 : (k : Int) < (n1 : Int) := by omega
  have hzf := hz (fwdF L R zs k r)
  have hfn : fwdF L R zs k r < n1 := by omega
  clear h1 hc1 hp h hs hL hn hS hz hfl
  generalize fwdF L R zs k r = q at *
  generalize atI (ordAt L k) 0 = a0 at *
  generalize atI (ordAt L k) 1 = a1 at *
  generalize atI (ordAt L k) 2 = a2 at *
  generalize atI (ordAt L k) 3 = a3 at *
  generalize atI (ordAt L k) 4 = a4 at *
  generalize atI (ordAt L k) 5 = a5 at *
  obtain ⟨b4, o4, rfl, hc4⟩ := (HSL.out w (Below.refl _ w)).at_ hfn
  have HQ : Hid (∀ V, Below w.heap.size w V → V.cell? ⟨b4, o4 + q, none⟩ = some (.int .i64 (atI zs q))) := fun V hV => by
    obtain ⟨b5, o5, e5, hc5⟩ := (HSL.out V hV).at_ hfn
    have e1 := Option.some.inj e5
    injection e1 with e2 e3 _
    rw [e2, e3]
    exact hc5
  have i2 : (q : Int) < (n1 : Int) := by omega
  have v1 : IntKind.i64.wrap ((p : Int) + 1) = (p : Int) + 1 := IntWalk.i64_in _ (by omega)
  have v2 : IntKind.i64.wrap ((p : Int) + 1 + atI zs q) = (p : Int) + 1 + atI zs q := IntWalk.i64_in _ (by omega)
  clear hc4 HSL
  generalize atI zs q = z at *
  go_enter Try.func79, Try.ntmps79
  go_wp2_with (first
    | (go_at_call 58; refine (HPL.out _).mono ?_; rintro e V1 ⟨rfl, hb⟩; have HB1 := Lib.hid hb; clear hb)
    | (go_at_call 82; refine (HFW.out _ HB1.out).mono ?_; rintro e V2 ⟨rfl, hb⟩; have HB2 := Lib.hid (HB1.out.trans (hb.mono HB1.out.size)); have hcz := HQ.out _ HB2.out; clear hb))
  go_ret
  exact ⟨rfl, HB2.out⟩
/-- The least one so far among the order and the ways. -/
def chN (zs row : List Int) (k : Nat) : Nat → Nat
  | 0 => k
  | t + 1 => if atI zs (atI row t).toNat < atI zs (chN zs row k t) then (atI row t).toNat else chN zs row k t
theorem chN_lt {zs row : List Int} {k n j : Nat} (hk : k < n) (h : ∀ p, p < j → ∃ q : Nat, atI row p = (q : Int) ∧ q < n) : ∀ t, t ≤ j → chN zs row k t < n
  | 0, _ => hk
  | t + 1, ht => by
    obtain ⟨q, e, hq⟩ := h t (by omega)
    unfold chN
    rw [e, Int.toNat_natCast]
    split
    · exact hq
    · exact chN_lt hk h t (by omega)
set_option maxRecDepth 100000 in
set_option maxHeartbeats 6400000 in
theorem cheapest_any (m : Nat) (L R : List (List Int)) (zs : List Int) (A : Option Addr) (n c k rb : Nat) (w : World) (hL : LaidR m L R) (h : RowR w rb L R) (hs : Sl w A n c zs) (hn : n = L.length) (hk : k < n) :
    Calls Try.prog 81 #[.pointer (some ⟨rb, 0, none⟩), .int .i64 (k : Int), .slice A n c] w fun e w' => e = .returned (.int .i64 (chN zs (ordAt R k) k (m - 1) : Int)) ∧ Below w.heap.size w w' := by
  have HSL := Lib.hid (fun V (hV : Below w.heap.size w V) => hs.below hV (Nat.le_refl _))
  obtain ⟨A2, n2, c2, e2, h2⟩ := h.nx
  have hn2 : n2 = n := by have h3 := h2.len; have h4 := hL.len; omega
  subst hn2
  obtain ⟨b2, o2, rfl, hb2, A3, n3, c3, e3, h3⟩ := h2.rows k hk
  obtain ⟨hr1, hr2⟩ := hL.row k (by omega)
  have hn3 : n3 = m - 1 := by have := h3.len; omega
  have hm6 := hL.m6
  have HH3 := Lib.hid (fun V (hV : Below w.heap.size w V) => h3.below hV (Nat.le_refl _))
  have HR2 : Hid (∀ p, p < n3 → ∃ q : Nat, atI (ordAt R k) p = (q : Int) ∧ q < n2) := fun p hp => by
    obtain ⟨q, e, hq⟩ := hr2 p (by omega)
    exact ⟨q, e, by omega⟩
  have HCL : Hid (∀ t, t ≤ n3 → chN zs (ordAt R k) k t < n2) := fun t ht => chN_lt hk HR2.out t ht
  have hbig := h2.big
  have i0 : (k : Int) < (n2 : Int) := by omega
  rw [← hn3]
  have HN3 : Hid (n3 ≤ 6) := by rw [Hid]; omega
  clear h2 h3 hr1 hr2 hL h hs hn hn3 hm6
  go_enter Try.func81, Try.ntmps81
  go_wp2
  clear e2 e3 i0
  go_loopw [7, 19] (fun be i w' => ∃ t : Nat, t ≤ n3 ∧ i = .int .i64 (t : Int) ∧ be = .int .i64 (chN zs (ordAt R k) k t : Int) ∧ Hid (Below w.heap.size w w')) (fun _ i _ => n3 - (intOf i).toNat)
  case atStart => exact ⟨0, Nat.zero_le _, by go_num, rfl, Below.refl _ _⟩
  case round =>
    obtain ⟨t, ht, rfl, rfl, HB⟩ := hrel
    obtain ⟨wo, rfl⟩ : ∃ wo : World, wo = wr := ⟨_, rfl⟩
    by_cases hlt : t < n3
    · have i1 : (t : Int) < (n3 : Int) := by omega
      obtain ⟨b3, o3, rfl, hc3⟩ := (HH3.out wo HB.out).at_ hlt
      obtain ⟨q, hq, hqn⟩ := HR2.out t hlt
      rw [show (ordAt R k)[t]?.getD 0 = atI (ordAt R k) t from rfl, hq] at hc3
      have hy := HCL.out t ht
      have HFS : Hid (chN zs (ordAt R k) k (t + 1) = if atI zs q < atI zs (chN zs (ordAt R k) k t) then q else chN zs (ordAt R k) k t) := by
        show (if atI zs (atI (ordAt R k) t).toNat < _ then _ else _) = _
        rw [hq, Int.toNat_natCast]
      have hso := HSL.out wo HB.out
      obtain ⟨b4, o4, rfl, hc4⟩ := hso.at_ hqn
      obtain ⟨b5, o5, e5, hc5⟩ := hso.at_ hy
      obtain ⟨rfl, rfl⟩ : b5 = b4 ∧ o5 = o4 := by
        have e1 := Option.some.inj e5
        injection e1 with e2 e3 _
        exact ⟨e2.symm, e3.symm⟩
      clear hq hso e5
      generalize hyy : chN zs (ordAt R k) k t = y at *
      clear hyy
      rw [show zs[q]?.getD 0 = atI zs q from rfl] at hc4
      rw [show zs[y]?.getD 0 = atI zs y from rfl] at hc5
      have i4 : (q : Int) < (n2 : Int) := by omega
      have i5 : (y : Int) < (n2 : Int) := by omega
      have hn6 := HN3.out
      have HB0 : Hid (Below w.heap.size w wo.drew) := HB.out.drew
      have HHX : Hid (wo.drew.cell? ⟨b5, o5 + q, none⟩ = some (.int .i64 (atI zs q)) ∧ wo.drew.cell? ⟨b5, o5 + y, none⟩ = some (.int .i64 (atI zs y))) := ⟨hc4, hc5⟩
      clear HSL HH3 HR2 HCL
      generalize atI zs q = z1 at *
      generalize atI zs y = z2 at *
      by_cases hlv : z1 < z2
      · rw [if_pos hlv] at HFS
        go_upto_region 5 with (fail)
        go_region_held_law (fun V => V.cell? ⟨b5, o5 + q, none⟩ = some (.int .i64 z1) ∧ V.cell? ⟨b5, o5 + y, none⟩ = some (.int .i64 z2)) (first | assumption | exact HHX.out) (fail)
        all_goals
          go_wp2
          exact ⟨⟨t + 1, by omega, by go_num, by rw [HFS.out], HB0.out⟩, by simp [intOf]; omega⟩
      · rw [if_neg hlv] at HFS
        go_upto_region 5 with (fail)
        go_region_held_law (fun V => V.cell? ⟨b5, o5 + q, none⟩ = some (.int .i64 z1) ∧ V.cell? ⟨b5, o5 + y, none⟩ = some (.int .i64 z2)) (first | assumption | exact HHX.out) (fail)
        all_goals
          go_wp2
          exact ⟨⟨t + 1, by omega, by go_num, by rw [HFS.out], HB0.out⟩, by simp [intOf]; omega⟩
    · have htn : t = n3 := by omega
      subst htn
      have i1 : ¬ (t : Int) < (t : Int) := by omega
      go_wp2
      go_ret
      exact ⟨rfl, HB.out⟩
end Go.Proofs.Ytcnjkdkkflpgnaa
