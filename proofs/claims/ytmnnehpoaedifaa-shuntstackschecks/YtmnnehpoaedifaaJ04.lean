import Derived.Test.YtmnnehpoaedifaaJ03
import Derived.Deep.DeepMust
/- Contract: StacksBlock. -/
namespace Go.Proofs.Ytmnnehpoaedifaa
open Go.RowKit

/-- The position that comes behind place i of the list, round about. -/
def nextAt (l : List Int) (i : Nat) : Int := l[(i + 1) % l.length]?.getD 0
def ringAt (o l : List Int) (i : Nat) : Bool := confB o (min (l[i]?.getD 0).toNat (nextAt l i).toNat) (max (l[i]?.getD 0).toNat (nextAt l i).toNat)
def tblockB (o l : List Int) : Bool := decide (3 ≤ l.length) && decide (l.length % 2 ≠ 0) && atB l o.length && allB (ringAt o l) l.length

set_option maxHeartbeats 1600000 in
theorem stacksBlock_any (A B : Option Addr) (n c m d : Nat) (o l : List Int) (w : World) (hs : Sl w A n c o) (hl : Sl w B m d l) (hbig : n ≤ 1099511627776) (hbig' : m ≤ 1099511627776) :
    Calls Try.prog 38 #[.slice A n c, .slice B m d] w fun e w' => e = .returned (.bool (tblockB o l)) ∧ Dr w w' := by
  have HS := Lib.hid hs; clear hs
  have HL := Lib.hid hl; clear hl
  by_cases h3 : m < 3
  · have HB : Hid (false = tblockB o l) := by unfold tblockB; rw [Hid, HL.out.len, decide_eq_false (by omega)]; rfl
    go_enter Try.func38, Try.ntmps38
    go_wp2
    go_ret
    exact ⟨bend HB.out, Dr.refl _⟩
  · by_cases h2 : m % 2 = 0
    · have HB : Hid (false = tblockB o l) := by unfold tblockB; rw [Hid, HL.out.len, h2]; simp
      have g2 : ((m : Int) % 2 == 0) = true := by simp; omega
      clear h2
      go_enter Try.func38, Try.ntmps38
      go_wp2
      go_ret
      exact ⟨bend HB.out, Dr.refl _⟩
    · have g2 : ((m : Int) % 2 == 0) = false := by simp; omega
      have H2 := Lib.hid h2; clear h2
      obtain ⟨p, hp⟩ : ∃ p, p = atB l (n : Int) := ⟨_, rfl⟩
      have HC1 : Hid (∀ w1, Dr w w1 → Calls Try.prog 59 #[.slice B m d, .int .i64 n] w1 fun e w' => e = .returned (.bool p) ∧ Dr w1 w') := fun w1 h1 => by
        rw [hp]; exact at_any B m d l n w1 HL.out.len (by omega) HL.out.cap (HL.out.rd.dr h1)
      have HP := Lib.hid hp; clear hp
      cases p with
      | false =>
        have HB : Hid (false = tblockB o l) := by unfold tblockB; rw [Hid, HS.out.len, ← HP.out]; simp
        go_enter Try.func38, Try.ntmps38
        go_wp2_with (go_at_call 59; refine (HC1.out _ (Dr.refl _)).mono ?_; rintro e w1 ⟨rfl, hd1⟩)
        go_ret
        exact ⟨bend HB.out, hd1⟩
      | true =>
        have HB0 : Hid (tblockB o l = allB (ringAt o l) m) := by
          unfold tblockB; rw [Hid, HS.out.len, ← HP.out, HL.out.len, decide_eq_true (show 3 ≤ m by omega), decide_eq_true H2.out]; rfl
        obtain ⟨b2, off2, rfl, hc2⟩ := HL.out.cells (by omega)
        have HC3 := Lib.hid hc2; clear hc2
        go_enter Try.func38, Try.ntmps38
        go_wp2_with (go_at_call 59; refine (HC1.out _ (Dr.refl _)).mono ?_; rintro e w1 ⟨rfl, hd1⟩)
        go_loopw [5, 6, 7] (fun i _ _ w' => ∃ j : Nat, j ≤ m ∧ i = .int .i64 (j : Int) ∧ Hid (∀ i, i < j → ringAt o l i = true) ∧ Dr w w') (fun i _ _ _ => m - (intOf i).toNat)
        case atStart => exact ⟨0, by omega, by go_num, fun j hj => absurd hj (by omega), hd1⟩
        case round =>
          obtain ⟨j, hj, rfl, hok, hW⟩ := hrel
          by_cases hlt : j < m
          · obtain ⟨q, hq⟩ : ∃ q, q = (j + 1) % m := ⟨_, rfl⟩
            have hqm : q < m := by rw [hq]; exact Nat.mod_lt _ (by omega)
            have hp0 := atB_lo (HP.out.symm) (k := j) (by rw [HL.out.len]; omega)
            have hp1 := atB_lo (HP.out.symm) (k := q) (by rw [HL.out.len]; omega)
            have hx0 := (hW.cell _).trans (HC3.out j hlt)
            have hx1 := (hW.cell _).trans (HC3.out q hqm)
            have HD : Hid (ringAt o l j = confB o (min (l[j]?.getD 0).toNat (l[q]?.getD 0).toNat) (max (l[j]?.getD 0).toNat (l[q]?.getD 0).toNat)) := by
              unfold ringAt nextAt; rw [Hid, HL.out.len, ← hq]
            generalize l[j]?.getD 0 = x0 at *
            generalize l[q]?.getD 0 = x1 at *
            obtain ⟨h00, h01⟩ := hp0
            obtain ⟨h10, h11⟩ := hp1
            obtain ⟨a, rfl⟩ : ∃ a : Nat, x0 = a := ⟨x0.toNat, by omega⟩
            obtain ⟨b, rfl⟩ : ∃ b : Nat, x1 = b := ⟨x1.toNat, by omega⟩
            have HQ := Lib.hid hq; clear hq
            obtain ⟨r, hr⟩ : ∃ r, r = ringAt o l j := ⟨_, rfl⟩
            have HCC : Hid (∀ W, Dr w W → Calls Try.prog 69 #[.slice A n c, .int .i64 (min a b : Nat), .int .i64 (max a b : Nat)] W fun e w' => e = .returned (.bool r) ∧ Dr W w') := fun W hW => by
              rw [hr, HD.out]
              exact conflict_any A n c o (min a b) (max a b) W (HS.out.dr hW) hbig (by omega) (by omega)
            have HR := Lib.hid hr; clear hr
            rcases Nat.lt_trichotomy a b with hab | hab | hab
            · rw [Nat.min_eq_left (by omega), Nat.max_eq_right (by omega)] at HCC
              go_wp2
              have hw1 : IntKind.i64.wrap ((j : Int) + 1) = (j : Int) + 1 := IntWalk.i64_in _ (by omega)
              have hw2 : ((j : Int) + 1).tmod (m : Int) = (q : Int) := by
                rw [Int.tmod_eq_emod_of_nonneg (by omega), HQ.out]; simp
              have hm0 : ((m : Int) == 0) = false := by simp; omega
              go_quiet (fail)
              clear hw1 hw2 hm0
              cases r with
              | true =>
                go_wp2_with (go_at_call 69; go_must (refine (HCC.out _ (hW.more _)).mono ?_); rintro e w2 ⟨rfl, hd2⟩)
                go_roundw
                case rel => exact ⟨j + 1, by omega, by go_num, ok_step hok.out HR.out.symm, (hW.more _).trans hd2⟩
                case measure => simp [intOf]; omega
              | false =>
                have HB : Hid (false = tblockB o l) := by rw [Hid, HB0.out]; exact allB_bad (k := j) hlt HR.out.symm
                go_wp2_with (go_at_call 69; go_must (refine (HCC.out _ (hW.more _)).mono ?_); rintro e w2 ⟨rfl, hd2⟩)
                go_ret
                exact ⟨bend HB.out, (hW.more _).trans hd2⟩
            · subst hab
              rw [Nat.min_self, Nat.max_self] at HCC
              go_wp2
              have hw1 : IntKind.i64.wrap ((j : Int) + 1) = (j : Int) + 1 := IntWalk.i64_in _ (by omega)
              have hw2 : ((j : Int) + 1).tmod (m : Int) = (q : Int) := by
                rw [Int.tmod_eq_emod_of_nonneg (by omega), HQ.out]; simp
              have hm0 : ((m : Int) == 0) = false := by simp; omega
              go_quiet (fail)
              clear hw1 hw2 hm0
              cases r with
              | true =>
                go_wp2_with (go_at_call 69; go_must (refine (HCC.out _ (hW.more _)).mono ?_); rintro e w2 ⟨rfl, hd2⟩)
                go_roundw
                case rel => exact ⟨j + 1, by omega, by go_num, ok_step hok.out HR.out.symm, (hW.more _).trans hd2⟩
                case measure => simp [intOf]; omega
              | false =>
                have HB : Hid (false = tblockB o l) := by rw [Hid, HB0.out]; exact allB_bad (k := j) hlt HR.out.symm
                go_wp2_with (go_at_call 69; go_must (refine (HCC.out _ (hW.more _)).mono ?_); rintro e w2 ⟨rfl, hd2⟩)
                go_ret
                exact ⟨bend HB.out, (hW.more _).trans hd2⟩
            · rw [Nat.min_eq_right (by omega), Nat.max_eq_left (by omega)] at HCC
              go_wp2
              have hw1 : IntKind.i64.wrap ((j : Int) + 1) = (j : Int) + 1 := IntWalk.i64_in _ (by omega)
              have hw2 : ((j : Int) + 1).tmod (m : Int) = (q : Int) := by
                rw [Int.tmod_eq_emod_of_nonneg (by omega), HQ.out]; simp
              have hm0 : ((m : Int) == 0) = false := by simp; omega
              go_quiet (fail)
              clear hw1 hw2 hm0
              cases r with
              | true =>
                go_wp2_with (go_at_call 69; go_must (refine (HCC.out _ (hW.more _)).mono ?_); rintro e w2 ⟨rfl, hd2⟩)
                go_roundw
                case rel => exact ⟨j + 1, by omega, by go_num, ok_step hok.out HR.out.symm, (hW.more _).trans hd2⟩
                case measure => simp [intOf]; omega
              | false =>
                have HB : Hid (false = tblockB o l) := by rw [Hid, HB0.out]; exact allB_bad (k := j) hlt HR.out.symm
                go_wp2_with (go_at_call 69; go_must (refine (HCC.out _ (hW.more _)).mono ?_); rintro e w2 ⟨rfl, hd2⟩)
                go_ret
                exact ⟨bend HB.out, (hW.more _).trans hd2⟩
          · have HB : Hid (true = tblockB o l) := by rw [Hid, HB0.out]; exact allB_good (fun i hi => hok.out i (by omega))
            go_wp2
            go_ret
            exact ⟨bend HB.out, hW⟩
end Go.Proofs.Ytmnnehpoaedifaa
/- Plain mathematics of layer 2: the order with a given rank, as the reference computes it. -/
namespace Go.Proofs.Ytmnnehpoaedifaa

/-- The first j for which the first j + 1 terms of the sum for n are more than k. -/
def jOf (n k : Nat) : Nat := ((List.range n).find? fun j => decide (k < catSum n (j + 1))).getD 0
theorem jOf_eq {n k j : Nat} (hj : j < n) (h1 : catSum n j ≤ k) (h2 : k < catSum n (j + 1)) : jOf n k = j := by
  unfold jOf
  have : (List.range n).find? (fun j => decide (k < catSum n (j + 1))) = some j := by
    rw [List.find?_range_eq_some]
    refine ⟨by simpa using h2, by simpa using hj, fun i hi => ?_⟩
    have := catSum_mono n (show i + 1 ≤ j by omega)
    simp; omega
  rw [this]; rfl
def unrankF : Nat → Nat → Nat → Nat → List Int
  | 0, _, _, _ => []
  | t + 1, n, k, d =>
    if n = 0 then [] else
      ((jOf n k + 1 + d : Nat) : Int) :: (unrankF t (jOf n k) ((k - catSum n (jOf n k)) / cat (n - 1 - jOf n k)) d ++ unrankF t (n - 1 - jOf n k) ((k - catSum n (jOf n k)) % cat (n - 1 - jOf n k)) (d + jOf n k + 1))
theorem unrankF_zero (t k d : Nat) : unrankF t 0 k d = [] := by
  cases t <;> simp [unrankF]
theorem unrankF_at {t n k d j : Nat} (hn : 0 < n) (hj : j < n) (h1 : catSum n j ≤ k) (h2 : k < catSum n (j + 1)) :
    unrankF (t + 1) n k d = ((j + 1 + d : Nat) : Int) :: (unrankF t j ((k - catSum n j) / cat (n - 1 - j)) d ++ unrankF t (n - 1 - j) ((k - catSum n j) % cat (n - 1 - j)) (d + j + 1)) := by
  rw [unrankF, if_neg (by omega), jOf_eq hj h1 h2]
theorem unrank_parts {n k j : Nat} (h2 : k < catSum n (j + 1)) (h1 : catSum n j ≤ k) : (k - catSum n j) / cat (n - 1 - j) < cat j ∧ (k - catSum n j) % cat (n - 1 - j) < cat (n - 1 - j) := by
  have hp := cat_pos (n - 1 - j)
  refine ⟨?_, Nat.mod_lt _ (by omega)⟩
  rw [Nat.div_lt_iff_lt_mul (by omega)]
  simp only [catSum] at h2
  omega
theorem unrankF_len (t : Nat) : ∀ n k d, n ≤ t → k < cat n → (unrankF t n k d).length = n := by
  induction t with
  | zero => intro n k d h _; rw [show n = 0 from by omega, unrankF_zero]; rfl
  | succ t ih =>
    intro n k d h hk
    by_cases h0 : n = 0
    · subst h0; rw [unrankF_zero]; rfl
    · obtain ⟨m, rfl⟩ : ∃ m, n = m + 1 := ⟨n - 1, by omega⟩
      rw [cat_succ] at hk
      -- the place
      have : ∀ q, q ≤ m + 1 → k < catSum (m + 1) q → ∃ j, j < m + 1 ∧ catSum (m + 1) j ≤ k ∧ k < catSum (m + 1) (j + 1) := by
        intro q
        induction q with
        | zero => intro _ h; simp [catSum] at h
        | succ q ihq =>
          intro hq h
          by_cases hc : k < catSum (m + 1) q
          · exact ihq (by omega) hc
          · exact ⟨q, by omega, by omega, h⟩
      obtain ⟨j, hj, h1, h2⟩ := this (m + 1) (Nat.le_refl _) hk
      have hp := unrank_parts h2 h1
      rw [unrankF_at (by omega) hj h1 h2]
      rw [List.length_cons, List.length_append, ih j _ _ (by omega) hp.1, ih (m + 1 - 1 - j) _ _ (by omega) hp.2]
      omega
end Go.Proofs.Ytmnnehpoaedifaa
/- Contract: Unrank. -/
namespace Go.Proofs.Ytmnnehpoaedifaa
open Go.RowKit

/-- Count, at an argument that is written as an Int. -/
theorem count_int (x : Int) (n : Nat) (w : World) (hx : x = n) (hn : n ≤ 30) : Calls Try.prog 41 #[.int .i64 x] w fun e w' => e = .returned (.int .i64 (cat n)) ∧ Below w.heap.size w w' := by
  subst hx; exact count_any n w hn

theorem Ow.below {w w' : World} {B e b : Nat} {v : Value} {zs : List Int} (h : Ow w B e v zs) (hb : Below b w w') (hB : w.heap.size ≤ b) : Ow w' B e v zs :=
  World.ownsRow.kept (row := none) h ⟨hb.os, hb.tape, hb.output, hb.size, fun k hk _ => hb.block k (by omega)⟩ (by
    rcases hv : v.ownBlock with _ | k
    · exact .inl rfl
    · exact .inr (by simp))
theorem Ow.base {w : World} {B B' e : Nat} {v : Value} {zs : List Int} (h : Ow w B e v zs) (hB : B' ≤ B) : Ow w B' e v zs := by
  refine ⟨h.1, ?_⟩
  rcases h.2 with h | ⟨g, cap, cur, h1, h2, h3⟩
  · exact .inl h
  · exact .inr ⟨g, cap, cur, h1, by omega, h3⟩
theorem Ow.one (w : World) (B e : Nat) (x : Int) (hB : B ≤ w.heap.size) : Ow (w.alloc (.cells #[.int .i64 x] e)) B e (.slice (some ⟨w.heap.size, 0, none⟩) 1 1) [x] := by
  have h := World.ownsRow_lit (base := B) (e := e) (size := 1) w #[.int .i64 x] 1 hB (by unfold maxLen; omega) rfl
  simpa [Ow] using h
theorem app_law {P : Program} (w : World) {ops : Array Oper} {rest : List Oper} {o : Oper} {a : Act} {Q : Exit → Act → World → Prop} (hgd : o.guard = none) (s x : Operand) (t : TypeId)
    (ho : o.op = .call { callee := .builtin .append, args := #[s, x], argTypes := #[t, t] })
    (B : Nat) (e : TypeId) (i : TypeInfo) (ht : P.underlying t = some (.slice e)) (hI : P.info? e = some i ∧ i.zero = some (.int .i64 0) ∧ i.size = 1 ∧ i.bytes = 8)
    (v : Value) (zs : List Int) (hs : a.eval s = v) (hown : Ow w B e v zs) (u : Value) (ys : List Int) (B' : Nat) (hx : a.eval x = u) (hu : Ow w B' e u ys) (hn : zs.length + ys.length ≤ 1099511627776) (hB : B ≤ w.heap.size)
    (h : ∀ v' w', Ow w' B e v' (zs ++ ys) → w.grownBy w' v.ownBlock → wpList P ops Q rest (a.put o.dst v') w') : wpList P ops Q (o :: rest) a w := by
  obtain ⟨A, c, rfl, hsl⟩ := hu.sl (by omega)
  refine app_any w hgd s x t ho B e i ht hI.1 hI.2.1 hI.2.2.1 hI.2.2.2 v zs.length (ints zs) hs hown A ys.length c ys hx hsl (by omega) hB fun v' w' h1 h2 => h v' w' ?_ h2
  unfold Ow
  rw [List.length_append, show ints (zs ++ ys) = ints zs ++ ints ys from by simp [ints]]
  exact h1

set_option maxHeartbeats 3200000 in
theorem unrank_any (t : Nat) : ∀ (n k d : Nat) (w : World), n ≤ t → n ≤ 30 → k < cat n → d + n ≤ 60 →
    Calls Try.prog 43 #[.int .i64 n, .int .i64 k, .int .i64 d] w fun e w' => ∃ v, e = .returned v ∧ Ow w' w.heap.size 3 v (unrankF t n k d) ∧ Below w.heap.size w w' := by
  induction t with
  | zero =>
    intro n k d w h1 _ _ _
    obtain rfl : n = 0 := by omega
    rw [unrankF_zero]
    go_enter Try.func43, Try.ntmps43
    go_wp2
    go_ret
    exact ⟨_, rfl, Ow.nil _ _ _, Below.refl _ _⟩
  | succ t ih =>
    intro n k d w hnt hn hk hd
    have IH := Lib.hid ih; clear ih
    by_cases h0 : n = 0
    · subst h0
      rw [unrankF_zero]
      go_enter Try.func43, Try.ntmps43
      go_wp2
      go_ret
      exact ⟨_, rfl, Ow.nil _ _ _, Below.refl _ _⟩
    · obtain ⟨i0, hi, hz0, hz1, hz2⟩ := info_parts Try.infoInt
      have HI : Hid (Try.prog.info? 3 = some i0 ∧ i0.zero = some (.int .i64 0) ∧ i0.size = 1 ∧ i0.bytes = 8) := ⟨hi, hz0, hz1, hz2⟩
      clear hi hz0 hz1 hz2
      have hkb : k ≤ 3814986502092304 := by have := cat_bound n hn; omega
      have g0 : ((n : Int) == 0) = false := by simp; omega
      have HK := Lib.hid hk; clear hk
      go_enter Try.func43, Try.ntmps43
      go_wp2
      go_loopw [1, 7] (fun kk f w' => ∃ j k' : Nat, j < n ∧ f = .int .i64 ((j : Int) + 1) ∧ kk = .int .i64 k' ∧ k' ≤ k ∧ Hid (catSum n j ≤ k ∧ k' = k - catSum n j) ∧ Below w.heap.size w w') (fun _ f _ => n + 1 - (intOf f).toNat)
      case atStart => exact ⟨0, k, by omega, by go_num, rfl, Nat.le_refl _, ⟨Nat.zero_le _, rfl⟩, Below.refl _ _⟩
      case round =>
        obtain ⟨j, k', hj, rfl, rfl, hk', HJ, hW⟩ := hrel
        have hsz := hW.size
        obtain ⟨p, hp⟩ : ∃ p, p = cat j * cat (n - 1 - j) := ⟨_, rfl⟩
        have hpb : p ≤ 3814986502092304 := by
          rw [hp]; exact Nat.le_trans (catTerm_le n j hj) (cat_bound n hn)
        have HS : Hid (catSum n (j + 1) = catSum n j + p) := by rw [Hid, hp]; rfl
        have HP := Lib.hid hp; clear hp
        have C1 := fun W => count_int (j : Int) j W rfl (by omega)
        have C2 := fun W => count_int ((n : Int) - ((j : Int) + 1)) (n - 1 - j) W (by omega) (by omega)
        have HC1 := Lib.hid C1; clear C1
        have HC2 := Lib.hid C2; clear C2
        have HM : Hid ((cat j : Int) * (cat (n - 1 - j) : Int) = (p : Int)) := by rw [Hid, HP.out]; simp
        generalize hca : cat j = ca at *
        generalize hcb : cat (n - 1 - j) = cb at *
        have HCA := Lib.hid hca; clear hca
        have HCB := Lib.hid hcb; clear hcb
        have hmul := HM.out
        by_cases hge : p ≤ k'
        · go_wp2_with fail
          refine (HC1.out _).mono ?_
          rintro e w1 ⟨rfl, hb1⟩
          go_wp2_with fail
          refine (HC2.out _).mono ?_
          rintro e w2 ⟨rfl, hb2⟩
          go_wp2_with fail
          refine (HC1.out _).mono ?_
          rintro e w3 ⟨rfl, hb3⟩
          go_wp2_with fail
          refine (HC2.out _).mono ?_
          rintro e w4 ⟨rfl, hb4⟩
          have hb := ((hW.trans (hb1.mono hsz)).trans (hb2.mono (Nat.le_trans hsz hb1.size))).trans ((hb3.mono (Nat.le_trans (Nat.le_trans hsz hb1.size) hb2.size)).trans (hb4.mono (Nat.le_trans (Nat.le_trans (Nat.le_trans hsz hb1.size) hb2.size) hb3.size)))
          have hlt : j + 1 < n := by
            have h1 := HS.out
            have h2 := HJ.out
            have h3 := HK.out
            obtain ⟨m, rfl⟩ : ∃ m, n = m + 1 := ⟨n - 1, by omega⟩
            rw [cat_succ] at h3
            rcases Nat.lt_or_ge (j + 1) (m + 1) with h | h
            · exact h
            · rw [show m + 1 = j + 1 from by omega] at h3 h2 h1
              omega
          go_wp2
          go_roundw
          case rel =>
            refine ⟨j + 1, k' - p, hlt, by go_num, by go_num, by omega, ⟨?_, ?_⟩, hb⟩
            · have h1 := HS.out; have h2 := HJ.out; omega
            · have h1 := HS.out; have h2 := HJ.out; omega
          case measure => simp [intOf]; omega
        · have hlt : k < catSum n (j + 1) := by have h1 := HS.out; have h2 := HJ.out; omega
          have hparts := unrank_parts (n := n) (k := k) (j := j) hlt HJ.out.1
          rw [← HJ.out.2, HCA.out, HCB.out] at hparts
          have HU : Hid (unrankF (t + 1) n k d = ((j + 1 + d : Nat) : Int) :: (unrankF t j (k' / cb) d ++ unrankF t (n - 1 - j) (k' % cb) (d + j + 1))) := by
            have h := unrankF_at (t := t) (d := d) (show 0 < n by omega) hj HJ.out.1 hlt
            rw [← HJ.out.2, HCB.out] at h
            exact h
          have HL1 : Hid ((unrankF t j (k' / cb) d).length = j) := unrankF_len t j _ _ (by omega) (by rw [HCA.out]; exact hparts.1)
          have HL2 : Hid ((unrankF t (n - 1 - j) (k' % cb) (d + j + 1)).length = n - 1 - j) := unrankF_len t (n - 1 - j) _ _ (by omega) (by rw [HCB.out]; exact hparts.2)
          have hcb1 : 1 ≤ cb := by have h := cat_pos (n - 1 - j); rw [HCB.out] at h; exact h
          obtain ⟨q, hq⟩ : ∃ q, q = k' / cb := ⟨_, rfl⟩
          obtain ⟨r, hr⟩ : ∃ r, r = k' % cb := ⟨_, rfl⟩
          rw [← hq, ← hr] at hparts HU
          rw [← hq] at HL1
          rw [← hr] at HL2
          have hqb : q ≤ 3814986502092304 := by rw [hq]; exact Nat.le_trans (Nat.div_le_self _ _) (by omega)
          have hrb : r ≤ 3814986502092304 := by rw [hr]; exact Nat.le_trans (Nat.mod_le _ _) (by omega)
          have hq0 : (k' : Int) / (cb : Int) = (q : Int) := by rw [hq]; simp
          have hr0 : (k' : Int) % (cb : Int) = (r : Int) := by rw [hr]; simp
          have HPT := Lib.hid hparts; clear hparts
          have HLT := Lib.hid hlt; clear hlt
          clear hq hr
          have HI1 : Hid (∀ W, Calls Try.prog 43 #[.int .i64 (j : Int), .int .i64 q, .int .i64 d] W fun e w' => ∃ v, e = .returned v ∧ Ow w' W.heap.size 3 v (unrankF t j q d) ∧ Below W.heap.size W w') :=
            fun W => IH.out j q d W (by omega) (by omega) (by rw [HCA.out]; exact HPT.out.1) (by omega)
          have HI2 : Hid (∀ W, Calls Try.prog 43 #[.int .i64 ((n : Int) - ((j : Int) + 1)), .int .i64 r, .int .i64 ((d : Int) + ((j : Int) + 1))] W fun e w' => ∃ v, e = .returned v ∧ Ow w' W.heap.size 3 v (unrankF t (n - 1 - j) r (d + j + 1)) ∧ Below W.heap.size W w') :=
            fun W => by
              have h := IH.out (n - 1 - j) r (d + j + 1) W (by omega) (by omega) (by rw [HCB.out]; exact HPT.out.2) (by omega)
              rw [show ((n - 1 - j : Nat) : Int) = (n : Int) - ((j : Int) + 1) from by omega, show ((d + j + 1 : Nat) : Int) = (d : Int) + ((j : Int) + 1) from by omega] at h
              exact h
          go_wp2_with fail
          refine (HC1.out _).mono ?_
          rintro e w1 ⟨rfl, hb1⟩
          go_wp2_with fail
          refine (HC2.out _).mono ?_
          rintro e w2 ⟨rfl, hb2⟩
          go_wp2_with fail
          refine (HC2.out _).mono ?_
          rintro e w3 ⟨rfl, hb3⟩
          go_wp2_with fail
          have hsz3 : w.heap.size ≤ w3.heap.size := Nat.le_trans hsz (Nat.le_trans hb1.size (Nat.le_trans hb2.size hb3.size))
          have hbW := ((hW.trans (hb1.mono hsz)).trans (hb2.mono (Nat.le_trans hsz hb1.size))).trans (hb3.mono (Nat.le_trans (Nat.le_trans hsz hb1.size) hb2.size))
          have HO0 := Lib.hid (Ow.one w3 w.heap.size 3 ((j : Int) + 1 + d) hsz3)
          have hbA := hbW.alloc hsz3 (.cells #[.int .i64 ((j : Int) + 1 + d)] 3)
          refine (HI1.out _).mono ?_
          rintro e w4 ⟨v1, rfl, hv1, hb4⟩
          have HO1 := Lib.hid (HO0.out.below hb4 (Nat.le_refl _))
          have HV1 := Lib.hid hv1; clear hv1
          have hbB := hbA.trans (hb4.mono (by simp; omega))
          have hsz4 := hbB.size
          have hl1 : [((j : Int) + 1 + (d : Int))].length + (unrankF t j q d).length ≤ 1099511627776 := by rw [HL1.out]; simp; omega
          have HLL := Lib.hid hl1; clear hl1
          go_wp2_with (at_builtin; go_must (refine app_law _ rfl (.tmp 42) (.tmp 49) 22 rfl w.heap.size 3 i0 Try.underlying22 HI.out _ [((j : Int) + 1 + (d : Int))] rfl HO1.out _ (unrankF t j q d) _ rfl HV1.out HLL.out hsz4 ?_); intro v2 w5 hv2 hg2; have HV2 := Lib.hid hv2; clear hv2; have HG2 := Lib.hid hg2; clear hg2)
          have hbC := hbB.grown HG2.out hsz4 (fun g e => (HO1.out.lt e).1)
          have hsz5 := hbC.size
          refine (HI2.out _).mono ?_
          rintro e w6 ⟨v3, rfl, hv3, hb6⟩
          have HO2 := Lib.hid (HV2.out.below hb6 (Nat.le_refl _))
          have HV3 := Lib.hid hv3; clear hv3
          have hbD := hbC.trans (hb6.mono hsz5)
          have hsz6 := hbD.size
          have hl2 : ([((j : Int) + 1 + (d : Int))] ++ unrankF t j q d).length + (unrankF t (n - 1 - j) r (d + j + 1)).length ≤ 1099511627776 := by rw [HL2.out, List.length_append, HL1.out]; simp; omega
          have HLM := Lib.hid hl2; clear hl2
          go_wp2_with (at_builtin; go_must (refine app_law _ rfl (.tmp 51) (.tmp 61) 22 rfl w.heap.size 3 i0 Try.underlying22 HI.out _ ([((j : Int) + 1 + (d : Int))] ++ unrankF t j q d) rfl HO2.out _ (unrankF t (n - 1 - j) r (d + j + 1)) _ rfl HV3.out HLM.out hsz6 ?_); intro v4 w7 hv4 hg4; have HV4 := Lib.hid hv4; clear hv4; have HG4 := Lib.hid hg4; clear hg4)
          go_ret
          refine ⟨v4, rfl, ?_, hbD.grown HG4.out hsz6 (fun g e => (HO2.out.lt e).1)⟩
          have h := HV4.out
          rw [HU.out, show ((j + 1 + d : Nat) : Int) = (j : Int) + 1 + d from by omega]
          rw [List.append_assoc] at h
          exact h
end Go.Proofs.Ytmnnehpoaedifaa
/- Contract: Conflicts. -/
namespace Go.Proofs.Ytmnnehpoaedifaa
open Go.RowKit

theorem Try.infoPair : (Try.prog.info? 50).map (fun i => (i.zero, i.size, i.bytes)) = some (some (.agg #[.int .i64 0, .int .i64 0]), 2, 16) := by kernel_rfl

def pairCells (ps : List (Nat × Nat)) : List Value := ps.flatMap fun p => [.int .i64 p.1, .int .i64 p.2]
theorem pairCells_len (ps : List (Nat × Nat)) : (pairCells ps).length = ps.length * 2 := by
  induction ps with
  | nil => rfl
  | cons p ps ih => simp [pairCells] at *; omega
/-- The call owns the slice v of pairs of ints. -/
def Ow2 (w : World) (B e : Nat) (v : Value) (ps : List (Nat × Nat)) : Prop := w.ownsRow B e 2 v ps.length (pairCells ps)
theorem Ow2.nil (w : World) (B e : Nat) : Ow2 w B e (.slice none 0 0) [] := World.ownsRow_nil _ _ _ _
theorem Ow2.below {w w' : World} {B e b : Nat} {v : Value} {zs : List (Nat × Nat)} (h : Ow2 w B e v zs) (hb : Below b w w') (hB : w.heap.size ≤ b) : Ow2 w' B e v zs :=
  World.ownsRow.kept (row := none) h ⟨hb.os, hb.tape, hb.output, hb.size, fun k hk _ => hb.block k (by omega)⟩ (by
    rcases hv : v.ownBlock with _ | k
    · exact .inl rfl
    · exact .inr (by simp))
theorem Ow2.lt {w : World} {B e : Nat} {v : Value} {zs : List (Nat × Nat)} (h : Ow2 w B e v zs) {k : Nat} (hk : v.ownBlock = some k) : B ≤ k ∧ k < w.heap.size := World.ownsRow.lt h k hk
theorem push2_law {P : Program} (w : World) {ops : Array Oper} {rest : List Oper} {o : Oper} {a : Act} {Q : Exit → Act → World → Prop} (hgd : o.guard = none) (s x : Operand) (t : TypeId)
    (ho : o.op = .call { callee := .builtin .append, args := #[s, x], argTypes := #[t, t] })
    (B : Nat) (e : TypeId) (i : TypeInfo) (ht : P.underlying t = some (.slice e)) (hI : P.info? e = some i ∧ i.zero = some (.agg #[.int .i64 0, .int .i64 0]) ∧ i.size = 2 ∧ i.bytes = 16)
    (v : Value) (zs : List (Nat × Nat)) (p q : Nat) (hs : a.eval s = v) (hx : a.eval x = .slice (some ⟨w.heap.size, 0, none⟩) 1 1) (hown : Ow2 w B e v zs) (hn : zs.length ≤ 1099511627776) (hB : B ≤ w.heap.size)
    (h : ∀ v' w', Ow2 w' B e v' (zs ++ [(p, q)]) → w.grownBy w' v.ownBlock → wpList P ops Q rest (a.put o.dst v') w') :
    wpList P ops Q (o :: rest) a (w.alloc (.cells #[.int .i64 p, .int .i64 q] e)) := by
  obtain ⟨h1, h2, h3, h4⟩ := hI
  refine wpList_append_own_at _ hgd s x t ho B e i _ 2 16 ht h1 h2 h3 h4 rfl (by decide) v zs.length (pairCells zs) hs (hown.alloc _) ⟨w.heap.size, 0, none⟩ 1 1 [.int .i64 p, .int .i64 q] hx rfl ?_ ?_ (by unfold maxLen; omega) (by omega) (by simp; omega) ?_
  · intro j u hu
    match j, hu with
    | 0, hu =>
      simp at hu; subst hu
      simp [Addr.add]
    | 1, hu =>
      simp at hu; subst hu
      simp [Addr.add]
  · intro u hu
    simp at hu
    rcases hu with rfl | rfl <;> rfl
  · intro v' w' ho' hg' _ _
    refine h v' w' ?_ (grown_alloc hg')
    unfold Ow2
    rw [List.length_append, show pairCells (zs ++ [(p, q)]) = pairCells zs ++ [.int .i64 p, .int .i64 q] from by simp [pairCells]]
    exact ho'

/-- The conflicts of a with positions below k; those of all positions below k. -/
def confTo (o : List Int) (a : Nat) (k : Nat) : List (Nat × Nat) := ((List.range k).filter fun b => decide (a < b) && confB o a b).map fun b => (a, b)
def confAll (o : List Int) (k : Nat) : List (Nat × Nat) := (List.range k).flatMap fun a => confTo o a o.length
theorem confTo_succ (o : List Int) (a k : Nat) : confTo o a (k + 1) = confTo o a k ++ if a < k ∧ confB o a k = true then [(a, k)] else [] := by
  unfold confTo
  rw [List.range_succ, List.filter_append, List.map_append]
  congr 1
  by_cases h : a < k ∧ confB o a k = true
  · rw [if_pos h]; simp [h.1, h.2]
  · rw [if_neg h]
    have : (decide (a < k) && confB o a k) = false := by
      rw [Bool.eq_false_iff, Ne, Bool.and_eq_true, decide_eq_true_eq]; exact h
    simp [this]
theorem confTo_low (o : List Int) (a k : Nat) (h : k ≤ a + 1) : confTo o a k = [] := by
  unfold confTo
  rw [List.filter_eq_nil_iff.2]
  · rfl
  · intro b hb
    have := List.mem_range.1 hb
    simp; omega
theorem confTo_len (o : List Int) (a k : Nat) : (confTo o a k).length ≤ k := by
  unfold confTo
  have := List.length_filter_le (fun b => decide (a < b) && confB o a b) (List.range k)
  simp at this ⊢
  exact this
theorem confAll_succ (o : List Int) (k : Nat) : confAll o (k + 1) = confAll o k ++ confTo o k o.length := by
  unfold confAll
  rw [List.range_succ, List.flatMap_append]
  simp
theorem confAll_len (o : List Int) (k : Nat) : (confAll o k).length ≤ k * o.length := by
  induction k with
  | zero => simp [confAll]
  | succ k ih =>
    rw [confAll_succ, List.length_append, Nat.succ_mul]
    have := confTo_len o k o.length
    omega

set_option maxHeartbeats 1600000 in
theorem conflicts_any (A : Option Addr) (n c : Nat) (zs : List Int) (w : World) (hs : Sl w A n c zs) (hn : n ≤ 1000) :
    Calls Try.prog 35 #[.slice A n c] w fun e w' => ∃ v, e = .returned v ∧ Ow2 w' w.heap.size 50 v (confAll zs n) ∧ Below w.heap.size w w' := by
  have HS := Lib.hid hs; clear hs
  obtain ⟨i0, hi, hz0, hz1, hz2⟩ := info_parts Try.infoPair
  have HI : Hid (Try.prog.info? 50 = some i0 ∧ i0.zero = some (.agg #[.int .i64 0, .int .i64 0]) ∧ i0.size = 2 ∧ i0.bytes = 16) := ⟨hi, hz0, hz1, hz2⟩
  clear hi hz0 hz1 hz2
  go_enter Try.func35, Try.ntmps35
  go_wp2
  go_loopw [3, 4, 5] (fun o i _ w' => ∃ a : Nat, a ≤ n ∧ i = .int .i64 a ∧ Hid (Ow2 w' w.heap.size 50 o (confAll zs a)) ∧ Below w.heap.size w w') (fun _ i _ _ => n - (intOf i).toNat)
  case atStart => exact ⟨0, by omega, by go_num, Ow2.nil _ _ _, Below.refl _ _⟩
  case round =>
    obtain ⟨a, ha, rfl, HO, hW⟩ := hrel
    by_cases hlt : a < n
    · obtain ⟨wo, rfl⟩ : ∃ wo : World, wo = wr := ⟨_, rfl⟩
      go_wp2
      go_loopw [3, 5] (fun o t w' => ∃ b : Nat, a + 1 ≤ b ∧ b ≤ n ∧ t = .int .i64 b ∧ Hid (Ow2 w' w.heap.size 50 o (confAll zs a ++ confTo zs a b)) ∧ Below w.heap.size w w') (fun _ t _ => n - (intOf t).toNat)
      case atStart => exact ⟨a + 1, by omega, by omega, by go_num, (by rw [Hid, confTo_low zs a (a + 1) (by omega), List.append_nil]; exact HO.out), hW⟩
      case round =>
        obtain ⟨b, hb1, hb2, rfl, HV, hV⟩ := hrel
        have hsz := hV.size
        by_cases hlb : b < n
        · obtain ⟨r, hr⟩ : ∃ r, r = confB zs a b := ⟨_, rfl⟩
          have HCC : Hid (Calls Try.prog 69 #[.slice A n c, .int .i64 a, .int .i64 b] wr fun e w' => e = .returned (.bool r) ∧ Dr wr w') := by
            rw [hr]
            exact conflict_any A n c zs a b wr (HS.out.below hV (Nat.le_refl _)) (by omega) hlt hlb
          have HT : Hid (confTo zs a (b + 1) = confTo zs a b ++ if r = true then [(a, b)] else []) := by
            rw [Hid, confTo_succ, ← hr]; simp [show a < b by omega]
          clear hr
          have hlen : (confAll zs a ++ confTo zs a b).length ≤ 1099511627776 := by
            have h1 := confAll_len zs a
            have h2 := confTo_len zs a b
            have h3 : a * zs.length ≤ 1000 * 1000 := Nat.mul_le_mul (by omega) (by rw [HS.out.len]; omega)
            rw [List.length_append]; omega
          have HLEN := Lib.hid hlen; clear hlen
          cases r with
          | true =>
            go_wp2_with (first | (go_at_call 69; go_must (refine HCC.out.mono ?_); rintro e w2 ⟨rfl, hd2⟩; have hV2 := hV.trans (hd2.below _); have hs2 := hV2.size; have HV2 := Lib.hid (HV.out.below (hd2.below _) (Nat.le_refl _))) | (at_builtin; go_must (refine push2_law _ rfl (.tmp 24) (.tmp 28) 45 rfl w.heap.size 50 i0 Try.underlying45 HI.out _ (confAll zs a ++ confTo zs a b) a b rfl rfl HV2.out HLEN.out hs2 ?_); intro v1 w3 hv1 hg1; have HV1 := Lib.hid hv1; clear hv1; have HG1 := Lib.hid hg1; clear hg1))
            go_roundw
            case rel => exact ⟨b + 1, by omega, by omega, by go_num, (by rw [Hid, HT.out, ← List.append_assoc]; exact HV1.out), hV2.grown HG1.out hs2 (fun j e => (HV2.out.lt e).1)⟩
            case measure => simp [intOf]; omega
          | false =>
            go_wp2_with (go_at_call 69; go_must (refine HCC.out.mono ?_); rintro e w2 ⟨rfl, hd2⟩; have hV2 := hV.trans (hd2.below _); have HV2 := Lib.hid (HV.out.below (hd2.below _) (Nat.le_refl _)))
            go_roundw
            case rel => exact ⟨b + 1, by omega, by omega, by go_num, (by rw [Hid, HT.out, if_neg (by simp), List.append_nil]; exact HV2.out), hV2⟩
            case measure => simp [intOf]; omega
        · have hbn : b = n := by omega
          have HN : Hid (Ow2 wr w.heap.size 50 u3 (confAll zs (a + 1))) := by
            rw [Hid, confAll_succ, HS.out.len, ← hbn]; exact HV.out
          clear hbn
          go_wp2
          go_roundw
          case rel => exact ⟨a + 1, by omega, by go_num, HN, hV⟩
          case measure => simp [intOf]; omega
    · have han : a = n := by omega
      have HO' : Hid (Ow2 wr w.heap.size 50 u3 (confAll zs n)) := by rw [Hid, ← han]; exact HO.out
      clear han
      go_wp2
      go_ret
      exact ⟨_, rfl, HO'.out, hW⟩
end Go.Proofs.Ytmnnehpoaedifaa
/- Plain mathematics of layer 2: the rank of an order, as the reference computes it. -/
namespace Go.Proofs.Ytmnnehpoaedifaa

def rankF : Nat → List Int → Nat → Nat
  | 0, _, _ => 0
  | t + 1, o, d => if o.length = 0 then 0 else
      let f : Nat := ((o[0]?.getD 0 : Int) - (d : Int)).toNat
      catSum o.length (f - 1) + rankF t ((o.take f).drop 1) d * cat (o.length - f) + rankF t (o.drop f) (d + f)
/-- The list is as an order that one stack sorts, its items increased by d: first comes an item f, then the smaller ones, then the greater ones. -/
def RankOk : Nat → List Int → Nat → Prop
  | 0, o, _ => o.length = 0
  | t + 1, o, d => o.length = 0 ∨ ∃ f : Nat, 1 ≤ f ∧ f ≤ o.length ∧ o[0]?.getD 0 = (d : Int) + f ∧ RankOk t ((o.take f).drop 1) d ∧ RankOk t (o.drop f) (d + f)
theorem rankF_nil (t : Nat) {o : List Int} (d : Nat) (h : o.length = 0) : rankF t o d = 0 := by
  cases t
  · rfl
  · rw [rankF, if_pos h]
theorem rankF_at {t d f : Nat} {o : List Int} (h : o.length ≠ 0) (hf : o[0]?.getD 0 = (d : Int) + f) :
    rankF (t + 1) o d = catSum o.length (f - 1) + rankF t ((o.take f).drop 1) d * cat (o.length - f) + rankF t (o.drop f) (d + f) := by
  rw [rankF, if_neg h]
  have : (o[0]?.getD 0 - (d : Int)).toNat = f := by omega
  simp only [this]
theorem rankF_lt (t : Nat) : ∀ (o : List Int) (d : Nat), RankOk t o d → rankF t o d < cat o.length := by
  induction t with
  | zero => intro o d h; rw [show o.length = 0 from h]; exact Nat.zero_lt_one
  | succ t ih =>
    intro o d h
    rcases h with h | ⟨f, h1, h2, h3, h4, h5⟩
    · rw [rankF_nil _ _ h, h]; exact Nat.zero_lt_one
    · have a := ih _ _ h4
      have b := ih _ _ h5
      rw [show ((o.take f).drop 1).length = f - 1 from by simp; omega] at a
      rw [List.length_drop] at b
      rw [rankF_at (by omega) h3]
      have hs : catSum o.length (f - 1 + 1) ≤ cat o.length := catSum_le _ _ (by omega) (by omega)
      simp only [catSum] at hs
      rw [show o.length - 1 - (f - 1) = o.length - f from by omega] at hs
      have hm : (rankF t ((o.take f).drop 1) d + 1) * cat (o.length - f) ≤ cat (f - 1) * cat (o.length - f) := Nat.mul_le_mul_right _ a
      rw [Nat.succ_mul] at hm
      omega
end Go.Proofs.Ytmnnehpoaedifaa
