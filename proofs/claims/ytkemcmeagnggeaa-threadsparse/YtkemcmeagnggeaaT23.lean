import Derived.Test.YtkemcmeagnggeaaT22
/- Layer 3: contract: Parted. -/
namespace Go.Proofs.Ytkemcmeagnggeaa
open Go.RowKit
set_option linter.unusedVariables false

theorem mid_at {α β : Type} (f : α → β) (D Q : List α) (v : α) (z : β) : ((D ++ v :: Q).map f)[D.length]?.getD z = f v := by simp
theorem not_bad {x : Int × Int} (h1 : ¬ x.1 < 0) (h2 : ¬ x.2 < 0) : ¬ badR x := fun h => h ⟨fun e => absurd e h1, fun e => absurd e h2⟩
set_option maxRecDepth 100000 in
set_option maxHeartbeats 1600000 in
theorem parted_any (x y : ByteArray) (k most : Nat) (w : World) (hx : x.size ≤ 60) (hy : y.size ≤ 300) (hk : k ≤ 4) (hm : x.size < most) (hm2 : most ≤ 1000) :
    Calls Try.prog 38 #[.string x, .string y, .int .i64 k, .int .i64 most] w fun e w' => PaPost k (bs x) (bs y) e ∧ Below w.heap.size w w' := by
  have hu : (bs x).length ≤ 60 := by rw [bs_len]; exact hx
  have hs : (bs y).length ≤ 300 := by rw [bs_len]; exact hy
  obtain ⟨i0, hi, hz0, hz1, hz2⟩ := info_parts Try.infoStr
  have HIS : Hid (Try.prog.info? 9 = some i0 ∧ i0.zero = some (.string ByteArray.empty) ∧ i0.size = 1 ∧ i0.bytes = 16) := ⟨hi, hz0, hz1, hz2⟩
  clear hi hz0 hz1 hz2
  obtain ⟨i1, hi, hz0, hz1, hz2⟩ := info_parts Try.infoPt
  have HIP : Hid (Try.prog.info? 94 = some i1 ∧ i1.zero = some (.agg #[.int .i64 0, .int .i64 0]) ∧ i1.size = 2 ∧ i1.bytes = 16) := ⟨hi, hz0, hz1, hz2⟩
  clear hi hz0 hz1 hz2
  have HXL : Hid ((bs x).length = x.size) := bs_len x
  go_enter Try.func38, Try.ntmps38
  go_wp2
  have HS0 : Hid (PaS k (bs x) (bs y) w [] [(ByteArray.empty, (0, 0))] (.slice (some ⟨w.heap.size, 0, none⟩) 1 1) (.slice (some ⟨w.heap.size + 1, 0, none⟩) 1 1) ((w.alloc (.cells #[.string ⟨#[]⟩] 9)).alloc (.cells #[.int .i64 0, .int .i64 0] 94))) := by
    refine PaS.start w (((Below.refl _ w).alloc (Nat.le_refl _) _).alloc (by simp) _) ((Ows.one w w.heap.size _ ⟨#[]⟩ (Nat.le_refl _)).alloc _) ?_ ?_
    · have h := Owp.one (w.alloc (.cells #[.string ⟨#[]⟩] 9)) w.heap.size 94 0 0 (by simp)
      simpa using h
    · exact .inr (fun e => by injection e with e; exact absurd e (Nat.ne_of_lt (Nat.lt_succ_self _)))
  generalize (w.alloc (.cells #[.string ⟨#[]⟩] 9)).alloc (.cells #[.int .i64 0, .int .i64 0] 94) = w1 at HS0 ⊢
  go_loopw [10, 11, 12] (fun a b q w' => ∃ D Q, q = .int .i64 (D.length : Int) ∧ Hid (PaS k (bs x) (bs y) w D Q a b w')) (fun _ _ q _ => 20000 - (intOf q).toNat)
  case atStart => exact ⟨[], _, by go_num, HS0⟩
  case round =>
    obtain ⟨D, Q, rfl, HS⟩ := hrel
    obtain ⟨wo, rfl⟩ : ∃ wo : World, wo = wr := ⟨_, rfl⟩
    have hlen := HS.out.len hu hs
    cases Q with
    | nil =>
      obtain ⟨A, c, hae, hcl, _⟩ := HS.out.ws.rds
      rw [List.append_nil, List.length_map] at hae hcl
      have HN := Lib.hid HS.out.none
      have HB := Lib.hid HS.out.bl
      rw [List.append_nil] at hlen
      clear HS
      subst hae
      generalize D.length = q at *
      go_wp2
      go_ret2
      exact ⟨.inr ⟨rfl, HN.out⟩, HB.out⟩
    | cons v Q =>
      obtain ⟨q, hq⟩ : ∃ q, q = D.length := ⟨_, rfl⟩
      obtain ⟨n, hn⟩ : ∃ n, n = (D ++ v :: Q).length := ⟨_, rfl⟩
      have hqn : q < n := by rw [hq, hn]; simp
      obtain ⟨ga, ca, hae, hca, _, hga, hwa⟩ := HS.out.ws.form (n := n) (by rw [hn]; simp) (by omega)
      obtain ⟨gb, cb, hbe, hcb, _, hgb, hpb⟩ := HS.out.ps.form (n := n) (by rw [hn]; simp) (by omega)
      have c0 := hwa q hqn
      obtain ⟨c1, c2⟩ := hpb q hqn
      rw [hq, mid_at] at c0 c1 c2
      rw [← hq] at c0 c1 c2
      have hrng := HS.out.rng
      rw [HXL.out] at hrng
      rw [← hn] at hlen
      subst hae hbe
      rw [← hq]
      have HQ : Hid (((D ++ [v]).length : Int) = (q : Int) + 1) := by rw [Hid, List.length_append, ← hq]; rfl
      have HQ0 := Lib.hid hq
      have HNN := Lib.hid hn
      clear hq hn hwa hpb
      obtain ⟨A, hA⟩ : ∃ A, A = v.2.1 := ⟨_, rfl⟩
      obtain ⟨B, hB⟩ : ∃ B, B = v.2.2 := ⟨_, rfl⟩
      obtain ⟨z, hz⟩ : ∃ z, z = v.1 := ⟨_, rfl⟩
      rw [← hA] at c1 hrng
      rw [← hB] at c2 hrng
      rw [← hz] at c0 hrng
      by_cases hA0 : A < 0
      · have g1 : decide (A < 0) = true := decide_eq_true hA0
        by_cases hB0 : B < 0
        · -- dead
          have g2 : decide (B < 0) = true := decide_eq_true hB0
          have HS2 : Hid (PaS k (bs x) (bs y) w (D ++ [v]) Q (.slice (some ⟨ga, 0, none⟩) n ca) (.slice (some ⟨gb, 0, none⟩) n cb) wo) := (HS.out.take.dead ⟨by rw [← hA]; exact hA0, by rw [← hB]; exact hB0⟩).done (dead_bad _ ⟨by rw [← hA]; exact hA0, by rw [← hB]; exact hB0⟩)
          clear hA hB hz HS
          go_wp2
          go_quiet (fail)
          by_cases hzm : z.size < most
          · go_wp2
            exact ⟨⟨D ++ [v], Q, by rw [HQ.out], HS2.out.more _⟩, by simp [intOf] <;> omega⟩
          · go_wp2
            exact ⟨⟨D ++ [v], Q, by rw [HQ.out], HS2.out.more _⟩, by simp [intOf] <;> omega⟩
        · -- bad
          have g2 : decide (B < 0) = false := decide_eq_false hB0
          have HF := Lib.hid (HS.out.found (fun h => hB0 (by rw [hB]; exact h.1 (by rw [← hA]; exact hA0))))
          have HB := Lib.hid HS.out.bl
          rw [← hz] at HF
          clear hA hB hz HS
          go_wp2
          go_quiet (fail)
          go_wp2
          go_ret2
          exact ⟨.inl ⟨z, rfl, HF.out⟩, below_dn HB.out _⟩
      · have g1 : decide (A < 0) = false := decide_eq_false hA0
        by_cases hB0 : B < 0
        · have g2 : decide (B < 0) = true := decide_eq_true hB0
          have HF := Lib.hid (HS.out.found (fun h => hA0 (by rw [hA]; exact h.2 (by rw [← hB]; exact hB0))))
          have HB := Lib.hid HS.out.bl
          rw [← hz] at HF
          clear hA hB hz HS
          go_wp2
          go_quiet (fail)
          go_wp2
          go_ret2
          exact ⟨.inl ⟨z, rfl, HF.out⟩, below_dn HB.out _⟩
        · have g2 : decide (B < 0) = false := decide_eq_false hB0
          have hzm : z.size < most := by omega
          have g3 : decide (most ≤ z.size) = false := decide_eq_false (by omega)
          have hA1 : A ≤ 60 := by omega
          have hB1 : B ≤ 300 := by have := hrng.2; omega
          have HNB := Lib.hid (not_bad (x := v.2) (by rw [← hA]; exact hA0) (by rw [← hB]; exact hB0))
          have HI0 := Lib.hid HS.out.take
          have HV : Hid (v = (z, (A, B))) := by rw [Hid, hA, hB, hz]
          clear hA hB hz HS
          go_wp2
          go_quiet (fail)
          obtain ⟨An, rfl⟩ : ∃ An : Nat, A = (An : Int) := ⟨A.toNat, by omega⟩
          obtain ⟨Bn, rfl⟩ : ∃ Bn : Nat, B = (Bn : Int) := ⟨B.toNat, by omega⟩
          go_wp2
          clear c0 c1 c2 g1 g2 g3
          go_loopw [10, 11, 13] (fun a b cv w' => ∃ c Q', c ≤ k ∧ cv = .int .i64 (c : Int) ∧ Hid (PaI k (bs x) (bs y) w D v c Q' a b w')) (fun _ _ cv _ => k - (intOf cv).toNat)
          case atStart => exact ⟨0, Q, by omega, by go_num, HI0.out.more _⟩
          case round =>
            obtain ⟨c, Q', hc, rfl, HI⟩ := hrel
            obtain ⟨wi, rfl⟩ : ∃ wi : World, wi = wr := ⟨_, rfl⟩
            by_cases hlt : c < k
            · obtain ⟨m, hm⟩ : ∃ m, m = (D ++ v :: Q').length := ⟨_, rfl⟩
              have hqm : q < m := by rw [HQ0.out, hm]; simp
              have hlen2 : m ≤ 20000 := by rw [hm]; exact HI.out.len hu hs
              obtain ⟨ea, da, hae, hda, _, hea, hwa⟩ := HI.out.ws.form (n := m) (by rw [hm]; simp) (by omega)
              obtain ⟨eb, db, hbe, hdb, _, heb, hpb⟩ := HI.out.ps.form (n := m) (by rw [hm]; simp) (by omega)
              have c0 := hwa q hqm
              obtain ⟨c1, c2⟩ := hpb q hqm
              rw [HQ0.out, mid_at] at c0 c1 c2
              rw [HV.out, ← HQ0.out] at c0 c1 c2
              dsimp only at c0 c1 c2
              have HM := Lib.hid hm
              clear hm hwa hpb
              subst hae hbe
              obtain ⟨r1, hr1⟩ : ∃ r, r = nextF (bs x) An (97 + (c : Int)) := ⟨_, rfl⟩
              obtain ⟨r2, hr2⟩ : ∃ r, r = nextF (bs y) Bn (97 + (c : Int)) := ⟨_, rfl⟩
              have HN1 := Lib.hid (fun W => next_any x An (97 + (c : Int)) W (by omega) (by omega))
              have HN2 := Lib.hid (fun W => next_any y Bn (97 + (c : Int)) W (by omega) (by omega))
              rw [← hr1] at HN1
              rw [← hr2] at HN2
              have HT : Hid (twoR (bs x) (bs y) v.2 c = (r1, r2)) := by
                rw [Hid, HV.out]
                show (stepR (bs x) (An : Int) c, stepR (bs y) (Bn : Int) c) = _
                rw [stepR_pos, stepR_pos, hr1, hr2]
              clear hr1 hr2
              go_upto_region 13 with (fail)
              go_region_held_law (fun W => W.cell? ⟨eb, q * 2, none⟩ = some (.int .i64 (An : Int)) ∧ W.cell? ⟨eb, q * 2 + 1, none⟩ = some (.int .i64 (Bn : Int)))
                (first | assumption | exact ⟨c1, c2⟩ | exact ⟨(cell_alloc_old _ _ heb).trans c1, (cell_alloc_old _ _ heb).trans c2⟩)
                (first
                  | (go_at_call 54; (with_reducible refine (HN1.out _).mono ?_); rintro e w1 ⟨rfl, rfl⟩)
                  | (go_at_call 54; (with_reducible refine (HN2.out _).mono ?_); rintro e w1 ⟨rfl, rfl⟩))
              all_goals
                have hb6 : Below wi.heap.size wi (wi.alloc (.cells #[.int .i64 r1, .int .i64 r2] 94)).drew := ((Below.refl _ wi).alloc (Nat.le_refl _) _).drew
                have hn6 : (wi.alloc (.cells #[.int .i64 r1, .int .i64 r2] 94)).drew.heap[wi.heap.size]? = some (.cells #[.int .i64 r1, .int .i64 r2] 94 (0, 0)) := heap_alloc_last _ _
                generalize (wi.alloc (.cells #[.int .i64 r1, .int .i64 r2] 94)).drew = w6 at hb6 hn6 ⊢
                have HI6 := Lib.hid (HI.out.mono hb6)
                have hE : ea ≠ wi.heap.size := Nat.ne_of_lt hea
                have hB6 := hb6.size
                have d0 : w6.cell? ⟨ea, q, none⟩ = some (.string z) := (World.cell?_of_block (a := ⟨ea, q, none⟩) (hb6.block ea hea)).trans c0
                have n0 : w6.cell? ⟨wi.heap.size, 0, none⟩ = some (.int .i64 r1) := by rw [cell_of_row _ _ _ _ _ _ hn6]; rfl
                have n1 : w6.cell? ⟨wi.heap.size, 1, none⟩ = some (.int .i64 r2) := by rw [cell_of_row _ _ _ _ _ _ hn6]; rfl
                clear c0 c1 c2 HI
                generalize wi.heap.size = bn at *
                have HHAS := Lib.hid (hasPt_any w.heap.size 94 m (.slice (some ⟨eb, 0, none⟩) m db) (List.map (fun x : Vr => x.2) (D ++ v :: Q')) r1 r2 w6 (by rw [HM.out]; simp) (by omega) (by omega) HI6.out.ps)
                cases hp : hasPt (List.map (fun x : Vr => x.2) (D ++ v :: Q')) (r1, r2) with
                | true =>
                  have HSK : Hid (PaI k (bs x) (bs y) w D v (c + 1) Q' (.slice (some ⟨ea, 0, none⟩) m da) (.slice (some ⟨eb, 0, none⟩) m db) w6) := HI6.out.skip (.inr (by rw [HT.out]; exact of_decide_eq_true hp))
                  rw [hp] at HHAS
                  clear hp d0
                  go_wp2_with (go_at_call 60; refine HHAS.out.mono ?_; rintro e w7 ⟨rfl, hb7⟩)
                  go_roundw
                  case rel => exact ⟨c + 1, Q', by omega, by go_num, HSK.out.mono hb7⟩
                  case measure => simp [intOf]; omega
                | false =>
                  have HNI : Hid (twoR (bs x) (bs y) v.2 c ∉ List.map (fun x : Vr => x.2) (D ++ v :: Q')) := by rw [Hid, HT.out]; exact of_decide_eq_false hp
                  rw [hp] at HHAS
                  clear hp
                  have hbl : ea < w6.heap.size ∧ eb < w6.heap.size := ⟨Nat.lt_of_lt_of_le hea hB6, Nat.lt_of_lt_of_le heb hB6⟩
                  have hbn := (Array.getElem?_eq_some_iff.1 hn6).1
                  have hwB := HI6.out.bl.size
                  have hML : Hid ((List.map (fun x : Vr => x.2) (D ++ v :: Q')).length ≤ 1099511627776) := by rw [Hid, List.length_map, ← HM.out]; omega
                  have hML2 : Hid ((List.map (fun x : Vr => x.1) (D ++ v :: Q')).length ≤ 1000000) := by rw [Hid, List.length_map, ← HM.out]; omega
                  go_upto_region 15 with (go_at_call 60; refine HHAS.out.mono ?_; rintro e w7 ⟨rfl, hb7⟩)
                  have HI7 := Lib.hid (HI6.out.mono hb7)
                  have e0 := (World.cell?_of_block (a := ⟨ea, q, none⟩) (hb7.block ea hbl.1)).trans d0
                  have m0 := (World.cell?_of_block (a := ⟨bn, 0, none⟩) (hb7.block bn hbn)).trans n0
                  have m1 := (World.cell?_of_block (a := ⟨bn, 1, none⟩) (hb7.block bn hbn)).trans n1
                  have hw7 := hb7.size
                  clear n0 n1 d0 hb7 HI6 HHAS
                  go_upto_region 16 with (at_builtin; go_must (refine pushp_law _ rfl (.tmp 86) (.tmp 88) 95 rfl w.heap.size 94 i1 Try.underlying95 HIP.out _ (List.map (fun x : Vr => x.2) (D ++ v :: Q')) r1 r2 rfl rfl HI7.out.ps hML.out (Nat.le_trans hwB hw7) ?_); intro v8 w8 hv8 hg8 hat8)
                  have hab : ea ≠ eb := fun e => by
                    rcases HI7.out.ap with h | h
                    · cases h
                    · exact h (by rw [e]; rfl)
                  have hw8 := hg8.size
                  have f0 := (hg8.cell_far ⟨ea, q, none⟩ (Nat.lt_of_lt_of_le hbl.1 hw7) (fun e => hab (by injection e))).trans e0
                  have HWS := Lib.hid (HI7.out.ws.kept hg8 HI7.out.ap)
                  have HZL : Hid (z.size ≤ 60) := by have := hrng.1; rw [Hid]; omega
                  have hzz : z.size + (chr (97 + c)).size ≤ 9223372036854775807 := by have h1 := HZL.out; have h2 : (chr (97 + c)).size = 1 := rfl; omega
                  have hadd := fun V => run_string_add_sum (P := Try.prog) (w := V) z (chr (97 + c)) hzz
                  have HG8 := Lib.hid hg8
                  have HP8 := Lib.hid hv8
                  have HAT := Lib.hid hat8
                  clear e0 m0 m1 hg8 hv8 hat8 hab hzz
                  have hcv := one_letter_drew w8 (97 + c) (by omega) (97 + (c : Int)) (by omega)
                  have HTWO := Lib.hid (fun W h => two_new w8 (.cells #[.int .u8 (97 + (c : Int))] 5) (z ++ chr (97 + c)) 9 W h)
                  have HS8 : Hid (w.heap.size ≤ w8.heap.size) := by rw [Hid]; omega
                  have f1 : (w8.alloc (.cells #[.int .u8 (97 + (c : Int))] 5)).drew.cell? ⟨ea, q, none⟩ = some (.string z) := (cell_alloc_old w8 (.cells #[.int .u8 (97 + (c : Int))] 5) (p := ⟨ea, q, none⟩) (Nat.lt_of_lt_of_le (Nat.lt_of_lt_of_le hbl.1 hw7) hw8)).trans f0
                  go_region_law (first
                  | (refine pushs_step rfl (.tmp 90) (.tmp 99) 51 rfl w.heap.size 9 i0 Try.underlying51 HIS.out _ (List.map (fun x : Vr => x.1) (D ++ v :: Q')) (z ++ chr (97 + c)) (w8.heap.size + 1) rfl rfl (by first | exact (HTWO.out _ (.inl rfl)).1 | exact (HTWO.out _ (.inr rfl)).1) (HWS.out.below (by first | exact (HTWO.out _ (.inl rfl)).2.1 | exact (HTWO.out _ (.inr rfl)).2.1) (Nat.le_refl _)) hML2.out (Nat.le_trans HS8.out (by first | exact (HTWO.out _ (.inl rfl)).2.2 | exact (HTWO.out _ (.inr rfl)).2.2)) ?_; intro v9 w9 hv9 hg9 hat9; have HG9 : Hid (w8.grownBy w9 (Value.slice (some ⟨ea, 0, none⟩) m da).ownBlock) := (by first | exact below_grown (HTWO.out _ (.inl rfl)).2.1 hg9 | exact below_grown (HTWO.out _ (.inr rfl)).2.1 hg9); have HAT9 : Hid (v9.ownBlock = (Value.slice (some ⟨ea, 0, none⟩) m da).ownBlock ∨ ∃ g, v9.ownBlock = some g ∧ w8.heap.size ≤ g) := (by rcases hat9 with h | ⟨g, h1, h2⟩; exact .inl h; exact .inr ⟨g, h1, Nat.le_trans (by first | exact (HTWO.out _ (.inl rfl)).2.2 | exact (HTWO.out _ (.inr rfl)).2.2) h2⟩); have HP9 := Lib.hid hv9; clear hv9 hg9 hat9))
                  all_goals
                    go_wp2
                    have HNEW := Lib.hid (HI7.out.grow hlt hk HNI.out HT.out (z := z) (by rw [HV.out]) HP8.out HG8.out HAT.out HP9.out HG9.out HAT9.out)
                    exact ⟨⟨c + 1, _, by omega, by go_num, HNEW⟩, by simp [intOf] <;> omega⟩
            · have HR : Hid (PaS k (bs x) (bs y) w (D ++ [v]) Q' u10 u11 wi) := by
                obtain rfl : c = k := by omega
                exact HI.out.done HNB.out
              go_wp2
              exact ⟨⟨D ++ [v], Q', by rw [HQ.out], HR.out⟩, by simp [intOf] <;> omega⟩
end Go.Proofs.Ytkemcmeagnggeaa
