import Derived.Test.YthlccidbphkfaaaT27
import Derived.Test.YthlccidbphkfaaaT19
import Derived.Test.YthlccidbphkfaaaT24
import Derived.Test.YthlccidbphkfaaaT21
import Derived.Test.YthlccidbphkfaaaT20
import Derived.Test.YthlccidbphkfaaaT28
import Derived.Test.YthlccidbphkfaaaT25
/- Layer 3: the walk of ThreadCommon. -/
namespace Go.Proofs.Ythlccidbphkfaaa
open Go.RowKit
set_option linter.unusedVariables false

theorem longest_known (u x o : ByteArray) (W : World) (hu : wordB (bs u) = true) (hx : wordB (bs x) = true) (ho : IsG (bs u) (bs x) 0 0 (bs o)) :
    Calls Try.prog 19 #[.string u, .string x] W fun e w' => e = .returned (.tuple #[.string o, .int .i64 0]) ∧ Below W.heap.size W w' := by
  refine (longestP_any u x W hu hx).mono ?_
  rintro e w' ⟨⟨z, rfl, hz⟩, hb⟩
  have : z = o := bs_inj (hz.uniq ho)
  subst this
  exact ⟨rfl, hb⟩
theorem within_ref (z x : ByteArray) (W : World) (hz : z.size ≤ 1000000) (hx : x.size ≤ 1000000) :
    Calls Try.prog 23 #[.string z, .string x] W fun e w' => ∃ v, e = .returned (.tuple #[v, .bool (subB (bs z) (bs x))]) ∧ Below W.heap.size W w' := by
  refine (within_any z x W hz hx).mono ?_
  rintro e w' ⟨v, rfl, _, hb⟩
  exact ⟨v, rfl, hb⟩
theorem common_le {u x s : ByteArray} {z o : ByteArray} (ho : IsG (bs u) (bs x) 0 0 (bs o)) (hz : isW 4 (bs z)) (h1 : subB (bs z) (bs u) = true) (h2 : subB (bs z) (bs x) = true) : z.size ≤ o.size := by
  have := lcs_ge (bs z) 0 0 (Nat.zero_le _) (Nat.zero_le _) hz (by rw [List.drop_zero]; exact sub_iff.1 h1) (by rw [List.drop_zero]; exact sub_iff.1 h2)
  rw [← ho.length, bs_len, bs_len] at this
  exact this
set_option maxRecDepth 100000 in
set_option maxHeartbeats 3200000 in
theorem common_walk (a0 a1 a2 : ByteArray) (w0 : a0.size ≤ maxLen) (w1 : a1.size ≤ maxLen) (w2 : a2.size ≤ maxLen) (w : World) :
    Calls Try.prog 12 #[.string a0, .string a1, .string a2] w fun e w' => e = .returned (.bool true) ∧ Below w.heap.size w w' := by
  have tm : ∀ s : ByteArray, s.size ≤ maxLen → ∃ x : ByteArray, isW 4 (bs x) ∧ x.size ≤ 40 ∧ ∀ W, Calls Try.prog 46 #[.string s, .int .i64 40, .int .i64 4] W fun e w' => e = .returned (.string x) ∧ Below W.heap.size W w' := fun s hs =>
    ⟨tmB s 40 4, tmB_isW s 40 4 (by omega) (by omega), tmB_size s 40 4, fun W => tame_max s 40 4 W (by unfold maxLen at hs; omega) (by omega) (by omega) (by omega)⟩
  obtain ⟨u, hu, hu40, hT0⟩ := tm a0 w0
  obtain ⟨x, hx, hx40, hT1⟩ := tm a1 w1
  obtain ⟨s, hs, hs40, hT2⟩ := tm a2 w2
  have HT0 := Lib.hid hT0; have HT1 := Lib.hid hT1; have HT2 := Lib.hid hT2
  clear hT0 hT1 hT2 tm
  have HAW := Lib.hid (fun W => awake_here W)
  have hwu : wordB (bs u) = true := isW_word hu (by rw [bs_len]; omega)
  have hwx : wordB (bs x) = true := isW_word hx (by rw [bs_len]; omega)
  have HL1 := Lib.hid (fun W => longestP_any u x W hwu hwx)
  have HL2 : Hid (∀ (o : ByteArray) W, IsG (bs u) (bs x) 0 0 (bs o) → Calls Try.prog 19 #[.string x, .string u] W fun e w' => e = .returned (.tuple #[.string o, .int .i64 0]) ∧ Below W.heap.size W w') := fun o W ho => longest_known x u o W hwx hwu (ho.symm (Nat.zero_le _) (Nat.zero_le _))
  have HL3 : Hid (∀ W, Calls Try.prog 19 #[.string u, .string u] W fun e w' => e = .returned (.tuple #[.string u, .int .i64 0]) ∧ Below W.heap.size W w') := fun W => by
    refine (longestP_any u u W hwu hwu).mono ?_
    rintro e w' ⟨⟨z, rfl, hz⟩, hb⟩
    have : z = u := bs_inj (hz.self hu)
    subst this
    exact ⟨rfl, hb⟩
  have HWU : Hid (∀ (o : ByteArray) W, IsG (bs u) (bs x) 0 0 (bs o) → Calls Try.prog 18 #[.string o, .string u] W fun e w' => ∃ v, e = .returned (.tuple #[v, .int .i64 0]) ∧ Below W.heap.size W w') := fun o W ho => by
    have h1 := (ho.sub (Nat.zero_le _) (Nat.zero_le _)).1
    rw [List.drop_zero] at h1
    have := h1.length_le
    rw [bs_len u] at this
    exact within_known o u true (sub_iff.2 h1) (isW_word ho.word (by omega)) hwu W
  have HWX : Hid (∀ (o : ByteArray) W, IsG (bs u) (bs x) 0 0 (bs o) → Calls Try.prog 18 #[.string o, .string x] W fun e w' => ∃ v, e = .returned (.tuple #[v, .int .i64 0]) ∧ Below W.heap.size W w') := fun o W ho => by
    have h1 := (ho.sub (Nat.zero_le _) (Nat.zero_le _)).2
    rw [List.drop_zero] at h1
    have := h1.length_le
    rw [bs_len x] at this
    exact within_known o x true (sub_iff.2 h1) (isW_word ho.word (by omega)) hwx W
  have HXS := Lib.hid hs
  clear hu hx hwu hwx hs
  go_enter Try.func12, Try.ntmps12
  go_wp2_with (first | (go_at_call 46; (with_reducible refine (HT0.out _).mono ?_); rintro e w3 ⟨rfl, hb3⟩; clear HT0) | (go_at_call 46; (with_reducible refine (HT1.out _).mono ?_); rintro e w4 ⟨rfl, hb4⟩; clear HT1) | (go_at_call 46; (with_reducible refine (HT2.out _).mono ?_); rintro e w5 ⟨rfl, hb5⟩; clear HT2) | (go_at_call 19; (with_reducible refine (HL1.out _).mono ?_); rintro e w6 ⟨⟨o, rfl, ho⟩, hb6⟩; have HO := Lib.hid ho; clear ho HL1) | (go_at_call 19; (with_reducible refine (HL2.out _ _ HO.out).mono ?_); rintro e w7 ⟨rfl, hb7⟩; clear HL2) | (go_at_call 19; (with_reducible refine (HL3.out _).mono ?_); rintro e w8 ⟨rfl, hb8⟩; clear HL3) | (go_at_call 18; (with_reducible refine (HWU.out _ _ HO.out).mono ?_); rintro e w9 ⟨v9, rfl, hb9⟩; clear HWU) | (go_at_call 18; (with_reducible refine (HWX.out _ _ HO.out).mono ?_); rintro e w10 ⟨v10, rfl, hb10⟩; clear HWX))
  have k10 : Kp w w10 := (((((((Kp.call (hb3 : Kp w w3) hb4).call hb5).call hb6).call hb7).call hb8).call hb9).call hb10)
  clear hb3 hb4 hb5 hb6 hb7 hb8 hb9 hb10
  go_loopw [17, 18] (fun c k w' => ∃ (j : Nat) (z : ByteArray), j ≤ s.size ∧ z.size ≤ j ∧ c = .string z ∧ k = .int .i64 (j : Int) ∧ Hid (isW 4 (bs z) ∧ subB (bs z) (bs u) = true ∧ subB (bs z) (bs x) = true) ∧ Below w10.heap.size w10 w') (fun _ k _ => s.size - (intOf k).toNat)
  case atStart => exact ⟨0, ⟨#[]⟩, by omega, by decide, rfl, by go_num, ⟨fun b hb => (by cases hb), sub_iff.2 (List.nil_sublist _), sub_iff.2 (List.nil_sublist _)⟩, Below.refl _ _⟩
  case round =>
    obtain ⟨j, z, hj, hz, rfl, rfl, HZ, hD⟩ := hrel
    obtain ⟨wo, rfl⟩ : ∃ wo : World, wo = wr := ⟨_, rfl⟩
    by_cases hlt : j < s.size
    · have hs1 : (s.extract j (j + 1)).size = 1 := by rw [ByteArray.size_extract]; omega
      have hnz : (z ++ s.extract j (j + 1)).size = z.size + 1 := by rw [ByteArray.size_append, hs1]
      have hnw : isW 4 (bs (z ++ s.extract j (j + 1))) := by
        rw [bs_append, bs_one s j hlt]
        intro b hb
        rcases List.mem_append.1 hb with hb | hb
        · exact HZ.out.1 b hb
        · rw [List.mem_singleton.1 hb, List.getElem?_eq_getElem (by rw [bs_len]; exact hlt)]
          exact HXS.out _ (List.getElem_mem (by rw [bs_len]; exact hlt))
      have hzz : z.size + (s.extract j (j + 1)).size ≤ 9223372036854775807 := by omega
      have hsl : ∀ V, (Instr.slice 9 (.string s) (some (.int .i64 (j : Int))) (some (.int .i64 ((j : Int) + 1))) none).run Try.prog V = .ok (.string (s.extract j (j + 1))) V := fun V =>
        (run_slice_string (P := Try.prog) V 9 s .i64 .i64 (j : Int) ((j : Int) + 1) Try.underlying9 (by omega) (by omega) (by omega)).trans (by rw [show ((j : Int) + 1).toNat = j + 1 from by omega, Int.toNat_natCast])
      have hadd := fun V => run_string_add_sum (P := Try.prog) (w := V) z (s.extract j (j + 1)) hzz
      have HNW := Lib.hid hnw
      have HNZ := Lib.hid hnz
      have HR1 := Lib.hid (fun W => within_ref (z ++ s.extract j (j + 1)) u W (by omega) (by omega))
      have HR2 := Lib.hid (fun W => within_ref (z ++ s.extract j (j + 1)) x W (by omega) (by omega))
      obtain ⟨b1, hb1⟩ : ∃ b, b = subB (bs (z ++ s.extract j (j + 1))) (bs u) := ⟨_, rfl⟩
      obtain ⟨b2, hb2⟩ : ∃ b, b = subB (bs (z ++ s.extract j (j + 1))) (bs x) := ⟨_, rfl⟩
      rw [← hb1] at HR1
      rw [← hb2] at HR2
      have HB1 := Lib.hid hb1
      have HB2 := Lib.hid hb2
      clear hb1 hb2 hnw hnz hs1
      cases b1
      all_goals cases b2
      all_goals
        go_wp2_with (first | (go_at_call 23; (with_reducible refine (HR1.out _).mono ?_); rintro e w11 ⟨v11, rfl, hb11⟩) | (go_at_call 23; (with_reducible refine (HR2.out _).mono ?_); rintro e w12 ⟨v12, rfl, hb12⟩))
      all_goals have HD12 := Lib.hid ((hD.trans (hb11.mono hD.size)).trans (hb12.mono (Nat.le_trans hD.size hb11.size)))
      · exact ⟨⟨j + 1, z, by omega, by omega, rfl, by go_num, HZ, HD12.out⟩, by simp [intOf] <;> omega⟩
      · exact ⟨⟨j + 1, z, by omega, by omega, rfl, by go_num, HZ, HD12.out⟩, by simp [intOf] <;> omega⟩
      · exact ⟨⟨j + 1, z, by omega, by omega, rfl, by go_num, HZ, HD12.out⟩, by simp [intOf] <;> omega⟩
      · exact ⟨⟨j + 1, z ++ s.extract j (j + 1), by omega, by rw [HNZ.out]; omega, rfl, by go_num, ⟨HNW.out, HB1.out.symm, HB2.out.symm⟩, HD12.out⟩, by simp [intOf] <;> omega⟩
    · have hle := common_le (s := s) HO.out HZ.out.1 HZ.out.2.1 HZ.out.2.2
      have g1 : ((z.size : Int) ≤ (o.size : Int)) := by omega
      have g2 : decide ((z.size : Int) ≤ (o.size : Int)) = true := decide_eq_true g1
      go_wp2_with (go_at_call 21; refine (HAW.out _).mono ?_; rintro e w13 ⟨rfl, hb13⟩)
      go_ret
      exact ⟨rfl, (k10.call hD).call hb13⟩
end Go.Proofs.Ythlccidbphkfaaa
/- Layer 3: the walk of ThreadWithin. -/
namespace Go.Proofs.Ythlccidbphkfaaa
open Go.RowKit
set_option linter.unusedVariables false

/-- Longest of the program where a string is no word. -/
theorem longestP_bad (u s : ByteArray) (w : World) (hu : u.size ≤ 1000000) (hs : s.size ≤ 1000000) (h : wordB (bs u) = false ∨ wordB (bs s) = false) :
    Calls Try.prog 19 #[.string u, .string s] w fun e w' => e = .returned (.tuple #[.string ByteArray.empty, .int .i64 2]) ∧ Dr w w' := by
  by_cases h1 : wordB (bs u) = true
  · have h2 : wordB (bs s) = false := by rcases h with h | h <;> simp_all
    have HU := Lib.hid (fun W => isWord_is u true W (by omega) h1)
    have HS := Lib.hid (fun W => isWord_is s false W (by omega) h2)
    clear h h1 h2
    go_enter Try.func19, Try.ntmps19
    go_wp2_with (first | (go_at_call 48; (with_reducible refine (HU.out _).mono ?_); rintro e w1 ⟨rfl, hd1⟩) | (go_at_call 48; (with_reducible refine (HS.out _).mono ?_); rintro e w2 ⟨rfl, hd2⟩))
    go_ret2
    exact ⟨rfl, hd1.trans hd2⟩
  · have HU := Lib.hid (fun W => isWord_is u false W (by omega) (by simpa using h1))
    clear h h1
    go_enter Try.func19, Try.ntmps19
    go_wp2_with (first | (go_at_call 48; (with_reducible refine (HU.out _).mono ?_); rintro e w1 ⟨rfl, hd1⟩))
    go_ret2
    exact ⟨rfl, hd1⟩
theorem longestR_known (u x o : ByteArray) (W : World) (hu : wordB (bs u) = true) (hx : wordB (bs x) = true) (ho : IsG (bs u) (bs x) 0 0 (bs o)) :
    Calls Try.prog 22 #[.string u, .string x] W fun e w' => e = .returned (.string o) ∧ Below W.heap.size W w' := by
  refine (longestR_any u x W hu hx).mono ?_
  rintro e w' ⟨⟨z, rfl, hz⟩, hb⟩
  have : z = o := bs_inj (hz.uniq ho)
  subst this
  exact ⟨rfl, hb⟩
set_option maxRecDepth 100000 in
set_option maxHeartbeats 3200000 in
theorem within_walk (a0 a1 : ByteArray) (w0 : a0.size ≤ maxLen) (w1 : a1.size ≤ maxLen) (w : World) :
    Calls Try.prog 3 #[.string a0, .string a1] w fun e w' => e = .returned (.bool true) ∧ Below w.heap.size w w' := by
  have HS0 : Hid (∀ W, Calls Try.prog 17 #[.string a0] W fun e w' => e = .returned (.string (cut61 a0)) ∧ W = w') := fun W => short_max a0 W (by unfold maxLen at w0; omega)
  have HS1 : Hid (∀ W, Calls Try.prog 17 #[.string a1] W fun e w' => e = .returned (.string (cut61 a1)) ∧ W = w') := fun W => short_max a1 W (by unfold maxLen at w1; omega)
  have hu := cut61_size a0
  have hx := cut61_size a1
  generalize cut61 a0 = u at HS0 hu
  generalize cut61 a1 = x at HS1 hx
  have HWU : Hid (∀ b W, wordB (bs u) = b → Calls Try.prog 20 #[.string u] W fun e w' => e = .returned (.bool b) ∧ W = w') := fun b W hb => by subst hb; exact word_any u W (by omega)
  have HWX : Hid (∀ b W, wordB (bs x) = b → Calls Try.prog 20 #[.string x] W fun e w' => e = .returned (.bool b) ∧ W = w') := fun b W hb => by subst hb; exact word_any x W (by omega)
  have HAW := Lib.hid (fun W => awake_here W)
  by_cases hbad : wordB (bs u) = false ∨ wordB (bs x) = false
  · have HWI := Lib.hid (fun W => withinP_bad u x W (by omega) (by omega) hbad)
    have HLO := Lib.hid (fun W => longestP_bad u x W (by omega) (by omega) hbad)
    by_cases hwu : wordB (bs u) = false
    · have HW1 := Lib.hid (fun W => HWU.out false W hwu)
      clear hbad hwu HWU HWX
      go_enter Try.func3, Try.ntmps3
      go_wp2_with (first | (go_at_call 17; (with_reducible refine (HS0.out _).mono ?_); rintro e w1 ⟨rfl, rfl⟩) | (go_at_call 17; (with_reducible refine (HS1.out _).mono ?_); rintro e w2 ⟨rfl, rfl⟩) | (go_at_call 18; refine (HWI.out _).mono ?_; rintro e w3 ⟨rfl, hd3⟩) | (go_at_call 19; refine (HLO.out _).mono ?_; rintro e w4 ⟨rfl, hd4⟩) | (go_at_call 20; (with_reducible refine (HW1.out _).mono ?_); rintro e w5 ⟨rfl, rfl⟩) | (go_at_call 21; refine (HAW.out _).mono ?_; rintro e w6 ⟨rfl, hb6⟩))
      go_ret
      have k3 : Kp w w3 := hd3.below _
      exact ⟨rfl, (k3.call (hd4.below _)).call hb6⟩
    · have hwx : wordB (bs x) = false := hbad.resolve_left hwu
      have HW1 := Lib.hid (fun W => HWU.out true W (by simpa using hwu))
      have HW2 := Lib.hid (fun W => HWX.out false W hwx)
      clear hbad hwu hwx HWU HWX
      go_enter Try.func3, Try.ntmps3
      go_wp2_with (first | (go_at_call 17; (with_reducible refine (HS0.out _).mono ?_); rintro e w1 ⟨rfl, rfl⟩) | (go_at_call 17; (with_reducible refine (HS1.out _).mono ?_); rintro e w2 ⟨rfl, rfl⟩) | (go_at_call 18; refine (HWI.out _).mono ?_; rintro e w3 ⟨rfl, hd3⟩) | (go_at_call 19; refine (HLO.out _).mono ?_; rintro e w4 ⟨rfl, hd4⟩) | (go_at_call 20; (with_reducible refine (HW1.out _).mono ?_); rintro e w5 ⟨rfl, rfl⟩) | (go_at_call 20; (with_reducible refine (HW2.out _).mono ?_); rintro e w5 ⟨rfl, rfl⟩) | (go_at_call 21; refine (HAW.out _).mono ?_; rintro e w6 ⟨rfl, hb6⟩))
      go_ret
      have k3 : Kp w w3 := hd3.below _
      exact ⟨rfl, (k3.call (hd4.below _)).call hb6⟩
  · have hwu : wordB (bs u) = true := by cases e : wordB (bs u) <;> simp_all
    have hwx : wordB (bs x) = true := by cases e : wordB (bs x) <;> simp_all
    have HW1 := Lib.hid (fun W => HWU.out true W hwu)
    have HW2 := Lib.hid (fun W => HWX.out true W hwx)
    have HLO := Lib.hid (fun W => longestP_any u x W hwu hwx)
    have HLR := Lib.hid (fun o W ho => longestR_known u x o W hwu hwx ho)
    have HWP := Lib.hid (fun W => withinP_any u x W hwu hwx)
    have HWR := Lib.hid (fun W => within_any u x W (by omega) (by omega))
    have hlen : ∀ l, withinF (bs u) (bs x) = some l → l.length ≤ 61 := fun l hl => by
      unfold withinF at hl
      obtain ⟨p, hp, rfl⟩ := Option.map_eq_some_iff.1 hl
      have := (withinTo_len hp).1
      rw [this, bs_len]; omega
    clear hbad hwu hwx HWU HWX
    cases hin : withinF (bs u) (bs x) with
    | none =>
      have HWP2 : Hid (∀ W, Calls Try.prog 18 #[.string u, .string x] W fun e w' => ∃ A c, e = .returned (.tuple #[.slice A 0 c, .int .i64 6]) ∧ Below W.heap.size W w') := fun W => by
        refine (HWP.out W).mono ?_
        rintro e w' ⟨v, rfl, hv, hb⟩
        rw [hin] at hv ⊢
        obtain ⟨A, c, rfl, _⟩ := hv.sl_len (n := 0) rfl (by omega)
        exact ⟨A, c, rfl, hb⟩
      rw [hin] at HWR
      clear HWP hin hlen
      go_enter Try.func3, Try.ntmps3
      go_wp2_with (first | (go_at_call 17; (with_reducible refine (HS0.out _).mono ?_); rintro e w1 ⟨rfl, rfl⟩) | (go_at_call 17; (with_reducible refine (HS1.out _).mono ?_); rintro e w2 ⟨rfl, rfl⟩) | (go_at_call 18; refine (HWP2.out _).mono ?_; rintro e w3 ⟨A3, c3, rfl, hb3⟩) | (go_at_call 19; refine (HLO.out _).mono ?_; rintro e w4 ⟨⟨o, rfl, ho⟩, hb4⟩; have HO := Lib.hid ho; clear ho) | (go_at_call 20; (with_reducible refine (HW1.out _).mono ?_); rintro e w5 ⟨rfl, rfl⟩) | (go_at_call 20; (with_reducible refine (HW2.out _).mono ?_); rintro e w5 ⟨rfl, rfl⟩) | (go_at_call 22; refine (HLR.out _ _ HO.out).mono ?_; rintro e w7 ⟨rfl, hb7⟩) | (go_at_call 23; refine (HWR.out _).mono ?_; rintro e w8 ⟨v8, rfl, hv8, hb8⟩; clear hv8) | (go_at_call 21; refine (HAW.out _).mono ?_; rintro e w6 ⟨rfl, hb6⟩))
      go_ret
      have k3 : Kp w w3 := hb3
      exact ⟨rfl, (((k3.call hb4).call hb7).call hb8).call hb6⟩
    | some l =>
      obtain ⟨n, hn⟩ : ∃ n, l.length = n := ⟨_, rfl⟩
      have hn61 : n ≤ 61 := by rw [← hn]; exact hlen l hin
      have HWP2 : Hid (∀ W, Calls Try.prog 18 #[.string u, .string x] W fun e w' => ∃ A c, e = .returned (.tuple #[.slice A n c, .int .i64 0]) ∧ Sl w' A n c l ∧ Below W.heap.size W w') := fun W => by
        refine (HWP.out W).mono ?_
        rintro e w' ⟨v, rfl, hv, hb⟩
        rw [hin] at hv ⊢
        obtain ⟨A, c, rfl, hs⟩ := hv.sl_len (n := n) hn (by omega)
        exact ⟨A, c, rfl, hs, hb⟩
      have HWR2 : Hid (∀ W, Calls Try.prog 23 #[.string u, .string x] W fun e w' => ∃ A c, e = .returned (.tuple #[.slice A n c, .bool true]) ∧ Sl w' A n c l ∧ Below W.heap.size W w') := fun W => by
        refine (HWR.out W).mono ?_
        rintro e w' ⟨v, rfl, hv, hb⟩
        rw [hin] at hv ⊢
        obtain ⟨A, c, rfl, hs⟩ := hv.sl_len (n := n) hn (by omega)
        exact ⟨A, c, rfl, hs, hb⟩
      have HN := Lib.hid hn
      clear HWP HWR hin hlen hn
      go_enter Try.func3, Try.ntmps3
      go_wp2_with (first | (go_at_call 17; (with_reducible refine (HS0.out _).mono ?_); rintro e w1 ⟨rfl, rfl⟩) | (go_at_call 17; (with_reducible refine (HS1.out _).mono ?_); rintro e w2 ⟨rfl, rfl⟩) | (go_at_call 18; refine (HWP2.out _).mono ?_; rintro e w3 ⟨A3, c3, rfl, hs3, hb3⟩; have HS3 := Lib.hid hs3; clear hs3) | (go_at_call 19; refine (HLO.out _).mono ?_; rintro e w4 ⟨⟨o, rfl, ho⟩, hb4⟩; have HO := Lib.hid ho; clear ho) | (go_at_call 20; (with_reducible refine (HW1.out _).mono ?_); rintro e w5 ⟨rfl, rfl⟩) | (go_at_call 20; (with_reducible refine (HW2.out _).mono ?_); rintro e w5 ⟨rfl, rfl⟩) | (go_at_call 22; refine (HLR.out _ _ HO.out).mono ?_; rintro e w7 ⟨rfl, hb7⟩) | (go_at_call 23; refine (HWR2.out _).mono ?_; rintro e w8 ⟨A8, c8, rfl, hs8, hb8⟩; have HI := Lib.hid (ints_same A3 A8 l n c3 c8 w8 HN.out (by omega) (((HS3.out.below hb4 (Nat.le_refl _)).below hb7 (Nat.le_refl _)).below hb8 (Nat.le_refl _)).rd hs8.rd); clear hs8) | (go_at_call 24; refine HI.out.mono ?_; rintro e w9 ⟨rfl, hd9⟩; clear HI) | (go_at_call 21; refine (HAW.out _).mono ?_; rintro e w6 ⟨rfl, hb6⟩))
      go_ret
      have k3 : Kp w w3 := hb3
      exact ⟨rfl, ((((k3.call hb4).call hb7).call hb8).call (hd9.below _)).call hb6⟩
end Go.Proofs.Ythlccidbphkfaaa
