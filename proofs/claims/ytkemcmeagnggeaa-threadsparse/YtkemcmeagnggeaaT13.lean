import Derived.Test.YtkemcmeagnggeaaT12
import Derived.Test.YtkemcmeagnggeaaT02
/- Layer 3: the program's slices.Max and Arches. -/
namespace Go.Proofs.Ytkemcmeagnggeaa
open Go.RowKit
set_option linter.unusedVariables false

def maxTo (f : Nat → Int) : Nat → Int
  | 0 => f 0
  | n + 1 => max (maxTo f n) (f (n + 1))
theorem maxTo_ge {f : Nat → Int} : ∀ (n : Nat) {c : Nat}, c ≤ n → f c ≤ maxTo f n
  | 0, c, h => by obtain rfl : c = 0 := by omega
                  exact Int.le_refl _
  | n + 1, c, h => by
    rw [maxTo]
    by_cases e : c = n + 1
    · subst e; omega
    · have := maxTo_ge (f := f) n (c := c) (by omega); omega
theorem maxTo_at {f : Nat → Int} : ∀ (n : Nat), ∃ c, c ≤ n ∧ maxTo f n = f c
  | 0 => ⟨0, Nat.le_refl _, rfl⟩
  | n + 1 => by
    obtain ⟨c, h1, h2⟩ := maxTo_at (f := f) n
    rw [maxTo]
    by_cases e : maxTo f n ≤ f (n + 1)
    · exact ⟨n + 1, Nat.le_refl _, by omega⟩
    · exact ⟨c, by omega, by omega⟩
theorem max_any (b o n cap : Nat) (f : Nat → Int) (w : World) (h1 : 1 ≤ n) (hn : n ≤ 4) (hc : ∀ j, j < n → w.cell? ⟨b, o + j, none⟩ = some (.int .i64 (f j))) :
    Calls Try.prog 58 #[.slice (some ⟨b, o, none⟩) n cap] w fun e w' => e = .returned (.int .i64 (maxTo f (n - 1))) ∧ w = w' := by
  have HC := Lib.hid hc
  have c0 : w.cell? ⟨b, o, none⟩ = some (.int .i64 (f 0)) := hc 0 (by omega)
  clear hc
  go_enter Try.func58, Try.ntmps58
  go_wp2
  clear c0
  go_loopw [3, 4] (fun m i w' => ∃ j : Nat, 1 ≤ j ∧ j ≤ n ∧ i = .int .i64 (j : Int) ∧ m = .int .i64 (maxTo f (j - 1)) ∧ w = w') (fun _ i _ => n - (intOf i).toNat)
  case atStart => exact ⟨1, by omega, by omega, by go_num, rfl, rfl⟩
  case round =>
    obtain ⟨j, hj1, hj, rfl, rfl, rfl⟩ := hrel
    by_cases hlt : j < n
    · have cj := HC.out j hlt
      have HM : Hid (maxTo f j = max (maxTo f (j - 1)) (f j)) := by
        obtain ⟨q, rfl⟩ : ∃ q, j = q + 1 := ⟨j - 1, by omega⟩
        rfl
      generalize maxTo f (j - 1) = x at *
      generalize hy : f j = y at *
      have HYY := Lib.hid hy; clear hy
      go_wp2
      refine ⟨⟨j + 1, by omega, by omega, by go_num, ?_, trivial⟩, by simp [intOf]; omega⟩
      rw [Nat.add_sub_cancel, HM.out]
      congr 1
      split <;> omega
    · obtain rfl : j = n := by omega
      go_wp2
      go_ret
      exact ⟨rfl, rfl⟩

/-- Behind the next arch, from place p on, or 61. -/
def archA (w : List Int) (k p : Nat) : Int := maxTo (fun c => stepF w p c) (k - 1)
def archC (w : List Int) (k : Nat) : Nat → Nat → List Int
  | 0, _ => []
  | t + 1, p => if archA w k p = 61 then [] else (archA w k p - 1) :: archC w k t (archA w k p).toNat
theorem archA_rng {w : List Int} {k p : Nat} (hw : w.length ≤ 60) : archA w k p = 61 ∨ ∃ q : Nat, archA w k p = (q : Int) ∧ p < q ∧ q ≤ w.length := by
  obtain ⟨c, _, h2⟩ := maxTo_at (f := fun c => stepF w p c) (k - 1)
  unfold archA
  rw [h2]
  rcases stepF_rng (w := w) p c with ⟨h3, _⟩ | ⟨h3, h4, _⟩
  · exact .inl h3
  · exact .inr ⟨(stepF w p c).toNat, by omega, by omega, by omega⟩

theorem maxA_any (ws : List Int) (b t p o k : Nat) (V : World) (hk1 : 1 ≤ k) (hk4 : k ≤ 4) (hr : Rw V b t 248 (stepG ws)) (hp : p < 62) (ho : o = p * 4) :
    Calls Try.prog 58 #[.slice (some ⟨b, o, none⟩) k 4] V fun e w' => e = .returned (.int .i64 (archA ws k p)) ∧ V = w' := by
  subst ho
  exact max_any b (p * 4) k 4 (fun c => stepF ws p c) V hk1 hk4 (fun j hj => by rw [hr.cell (by omega), stepG_at _ (by omega)])

set_option maxHeartbeats 800000 in
theorem archesP_bad (s : ByteArray) (k : Int) (w : World) (hs : s.size ≤ 1000000) (h : archOk s k = false) :
    Calls Try.prog 31 #[.string s, .int .i64 k] w fun e w' => e = .returned (.tuple #[.slice none 0 0, .int .i64 2]) ∧ Dr w w' := by
  by_cases h1 : wordB (bs s) = true
  · have HS := Lib.hid (fun W => isWord_is s true W (by omega) h1)
    by_cases h2 : lettersK k = true
    · obtain ⟨n, rfl, hn1, hn4⟩ := lettersK_iff.1 h2
      have h3 : lettersB (bs s) n = false := by unfold archOk at h; rw [h1, h2] at h; simpa using h
      have HL := Lib.hid (fun W => isLetters_is (n : Int) true W h2)
      have HO := Lib.hid (fun W => hasOnly_is s n false W hn4 hs h3)
      clear h h1 h2 h3
      go_enter Try.func31, Try.ntmps31
      go_wp2_with (first | (go_at_call 48; refine (HS.out _).mono ?_; rintro e w1 ⟨rfl, hd1⟩) | (go_at_call 56; refine (HL.out _).mono ?_; rintro e w2 ⟨rfl, rfl⟩) | (go_at_call 57; refine (HO.out _).mono ?_; rintro e w3 ⟨rfl, hd3⟩))
      go_ret2
      exact ⟨rfl, hd1.trans hd3⟩
    · have HL := Lib.hid (fun W => isLetters_is k false W (by simpa using h2))
      clear h h1 h2
      go_enter Try.func31, Try.ntmps31
      go_wp2_with (first | (go_at_call 48; refine (HS.out _).mono ?_; rintro e w1 ⟨rfl, hd1⟩) | (go_at_call 56; refine (HL.out _).mono ?_; rintro e w2 ⟨rfl, rfl⟩))
      go_ret2
      exact ⟨rfl, hd1⟩
  · have HS := Lib.hid (fun W => isWord_is s false W (by omega) (by simpa using h1))
    clear h h1
    go_enter Try.func31, Try.ntmps31
    go_wp2_with (go_at_call 48; refine (HS.out _).mono ?_; rintro e w1 ⟨rfl, hd1⟩)
    go_ret2
    exact ⟨rfl, hd1⟩

set_option maxRecDepth 100000 in
set_option maxHeartbeats 1600000 in
theorem archesP_any (s : ByteArray) (k : Nat) (w : World) (h : archOk s k = true) :
    Calls Try.prog 31 #[.string s, .int .i64 (k : Int)] w fun e w' => ∃ v, e = .returned (.tuple #[v, .int .i64 0]) ∧ Ow w' w.heap.size 3 v (archC (bs s) k 62 0) ∧ Below w.heap.size w w' := by
  obtain ⟨i0, hi, hz0, hz1, hz2⟩ := info_parts Try.infoInt
  have HI : Hid (Try.prog.info? 3 = some i0 ∧ i0.zero = some (.int .i64 0) ∧ i0.size = 1 ∧ i0.bytes = 8) := ⟨hi, hz0, hz1, hz2⟩
  clear hi hz0 hz1 hz2
  unfold archOk at h
  rw [Bool.and_eq_true, Bool.and_eq_true] at h
  obtain ⟨⟨hs, h2⟩, h3⟩ := h
  obtain ⟨n, e, hk1, hk4⟩ := lettersK_iff.1 h2
  obtain rfl : k = n := by omega
  clear e
  have hs60 := word_size hs
  have hs' : (bs s).length ≤ 60 := by rw [bs_len]; exact hs60
  have HS := Lib.hid (fun W => isWord_is s true W (by omega) hs)
  have HL := Lib.hid (fun W => isLetters_is (k : Int) true W h2)
  have HO := Lib.hid (fun W => hasOnly_is s k true W hk4 (by omega) h3)
  have HST := Lib.hid (fun W => stepsOf_any s W hs)
  have HONE := Lib.hid (rowV_one 248 (stepG (bs s)))
  have HSL := Lib.hid hs'
  clear hs h2 h3 hs'
  go_enter Try.func31, Try.ntmps31
  go_wp2_with (first | (go_at_call 48; refine (HS.out _).mono ?_; rintro e w1 ⟨rfl, hd1⟩) | (go_at_call 56; refine (HL.out _).mono ?_; rintro e w2 ⟨rfl, rfl⟩) | (go_at_call 57; refine (HO.out _).mono ?_; rintro e w2 ⟨rfl, hd2⟩) | (go_at_call 49; refine (HST.out _).mono ?_; rintro e w3 ⟨rfl, hb3⟩) | (refine wpList_alloc_row (by rfl) 72 (by rfl) _ Try.zeroSteps ?_) | (refine wpList_store_new (by rfl) 72 (.tmp 6) (.tmp 24) (by rfl) w3 _ _ (by rfl) (by rfl) (Try.infSteps _) (rowV_same _ _ _) HONE.out ?_; have hsi := StepsIn.of (f := stepG (bs s)) (hd1.trans hd2) hb3; have hsl := fun W => run_slice_arr W w3.heap.size 0 k hk4) | (go_at_call 58; refine (maxA_any (bs s) w3.heap.size 72 0 0 k _ hk1 hk4 hsi.row (by omega) rfl).mono ?_; rintro e w5 ⟨rfl, rfl⟩))
  generalize w3.heap.size = b at hsi ⊢
  generalize w3.alloc (.cells (rowV 248 (stepG (bs s))) 72) = w4 at hsi ⊢
  have HSI := Lib.hid hsi
  clear hsi hd1 hd2 hb3 HS HL HO HST hsl
  go_loopw [7, 8] (fun v p w' => ∃ (q t : Nat) (l : List Int), q ≤ 60 ∧ 62 ≤ t + q ∧ p = .int .i64 (archA (bs s) k q) ∧ Hid (archC (bs s) k 62 0 = l ++ archC (bs s) k t q) ∧ l.length ≤ q ∧ Hid (Ow w' w4.heap.size 3 v l) ∧ Below w4.heap.size w4 w') (fun _ p _ => 61 - (intOf p).toNat)
  case atStart => exact ⟨0, 62, [], by omega, by omega, rfl, rfl, by simp, Ow.nil _ _ _, Below.refl _ _⟩
  case round =>
    obtain ⟨q, t, l, hq, ht, rfl, HC, hl, HO, hW⟩ := hrel
    have hsz := hW.size
    have HLL : Hid (l.length ≤ 1099511627776) := by rw [Hid]; omega
    obtain ⟨t, rfl⟩ : ∃ m, t = m + 1 := ⟨t - 1, by omega⟩
    rcases archA_rng (w := bs s) (k := k) (p := q) HSL.out with he | ⟨x, he, hqx, hxs⟩
    · have HF : Hid (archC (bs s) k 62 0 = l) := by rw [Hid, HC.out, archC, if_pos he, List.append_nil]
      rw [he]
      go_wp2
      go_ret2
      exact ⟨_, rfl, by rw [HF.out]; exact HO.out.base HSI.out.below.size, HSI.out.below.trans (hW.mono HSI.out.below.size)⟩
    · have HN : Hid (archC (bs s) k 62 0 = (l ++ [(x : Int) - 1]) ++ archC (bs s) k t x) := by
        have h9 : (bs s).length ≤ 60 := HSL.out
        rw [Hid, HC.out, archC, if_neg (by omega), he, Int.toNat_natCast]; simp
      have hx60 : x ≤ 60 := by have := HSL.out; omega
      rw [he]
      clear he
      have gx : ((x : Int) == 61) = false := by simp; omega
      have gx2 : ((x : Int) != 61) = true := by simp; omega
      have hx62 : (x : Int) < 62 := by omega
      have hsl := fun W => run_slice_arr W b (x * 4) k hk4
      go_wp2_with (first | (at_builtin; go_must (refine push_law _ rfl (.tmp 36) (.tmp 39) 23 rfl w4.heap.size 3 i0 Try.underlying23 HI.out _ l ((x : Int) - 1) rfl rfl HO.out HLL.out hsz ?_); intro v2 w2 hv2 hg2 hat2; clear hat2; have HV2 := Lib.hid hv2; clear hv2; have HB2 := Lib.hid (hW.grown hg2 hsz (fun j e => (HO.out.lt e).1)); clear hg2) | (go_at_call 58; refine (maxA_any (bs s) b 72 x (x * 4) k _ hk1 hk4 (HSI.out.row.below HB2.out HSI.out.row.lt) (by omega) rfl).mono ?_; rintro e w5 ⟨rfl, rfl⟩))
      go_roundw
      case rel => exact ⟨x, t, l ++ [(x : Int) - 1], hx60, by omega, rfl, HN, by simp; omega, HV2, HB2.out⟩
      case measure =>
        rcases archA_rng (w := bs s) (k := k) (p := x) HSL.out with h | ⟨y, h, h1, h2⟩
        · rw [h]; simp [intOf]; omega
        · rw [h]; simp [intOf]; omega
end Go.Proofs.Ytkemcmeagnggeaa
