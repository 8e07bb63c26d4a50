import Derived.Test.YtcnjkdkkflpgnaaT22
import Derived.Test.YtcnjkdkkflpgnaaT23
/- Layer 8: the walk of ShelfFaults. -/
namespace Go.Proofs.Ytcnjkdkkflpgnaa
open Go.RowKit Go.Maps
set_option linter.unusedVariables false

theorem row_wf {w : World} {a : Option Addr} {len cap : Nat} {zs : List Int} (h : (a = none ∧ len = 0 ∧ cap = 0 ∧ zs = []) ∨
    ∃ x, a = some x ∧ len ≤ cap ∧ cap ≤ maxLen ∧ zs.length = cap ∧ (∀ i, i < zs.length → w.cell? (x.add i) = some (.int .i64 (zs.getD i 0))) ∧ ∀ n ∈ zs, (Lit.int .i64 n).wf = true) : ∀ x ∈ zs.take len, (Lit.int .i64 x).wf = true := by
  rcases h with ⟨rfl, rfl, rfl, rfl⟩ | ⟨x, rfl, h1, h2, h3, h4, h5⟩
  · intro x hx; simp at hx
  · exact fun x hx => h5 x (List.mem_of_mem_take hx)
theorem take_wf {zs : List Int} (h : ∀ x ∈ zs, (Lit.int .i64 x).wf = true) (n i : Nat) : -9223372036854775808 ≤ atI (zs.take n) i ∧ atI (zs.take n) i ≤ 9223372036854775807 := by
  unfold atI
  cases e : (zs.take n)[i]? with
  | none => exact ⟨by decide, by decide⟩
  | some x => exact bounds_i64 (h x (List.mem_of_mem_take (List.mem_of_getElem? e)))
set_option maxRecDepth 100000 in
set_option maxHeartbeats 6400000 in
theorem faults_walk (A B : Option Addr) (n0 c0 m0 d0 : Nat) (xs0 ys0 : List Int) (k : Int) (w : World) (hx : Sl w A n0 c0 xs0) (hy : Sl w B m0 d0 ys0) (hw : ∀ x ∈ ys0, (Lit.int .i64 x).wf = true) :
    Calls Try.prog 4 #[.slice A n0 c0, .int .i64 k, .slice B m0 d0] w fun e w' => e = .returned (.bool true) ∧ Below w.heap.size w w' := by
  have HX := Lib.hid (list_sl A n0 c0 xs0 w hx)
  have HY := Lib.hid (fun V (hV : Below w.heap.size w V) => list_sl B m0 d0 ys0 V (hy.below hV (Nat.le_refl _)))
  have HPW := Lib.hid (take_wf hw 201)
  generalize xs0.take 201 = xs at HX
  generalize ys0.take 201 = ys at HY HPW
  clear hx hy hw
  go_enter Try.func4, Try.ntmps4
  go_upto_region 2 with (first
    | (go_at_call 16; (with_reducible refine HX.out.mono ?_); rintro e w1 ⟨⟨A1, n, c1, rfl, hn, hs⟩, hb⟩; have HB1 := Lib.hid hb; have HS1 := Lib.hid hs; clear hs hb)
    | (go_at_call 16; (with_reducible refine (HY.out _ HB1.out).mono ?_); rintro e w2 ⟨⟨A2, m, c2, rfl, hm, hs⟩, hb⟩; have HB2 := Lib.hid (HB1.out.trans (hb.mono HB1.out.size)); have HSX := Lib.hid (fun V (hV : Below w2.heap.size w2 V) => ((HS1.out.below hb (Nat.le_refl _)).below hV (Nat.le_refl _))); have HSY := Lib.hid (fun V (hV : Below w2.heap.size w2 V) => hs.below hV (Nat.le_refl _)); clear hs hb))
  have HF := Lib.hid (faultsP_any k xs ys A1 A2 n c1 m c2 w2 (HSX.out _ (Below.refl _ _)) (HSY.out _ (Below.refl _ _)) HPW.out)
  have HQ := Lib.hid (fun V (hV : Below w2.heap.size w2 V) => requests_any xs 200 15 A1 n c1 V (HSX.out V hV))
  have HR := Lib.hid (fun V (hV : Below w2.heap.size w2 V) => faultsR_any k xs ys A1 A2 n c1 m c2 V (HSX.out V hV) (HSY.out V hV) (by omega))
  clear HX HY HS1 HPW
  have hbad : ∀ q, (reqB xs 200 15 && placesB k) = q → q = false → fltP k xs ys = (0, 2) := fun q e1 e2 => by
    unfold fltP
    rw [e1, e2, if_pos rfl]
  have hcase : (reqB xs 200 15 = false ∧ fltP k xs ys = (0, 2)) ∨ (reqB xs 200 15 = true ∧ k < 1 ∧ fltP k xs ys = (0, 2)) ∨ (reqB xs 200 15 = true ∧ (¬ k < 1) ∧ k > 8 ∧ fltP k xs ys = (0, 2)) ∨ (reqB xs 200 15 = true ∧ (¬ k < 1) ∧ (¬ k > 8) ∧ (fltR k xs ys).2 = false ∧ fltP k xs ys = (0, 10)) ∨ (reqB xs 200 15 = true ∧ (¬ k < 1) ∧ (¬ k > 8) ∧ (fltR k xs ys).2 = true ∧ fltP k xs ys = ((fltR k xs ys).1, 0)) := by
    cases h1 : reqB xs 200 15
    · exact .inl ⟨rfl, hbad false (by rw [h1]; rfl) rfl⟩
    · by_cases h2 : k < 1
      · exact .inr (.inl ⟨rfl, h2, hbad false (by rw [h1]; unfold placesB; rw [decide_eq_false (by omega)]; rfl) rfl⟩)
      · by_cases h3 : k > 8
        · exact .inr (.inr (.inl ⟨rfl, h2, h3, hbad false (by rw [h1]; unfold placesB; rw [decide_eq_false (by omega : ¬ k ≤ 8)]; simp) rfl⟩))
        · have hs := flt_same (pl := ys) h1 (by unfold placesB; rw [decide_eq_true (by omega), decide_eq_true (by omega)]; rfl : placesB k = true)
          cases h4 : (fltR k xs ys).2
          · rw [h4] at hs
            exact .inr (.inr (.inr (.inl ⟨rfl, h2, h3, rfl, hs⟩)))
          · rw [h4] at hs
            exact .inr (.inr (.inr (.inr ⟨rfl, h2, h3, rfl, hs⟩)))
  clear hbad
  generalize (fltR k xs ys).1 = N at *
  rcases hcase with ⟨h1, h5⟩ | ⟨h1, h2, h5⟩ | ⟨h1, h2, h3, h5⟩ | ⟨h1, h2, h3, h4, h5⟩ | ⟨h1, h2, h3, h4, h5⟩
  all_goals
    rw [h5] at HF
    rw [h1] at HQ
    try rw [h4] at HR
    clear h1 h5
    try clear h4
    go_wp2_with (first
      | (go_at_call 25; (with_reducible refine HF.out.mono ?_); rintro e w3 ⟨rfl, hb⟩; have HB3 := Lib.hid hb; clear hb)
      | (go_at_call 20; (with_reducible refine (HQ.out _ HB3.out).mono ?_); rintro e w4 ⟨rfl, rfl⟩)
      | (go_at_call 23; (with_reducible refine (HR.out _ HB3.out).mono ?_); rintro e w5 ⟨rfl, hb⟩; have HB5 := Lib.hid (HB3.out.trans (hb.mono HB3.out.size)); clear hb)
      | (go_at_call 21; (with_reducible refine (awake_here _).mono ?_); rintro e w6 ⟨rfl, hb6⟩))
    go_ret
    first
      | exact ⟨rfl, HB2.out.trans ((HB5.out.trans (hb6.mono HB5.out.size)).mono HB2.out.size)⟩
      | exact ⟨rfl, HB2.out.trans ((HB3.out.trans (hb6.mono HB3.out.size)).mono HB2.out.size)⟩
end Go.Proofs.Ytcnjkdkkflpgnaa
