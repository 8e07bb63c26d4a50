import Derived.Test.YtmbdjjkgjnemiaaT04
/- Layer 6: closed relations: follows, closes. -/
namespace Go.Proofs.Ytmbdjjkgjnemiaa
open Go.RowKit Go.Maps
set_option linter.unusedVariables false

/-- The slice A n c reads as the pairs ps. -/
structure Plr (w : World) (A : Option Addr) (n c : Nat) (ps : List (Int × Int)) : Prop where
  len : ps.length = n
  cap : n ≤ c
  big : n ≤ 9223372036854775807
  nil : A = none → n = 0 ∧ c = 0
  rows : ∀ k, k < n → ∃ b off, A = some ⟨b, off, none⟩ ∧ b < w.heap.size ∧ w.cell? ⟨b, off + k * 2, none⟩ = some (.int .i64 (ps[k]?.getD (0, 0)).1) ∧ w.cell? ⟨b, off + k * 2 + 1, none⟩ = some (.int .i64 (ps[k]?.getD (0, 0)).2)
theorem Plr.below {w w' : World} {A : Option Addr} {n c : Nat} {ps : List (Int × Int)} {B : Nat} (h : Plr w A n c ps) (hb : Below B w w') (hB : w.heap.size ≤ B) : Plr w' A n c ps :=
  ⟨h.len, h.cap, h.big, h.nil, fun k hk => by
    obtain ⟨b, off, e, hlt, h1, h2⟩ := h.rows k hk
    exact ⟨b, off, e, Nat.lt_of_lt_of_le hlt hb.size, (hb.cell (p := ⟨b, off + k * 2, none⟩) (by show b < B; omega)).trans h1, (hb.cell (p := ⟨b, off + k * 2 + 1, none⟩) (by show b < B; omega)).trans h2⟩⟩
theorem Owp.plr {w : World} {B e n : Nat} {v : Value} {ps : List (Int × Int)} (h : Owp w B e v ps) (hn : ps.length = n) (hb : n ≤ 1099511627776) : ∃ A c, v = .slice A n c ∧ Plr w A n c ps := by
  by_cases h0 : 0 < n
  · obtain ⟨g, cap, e, hc, _, hg, hcell⟩ := h.form hn h0
    exact ⟨_, cap, e, hn, hc, by omega, fun e => (by cases e), fun k hk => ⟨g, 0, rfl, hg, by rw [Nat.zero_add]; exact hcell k hk⟩⟩
  · have hn0 : n = 0 := by omega
    subst hn0
    rcases h.2 with ⟨rfl, _⟩ | ⟨g, cap, cur, rfl, h2, h3, h4, _⟩
    · exact ⟨none, 0, rfl, hn, Nat.le_refl _, by omega, fun _ => ⟨rfl, rfl⟩, fun k hk => absurd hk (Nat.not_lt_zero _)⟩
    · refine ⟨some ⟨g, 0, none⟩, cap, by rw [hn], hn, Nat.zero_le _, by omega, fun e => (by cases e), fun k hk => absurd hk (Nat.not_lt_zero _)⟩
/-- Which pairs are in the map. -/
def relM (L : List Pt) : Pt → Option Lit := fun x => if x ∈ L then some (.bool true) else none
theorem relM_put (L : List Pt) (x : Pt) : putK (relM L) x (.bool true) = relM (L ++ [x]) := by
  funext y
  unfold putK relM
  by_cases e : y = x
  · subst e; rw [if_pos rfl, if_pos (by simp)]
  · rw [if_neg e]
    by_cases h : y ∈ L
    · rw [if_pos h, if_pos (List.mem_append_left _ h)]
    · rw [if_neg h, if_neg (by simp; exact ⟨h, e⟩)]
theorem relM_at (L : List Pt) (x : Pt) : (relM L x).getD (.bool false) = .bool (decide (x ∈ L)) := by
  unfold relM
  by_cases h : x ∈ L
  · rw [if_pos h, decide_eq_true h]; rfl
  · rw [if_neg h, decide_eq_false h]; rfl
theorem folB_zero {N : List Nd} {L : List Pt} {p : Pt} (h : jud N p = 0) : folB N L p = true := by unfold folB; rw [decide_eq_true h]; rfl
theorem folB_one {N : List Nd} {L : List Pt} {p : Pt} (h : jud N p = 1) : folB N L p = false := by unfold folB; rw [decide_eq_false (by omega), decide_eq_false (p := jud N p = 2) (by omega)]; rfl
theorem folB_noA {N : List Nd} {L : List Pt} {p : Pt} (h : jud N p = 2) (ha : pA N p ∉ L) : folB N L p = false := by
  rw [Bool.eq_false_iff]
  intro hf
  rcases folB_iff.1 hf with h1 | ⟨_, h1, _⟩
  · omega
  · exact ha h1
theorem folB_noB {N : List Nd} {L : List Pt} {p : Pt} (h : jud N p = 2) (hb : pB N p ∉ L) : folB N L p = false := by
  rw [Bool.eq_false_iff]
  intro hf
  rcases folB_iff.1 hf with h1 | ⟨_, _, h1⟩
  · omega
  · exact hb h1
theorem folB_two {N : List Nd} {L : List Pt} {p : Pt} (h : jud N p = 2) (ha : pA N p ∈ L) (hb : pB N p ∈ L) : folB N L p = true := folB_iff.2 (.inr ⟨h, ha, hb⟩)
set_option maxRecDepth 100000 in
set_option maxHeartbeats 6400000 in
theorem follows_any (N : List Nd) (A : Option Addr) (n c p q bm cnt : Nat) (L : List Pt) (w : World) (hN : Nl w A n c N) (hok : OkN N) (hp : p < n) (hq : q < n) (hn : n ≤ 1000) (hK : KM encPt w 4 bm cnt (relM L)) :
    Calls Try.prog 66 #[.slice A n c, .agg #[.int .i64 (p : Int), .int .i64 (q : Int)], .map (some bm)] w fun e w' => e = .returned (.bool (folB N L (p, q))) ∧ Below w.heap.size w w' := by
  obtain ⟨W, hW⟩ : ∃ W, W = w.alloc (.cells #[.int .i64 (p : Int), .int .i64 (q : Int)] 23) := ⟨_, rfl⟩
  have hb : Below w.heap.size w W := by rw [hW]; exact (Below.refl _ w).alloc (Nat.le_refl _) _
  have hbx : W.heap[w.heap.size]? = some (.cells #[.int .i64 (p : Int), .int .i64 (q : Int)] 23 (0, 0)) := by rw [hW]; exact heap_alloc_new _ _
  have hsz : w.heap.size < W.heap.size := by rw [hW]; simp
  have HJ : Hid (∀ r, jud N (p, q) = r → Calls Try.prog 55 #[.slice A n c, .agg #[.int .i64 (p : Int), .int .i64 (q : Int)]] W fun e w' => e = .returned (.int .i64 (r : Nat)) ∧ Below W.heap.size W w') := fun r hr => hr ▸ judge_any N A n c p q W (hN.below hb (Nat.le_refl _)) hok hp hq
  have HB := Lib.hid hb
  have HBX := Lib.hid hbx
  have HW := Lib.hid hW
  have HK := Lib.hid hK
  rcases jud_lt N (p, q) with hj | hj | hj
  · have HJ0 := Lib.hid (HJ.out 0 hj)
    have HX := Lib.hid (folB_zero (L := L) hj).symm
    clear hj hN hok hK hW hb hbx
    go_enter Try.func66, Try.ntmps66
    go_wp2_with (go_at_call 55; rw [← HW.out]; refine HJ0.out.mono ?_; rintro e w1 ⟨rfl, hb1⟩)
    go_ret
    exact ⟨bend HX.out, HB.out.trans (hb1.mono HB.out.size)⟩
  · have HJ1 := Lib.hid (HJ.out 1 hj)
    have HX := Lib.hid (folB_one (L := L) hj).symm
    clear hj hN hok hK hW hb hbx
    go_enter Try.func66, Try.ntmps66
    go_wp2_with (go_at_call 55; rw [← HW.out]; refine HJ1.out.mono ?_; rintro e w1 ⟨rfl, hb1⟩)
    go_ret
    exact ⟨bend HX.out, HB.out.trans (hb1.mono HB.out.size)⟩
  · have HJ2 := Lib.hid (HJ.out 2 hj)
    obtain ⟨a1, a2, hA⟩ : ∃ a1 a2, pA N (p, q) = (a1, a2) := ⟨_, _, rfl⟩
    obtain ⟨b1, b2, hB⟩ : ∃ b1 b2, pB N (p, q) = (b1, b2) := ⟨_, _, rfl⟩
    have hin : inP N.length (p, q) := ⟨by rw [hN.len]; exact hp, by rw [hN.len]; exact hq⟩
    have hia := hok.pA hin
    have hib := hok.pB hin
    rw [hA, hN.len] at hia
    rw [hB, hN.len] at hib
    have ha1 : a1 < n := hia.1
    have ha2 : a2 < n := hia.2
    have hb1 : b1 < n := hib.1
    have hb2 : b2 < n := hib.2
    have HPT : Hid (∀ W', Below w.heap.size w W' → Calls Try.prog 56 #[.slice A n c, .agg #[.int .i64 (p : Int), .int .i64 (q : Int)]] W' fun e w' => e = .returned (.agg #[.int .i64 (a1 : Int), .int .i64 (a2 : Int), .int .i64 (b1 : Int), .int .i64 (b2 : Int)]) ∧ Below W'.heap.size W' w') := fun W' hW' => by
      have := parts_any N A n c p q W' (hN.below hW' (Nat.le_refl _)) hp hq
      rw [hA, hB] at this
      exact this
    have HNA : Hid ((a1, a2) ∉ L → false = folB N L (p, q)) := fun h => (folB_noA hj (by rw [hA]; exact h)).symm
    have HNB : Hid ((b1, b2) ∉ L → false = folB N L (p, q)) := fun h => (folB_noB hj (by rw [hB]; exact h)).symm
    have HYE : Hid ((a1, a2) ∈ L → (b1, b2) ∈ L → true = folB N L (p, q)) := fun h1 h2 => (folB_two hj (by rw [hA]; exact h1) (by rw [hB]; exact h2)).symm
    clear hj hN hok hK hW hb hbx hia hib hA hB hin HJ
    go_enter Try.func66, Try.ntmps66
    go_wp2_with (first
      | (go_at_call 55; rw [← HW.out]; refine HJ2.out.mono ?_; rintro e w1 ⟨rfl, hb⟩; have HB1 := Lib.hid (HB.out.trans (hb.mono HB.out.size)); have h9 := (hb.block _ hsz).trans HBX.out; have e0 := cell_in h9 (i := 0) rfl; have e1 := cell_in h9 (i := 1) rfl; clear hb h9)
      | (go_at_call 56; refine (HPT.out _ HB1.out).mono ?_; rintro e w2 ⟨rfl, hb⟩; have HB2 := Lib.hid (HB1.out.trans (hb.mono HB1.out.size)); clear hb e0 e1))
    go_loopw [19] (fun i w' => ∃ k : Nat, k ≤ 2 ∧ i = .int .i64 (k : Int) ∧ Hid (1 ≤ k → (a1, a2) ∈ L) ∧ Hid (2 ≤ k → (b1, b2) ∈ L) ∧ Hid (Below w.heap.size w w')) (fun i _ => 2 - (intOf i).toNat)
    case atStart => exact ⟨0, by omega, by go_num, fun h => absurd h (by omega), fun h => absurd h (by omega), HB2.out⟩
    case round =>
      obtain ⟨k, hk, rfl, HI1, HI2, HBI⟩ := hrel
      obtain ⟨wi, rfl⟩ : ∃ wi : World, wi = wr := ⟨_, rfl⟩
      clear HB2
      have hk3 : k = 0 ∨ k = 1 ∨ k = 2 := by omega
      clear hk
      rcases hk3 with rfl | rfl | rfl
      · have ix := idx_pts0 (a1 : Int) (a2 : Int) (b1 : Int) (b2 : Int) wi
        have hka := (HK.out.below HBI.out HK.out.lt).alloc (.cells #[.int .i64 (a1 : Int), .int .i64 (a2 : Int)] 23)
        have lk := run_lookB (wi.alloc (.cells #[.int .i64 (a1 : Int), .int .i64 (a2 : Int)] 23)) 83 Try.underlying83 _ _ _ hka (x := ((a1, a2) : Pt)) ⟨by show a1 ≤ _; omega, by show a2 ≤ _; omega⟩ (decide ((a1, a2) ∈ L)) (relM_at L (a1, a2))
        have lk : (Instr.lookup 83 (.map (some bm)) (.agg #[.int .i64 (a1 : Int), .int .i64 (a2 : Int)]) false).run Try.prog (wi.alloc (.cells #[.int .i64 (a1 : Int), .int .i64 (a2 : Int)] 23)) = .ok (.bool (decide ((a1, a2) ∈ L))) (wi.alloc (.cells #[.int .i64 (a1 : Int), .int .i64 (a2 : Int)] 23)) := lk
        have HBA : Hid (Below w.heap.size w (wi.alloc (.cells #[.int .i64 (a1 : Int), .int .i64 (a2 : Int)] 23))) := HBI.out.alloc HBI.out.size _
        by_cases hm : (a1, a2) ∈ L
        · have HM := Lib.hid hm
          rw [decide_eq_true hm] at lk
          clear hm hka
          go_wp2
          exact ⟨⟨0 + 1, by omega, by go_num, fun _ => HM.out, fun h => absurd h (by omega), HBA.out⟩, by simp [intOf]⟩
        · have HX := Lib.hid (HNA.out hm)
          rw [decide_eq_false hm] at lk
          clear hm hka
          go_wp2
          go_ret
          exact ⟨bend HX.out, HBA.out⟩
      · have ix := idx_pts1 (a1 : Int) (a2 : Int) (b1 : Int) (b2 : Int) wi
        have hka := (HK.out.below HBI.out HK.out.lt).alloc (.cells #[.int .i64 (b1 : Int), .int .i64 (b2 : Int)] 23)
        have lk := run_lookB (wi.alloc (.cells #[.int .i64 (b1 : Int), .int .i64 (b2 : Int)] 23)) 83 Try.underlying83 _ _ _ hka (x := ((b1, b2) : Pt)) ⟨by show b1 ≤ _; omega, by show b2 ≤ _; omega⟩ (decide ((b1, b2) ∈ L)) (relM_at L (b1, b2))
        have lk : (Instr.lookup 83 (.map (some bm)) (.agg #[.int .i64 (b1 : Int), .int .i64 (b2 : Int)]) false).run Try.prog (wi.alloc (.cells #[.int .i64 (b1 : Int), .int .i64 (b2 : Int)] 23)) = .ok (.bool (decide ((b1, b2) ∈ L))) (wi.alloc (.cells #[.int .i64 (b1 : Int), .int .i64 (b2 : Int)] 23)) := lk
        have HBA : Hid (Below w.heap.size w (wi.alloc (.cells #[.int .i64 (b1 : Int), .int .i64 (b2 : Int)] 23))) := HBI.out.alloc HBI.out.size _
        by_cases hm : (b1, b2) ∈ L
        · have HM := Lib.hid hm
          rw [decide_eq_true hm] at lk
          clear hm hka
          go_wp2
          exact ⟨⟨1 + 1, by omega, by go_num, fun _ => HI1.out (by omega), fun _ => HM.out, HBA.out⟩, by simp [intOf]⟩
        · have HX := Lib.hid (HNB.out hm)
          rw [decide_eq_false hm] at lk
          clear hm hka
          go_wp2
          go_ret
          exact ⟨bend HX.out, HBA.out⟩
      · have HX := Lib.hid (HYE.out (HI1.out (by omega)) (HI2.out (by omega)))
        go_wp2
        go_ret
        exact ⟨bend HX.out, HBI.out⟩
end Go.Proofs.Ytmbdjjkgjnemiaa
/- Layer 6: closes. -/
namespace Go.Proofs.Ytmbdjjkgjnemiaa
open Go.RowKit Go.Maps
set_option linter.unusedVariables false

def ptOf (x : Int × Int) : Pt := (x.1.toNat, x.2.toNat)
def psAt (ps : List (Int × Int)) (k : Nat) : Int × Int := ps[k]?.getD (0, 0)
def inQ (n : Nat) (x : Int × Int) : Bool := inB n x.1 && inB n x.2
theorem inQ_nat {n : Nat} {x : Int × Int} (h : inQ n x = true) : x = (((ptOf x).1 : Int), ((ptOf x).2 : Int)) ∧ (ptOf x).1 < n ∧ (ptOf x).2 < n := by
  unfold inQ at h
  rw [Bool.and_eq_true, inB_iff, inB_iff] at h
  unfold ptOf
  obtain ⟨a, b⟩ := x
  dsimp only at h ⊢
  refine ⟨Prod.ext ?_ ?_, ?_, ?_⟩
  · show a = (a.toNat : Int); omega
  · show b = (b.toNat : Int); omega
  · omega
  · omega
/-- The pairs are a closed relation with p among them. -/
def cloB (N : List Nd) (ps : List (Int × Int)) (p : Pt) : Bool := decide (ps.length ≤ 600) && (allB (fun k => inQ N.length (psAt ps k)) ps.length && (allB (fun k => folB N (ps.map ptOf) (ptOf (psAt ps k))) ps.length && decide (p ∈ ps.map ptOf)))
theorem inB_of {n p : Nat} (h : p < n) : inB n (p : Int) = true := inB_iff.2 ⟨by omega, by omega⟩
theorem take_succ_at {ps : List (Int × Int)} {k : Nat} (h : k < ps.length) : (ps.take (k + 1)).map ptOf = (ps.take k).map ptOf ++ [ptOf (psAt ps k)] := by
  unfold psAt
  rw [List.take_add_one, List.getElem?_eq_getElem h, List.map_append]
  rfl
set_option maxRecDepth 100000 in
set_option maxHeartbeats 6400000 in
theorem closes_any (N : List Nd) (A : Option Addr) (n c p q : Nat) (X : Option Addr) (m d : Nat) (ps : List (Int × Int)) (w : World) (hN : Nl w A n c N) (hok : OkN N) (hp : p < n) (hq : q < n) (hn : n ≤ 1000) (hP : Plr w X m d ps) :
    Calls Try.prog 57 #[.slice A n c, .agg #[.int .i64 (p : Int), .int .i64 (q : Int)], .slice X m d] w fun e w' => e = .returned (.bool (cloB N ps (p, q))) ∧ Below w.heap.size w w' := by
  have HLN : Hid (N.length = n) := hN.len
  have HLP : Hid (ps.length = m) := hP.len
  have hbig := hP.big
  have hmm := @run_makeMap Try.prog
  have HNL : Hid (600 < m → false = cloB N ps (p, q)) := fun h => by unfold cloB; rw [decide_eq_false (p := ps.length ≤ 600) (by rw [HLP.out]; omega)]; rfl
  have HNW : Hid (∀ k, k < m → inQ n (psAt ps k) = false → false = cloB N ps (p, q)) := fun k hk h => by
    unfold cloB; rw [← allB_bad (p := fun k => inQ N.length (psAt ps k)) (k := k) (by rw [HLP.out]; exact hk) (by rw [HLN.out]; exact h)]; simp
  have HNF : Hid (∀ k, k < m → folB N (ps.map ptOf) (ptOf (psAt ps k)) = false → false = cloB N ps (p, q)) := fun k hk h => by
    unfold cloB; rw [← allB_bad (p := fun k => folB N (ps.map ptOf) (ptOf (psAt ps k))) (k := k) (by rw [HLP.out]; exact hk) h]; simp
  have HYE : Hid (m ≤ 600 → (∀ k, k < m → inQ n (psAt ps k) = true) → (∀ k, k < m → folB N (ps.map ptOf) (ptOf (psAt ps k)) = true) → decide ((p, q) ∈ ps.map ptOf) = cloB N ps (p, q)) := fun h1 h2 h3 => by
    unfold cloB
    rw [decide_eq_true (p := ps.length ≤ 600) (by rw [HLP.out]; exact h1), ← allB_good (p := fun k => inQ N.length (psAt ps k)) (fun k hk => by rw [HLN.out]; exact h2 k (by rw [← HLP.out]; exact hk)), ← allB_good (p := fun k => folB N (ps.map ptOf) (ptOf (psAt ps k))) (fun k hk => h3 k (by rw [← HLP.out]; exact hk))]
    rfl
  by_cases hm : 600 < m
  · have HX := Lib.hid (HNL.out hm)
    have i1 : (600 : Int) < (m : Int) := by omega
    go_enter Try.func57, Try.ntmps57
    go_wp2
    go_ret
    exact ⟨bend HX.out, (Below.refl _ w).alloc (Nat.le_refl _) _⟩
  · have i1 : ¬ (600 : Int) < (m : Int) := by omega
    obtain ⟨W, hW⟩ : ∃ W, W = (w.alloc (.cells #[.int .i64 (p : Int), .int .i64 (q : Int)] 23)).alloc (.map #[] 0) := ⟨_, rfl⟩
    have hb : Below w.heap.size w W := by rw [hW]; exact ((Below.refl _ w).alloc (Nat.le_refl _) _).alloc (by simp) _
    have hbx : W.heap[w.heap.size]? = some (.cells #[.int .i64 (p : Int), .int .i64 (q : Int)] 23 (0, 0)) := by
      rw [hW]
      show ((w.heap.push _).push _)[w.heap.size]? = _
      rw [Array.getElem?_push, if_neg (by simp), Array.getElem?_push, if_pos rfl]
    have hkm : KM encPt W 4 (w.heap.size + 1) 0 (relM []) := by
      have := KM.made encPt (w.alloc (.cells #[.int .i64 (p : Int), .int .i64 (q : Int)] 23)) 4
      rw [hW]
      have e : relM [] = (fun _ => none) := by funext x; unfold relM; simp
      rw [e]
      simpa using this
    have HB := Lib.hid hb
    have HBX := Lib.hid hbx
    have HKM := Lib.hid hkm
    have HW := Lib.hid hW
    have HN := Lib.hid hN
    have HOK := Lib.hid hok
    have HP := Lib.hid hP
    clear hW hb hbx hkm hN hok hP
    go_enter Try.func57, Try.ntmps57
    go_wp2
    rw [← HW.out]
    generalize hs : w.heap.size = s at *
    go_loopw [18] (fun i w' => ∃ k : Nat, k ≤ m ∧ i = .int .i64 (k : Int) ∧ Hid (∀ j, j < k → inQ n (psAt ps j) = true) ∧ Hid (KM encPt w' 4 (s + 1) k (relM ((ps.take k).map ptOf))) ∧ Hid (Below s w w') ∧ Hid (w'.heap[s]? = some (.cells #[.int .i64 (p : Int), .int .i64 (q : Int)] 23 (0, 0)))) (fun i _ => m - (intOf i).toNat)
    case atStart => exact ⟨0, by omega, by go_num, fun j hj => absurd hj (Nat.not_lt_zero _), HKM.out, HB.out, HBX.out⟩
    case round =>
      obtain ⟨k, hk, rfl, HIN, HK, HBW, HBO⟩ := hrel
      obtain ⟨wo, rfl⟩ : ∃ wo : World, wo = wr := ⟨_, rfl⟩
      clear HKM
      by_cases hlt : k < m
      · have i2 : (k : Int) < (m : Int) := by omega
        obtain ⟨gb, off, rfl, hgb, c0, c1⟩ := (HP.out.below HBW.out (Nat.le_of_eq hs)).rows k hlt
        change wo.cell? _ = some (.int .i64 (psAt ps k).1) at c0
        change wo.cell? _ = some (.int .i64 (psAt ps k).2) at c1
        have HT := Lib.hid (take_succ_at (ps := ps) (k := k) (by rw [HLP.out]; exact hlt))
        have HIK : Hid (inQ n (psAt ps k) = true → ∀ j, j < k + 1 → inQ n (psAt ps j) = true) := fun h j hj => by
          by_cases e : j = k
          · rw [e]; exact h
          · exact HIN.out j (by omega)
        have HNK := Lib.hid (HNW.out k hlt)
        obtain ⟨Z, hZ⟩ : ∃ Z, Z = psAt ps k := ⟨_, rfl⟩
        rw [← hZ] at c0 c1 HT HIK HNK
        clear hZ
        have HSZ : Hid (s + 2 ≤ wo.heap.size) := by rw [Hid]; have := HK.out.lt; omega
        by_cases hz : inQ n Z = true
        · obtain ⟨h1, h2, h3⟩ := inQ_nat hz
          have HIK2 := Lib.hid (HIK.out hz)
          have HWI : Hid (∀ g W, Sl W (some ⟨g, 0, none⟩) 2 2 [((ptOf Z).1 : Int), ((ptOf Z).2 : Int)] → Calls Try.prog 54 #[.slice A n c, .slice (some ⟨g, 0, none⟩) 2 2] W fun e w' => e = .returned (.bool true) ∧ W = w') := fun g W h => by
            have := within_any A n c (some ⟨g, 0, none⟩) 2 2 _ W h (by omega)
            rw [insB_two, inB_of h2, inB_of h3] at this
            exact this
          rw [h1] at c0 c1
          clear hz h1 HIK HNK
          generalize ptOf Z = P at *
          obtain ⟨x, y⟩ := P
          dsimp only at c0 c1 h2 h3
          have hk5 := HK.out.alloc (.cells #[.int .i64 (x : Int), .int .i64 (y : Int)] 23)
          obtain ⟨W8, hup, hk8, hg8⟩ := run_storeK _ hk5 83 Try.underlying83 (by omega) (k := ((x, y) : Pt)) ⟨by show x ≤ _; omega, by show y ≤ _; omega⟩ (.bool true) (.bool true) (plainElem_bool Try.underlying4 true)
          rw [relM_put, ← HT.out] at hk8
          have hup : (Instr.mapUpdate 83 (.map (some (s + 1))) (.agg #[.int .i64 (x : Int), .int .i64 (y : Int)]) (.bool true)).run Try.prog (wo.alloc (.cells #[.int .i64 (x : Int), .int .i64 (y : Int)] 23)) = .ok () W8 := hup
          have HK8 := Lib.hid hk8
          have HB8 : Hid (Below s w W8) := (HBW.out.alloc (by have := HSZ.out; omega) _).grown hg8 (by have := HSZ.out; simp; omega) (fun k e => by have e := Option.some.inj e; omega)
          have HO8 : Hid (W8.heap[s]? = some (.cells #[.int .i64 (p : Int), .int .i64 (q : Int)] 23 (0, 0))) := by
            have h0 : s < wo.heap.size := by have := HSZ.out; omega
            refine (hg8.block s (by rw [World.alloc]; simp; omega) (by intro e; have e := Option.some.inj e; omega)).trans ?_
            exact (((Below.refl _ wo).alloc (Nat.le_refl _) _).block s h0).trans HBO.out
          clear hk8 hg8 hk5 HK HBW HBO HP
          go_wp2_with (go_at_call 54; refine (HWI.out _ _ (Sl.two_at _ _ _ _ _ rfl)).mono ?_; rintro e w1 ⟨rfl, rfl⟩)
          exact ⟨⟨k + 1, by omega, by go_num, HIK2.out, HK8.out, HB8.out, HO8.out⟩, by simp [intOf]; omega⟩
        · have hz : inQ n Z = false := by simpa using hz
          have HX := Lib.hid (HNK.out hz)
          have HWI : Hid (∀ g W, Sl W (some ⟨g, 0, none⟩) 2 2 [Z.1, Z.2] → Calls Try.prog 54 #[.slice A n c, .slice (some ⟨g, 0, none⟩) 2 2] W fun e w' => e = .returned (.bool false) ∧ W = w') := fun g W h => by
            have := within_any A n c (some ⟨g, 0, none⟩) 2 2 _ W h (by omega)
            rw [insB_two] at this
            unfold inQ at hz
            rw [hz] at this
            exact this
          have HBA : Hid (Below s w (wo.alloc (.cells #[.int .i64 Z.1, .int .i64 Z.2] 23))) := HBW.out.alloc (by have := HSZ.out; omega) _
          clear hz HK HBW HBO HP HNK
          go_wp2_with (go_at_call 54; refine (HWI.out _ _ (Sl.two_at _ _ _ _ _ rfl)).mono ?_; rintro e w1 ⟨rfl, rfl⟩)
          go_ret
          exact ⟨bend HX.out, by rw [hs]; exact HBA.out⟩
      · have hkm2 : k = m := by omega
        subst hkm2
        have i2 : ¬ (k : Int) < (k : Int) := by omega
        rw [List.take_of_length_le (Nat.le_of_eq HLP.out)] at HK
        clear hmm i1 hlt hk HNL HNW
        have HIN2 := Lib.hid (HYE.out (by omega) HIN.out)
        clear HYE
        go_wp2
        go_loopw [31] (fun i w' => ∃ j : Nat, j ≤ k ∧ i = .int .i64 (j : Int) ∧ Hid (∀ t, t < j → folB N (ps.map ptOf) (ptOf (psAt ps t)) = true) ∧ Hid (KM encPt w' 4 (s + 1) k (relM (ps.map ptOf))) ∧ Hid (Below s w w') ∧ Hid (w'.heap[s]? = some (.cells #[.int .i64 (p : Int), .int .i64 (q : Int)] 23 (0, 0)))) (fun i _ => k - (intOf i).toNat)
        case atStart => exact ⟨0, by omega, by go_num, fun j hj => absurd hj (Nat.not_lt_zero _), HK.out, HBW.out, HBO.out⟩
        case round =>
          obtain ⟨j, hj, rfl, HFN, HK2, HBW2, HBO2⟩ := hrel
          obtain ⟨wi, rfl⟩ : ∃ wi : World, wi = wr := ⟨_, rfl⟩
          clear HK HBW HBO
          by_cases hlt : j < k
          · have i3 : (j : Int) < (k : Int) := by omega
            obtain ⟨gb, off, rfl, hgb, c0, c1⟩ := (HP.out.below HBW2.out (Nat.le_of_eq hs)).rows j hlt
            change wi.cell? _ = some (.int .i64 (psAt ps j).1) at c0
            change wi.cell? _ = some (.int .i64 (psAt ps j).2) at c1
            obtain ⟨h1, h2, h3⟩ := inQ_nat (HIN.out j hlt)
            have HFK : Hid (folB N (ps.map ptOf) (ptOf (psAt ps j)) = true → ∀ t, t < j + 1 → folB N (ps.map ptOf) (ptOf (psAt ps t)) = true) := fun h t ht => by
              by_cases e : t = j
              · rw [e]; exact h
              · exact HFN.out t (by omega)
            have HNK := Lib.hid (HNF.out j hlt)
            rw [h1] at c0 c1
            clear h1
            generalize ptOf (psAt ps j) = P at *
            obtain ⟨x, y⟩ := P
            dsimp only at c0 c1 h2 h3
            obtain ⟨W5, hW5⟩ : ∃ W, W = wi.alloc (.cells #[.int .i64 (x : Int), .int .i64 (y : Int)] 23) := ⟨_, rfl⟩
            have HB5 : Hid (Below s w W5) := by rw [hW5]; exact HBW2.out.alloc (Nat.le_of_lt (Array.getElem?_eq_some_iff.1 HBO2.out).1) _
            have HK5 : Hid (KM encPt W5 4 (s + 1) k (relM (ps.map ptOf))) := by rw [hW5]; exact HK2.out.alloc _
            have HO5 : Hid (W5.heap[s]? = some (.cells #[.int .i64 (p : Int), .int .i64 (q : Int)] 23 (0, 0))) := by
              rw [hW5]
              exact (((Below.refl _ wi).alloc (Nat.le_refl _) _).block s (Array.getElem?_eq_some_iff.1 HBO2.out).1).trans HBO2.out
            have HF : Hid (∀ b, folB N (ps.map ptOf) (x, y) = b → Calls Try.prog 66 #[.slice A n c, .agg #[.int .i64 (x : Int), .int .i64 (y : Int)], .map (some (s + 1))] W5 fun e w' => e = .returned (.bool b) ∧ Below W5.heap.size W5 w') := fun b hb => hb ▸ follows_any N A n c x y (s + 1) k (ps.map ptOf) W5 (HN.out.below HB5.out (Nat.le_of_eq hs)) HOK.out h2 h3 hn HK5.out
            have HW5 := Lib.hid hW5
            clear hW5 HK2 HBW2 HBO2 HP
            rcases hb : folB N (ps.map ptOf) (x, y) with _ | _
            · have HX := Lib.hid (HNK.out hb)
              have HF0 := Lib.hid (HF.out _ hb)
              clear hb HF HNK HFK
              go_wp2_with (go_at_call 66; rw [← HW5.out]; refine HF0.out.mono ?_; rintro e w1 ⟨rfl, hb1⟩)
              go_ret
              exact ⟨bend HX.out, by rw [hs]; exact HB5.out.trans (hb1.mono (by have := HB5.out.size; omega))⟩
            · have HX := Lib.hid (HFK.out hb)
              have HF0 := Lib.hid (HF.out _ hb)
              clear hb HF HNK HFK
              go_wp2_with (go_at_call 66; rw [← HW5.out]; refine HF0.out.mono ?_; rintro e w1 ⟨rfl, hb1⟩; have HB6 := Lib.hid (HB5.out.trans (hb1.mono (by have := HB5.out.size; omega))); have HK6 := Lib.hid (HK5.out.below hb1 HK5.out.lt); have HO6 := Lib.hid ((hb1.block s (Array.getElem?_eq_some_iff.1 HO5.out).1).trans HO5.out); clear hb1)
              exact ⟨⟨j + 1, by omega, by go_num, HX.out, HK6.out, HB6.out, HO6.out⟩, by simp [intOf]; omega⟩
          · have hjk : j = k := by omega
            subst hjk
            have HX := Lib.hid (HIN2.out HFN.out)
            have lk : (Instr.lookup 83 (.map (some (s + 1))) (.agg #[.int .i64 (p : Int), .int .i64 (q : Int)]) false).run Try.prog wi = .ok (.bool (decide ((p, q) ∈ ps.map ptOf))) wi := run_lookB wi 83 Try.underlying83 _ _ _ HK2.out (x := ((p, q) : Pt)) ⟨by show p ≤ _; omega, by show q ≤ _; omega⟩ (decide ((p, q) ∈ ps.map ptOf)) (relM_at (ps.map ptOf) (p, q))
            rw [HX.out] at lk
            have e0 := cell_in HBO2.out (i := 0) rfl
            have e1 := cell_in HBO2.out (i := 1) rfl
            clear hlt hj
            go_wp2
            go_ret
            exact ⟨rfl, by rw [hs]; exact HBW2.out⟩
end Go.Proofs.Ytmbdjjkgjnemiaa
