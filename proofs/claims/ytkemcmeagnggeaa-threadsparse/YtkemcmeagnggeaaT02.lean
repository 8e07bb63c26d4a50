import Derived.Test.YtkemcmeagnggeaaT00
import Derived.Test.YtkemcmeagnggeaaT01
import Derived.Laws.BytesArg
/- Layer 3: contract: Arches. -/
namespace Go.Proofs.Ytkemcmeagnggeaa
open Go.RowKit
set_option linter.unusedVariables false

/-- The ends of the arches, the letters that have been seen, and how many, after i letters. -/
structure ArS where
  l : List Int
  sn : Nat → Bool
  m : Nat
def mark (sn : Nat → Bool) (c : Nat) : Nat → Bool := fun x => if x = c then true else sn x
theorem mark_same (sn : Nat → Bool) (c : Nat) : mark sn c c = true := if_pos rfl
theorem mark_other (sn : Nat → Bool) {c x : Nat} (h : x ≠ c) : mark sn c x = sn x := if_neg h
def cntS (sn : Nat → Bool) (m c : Nat) : Nat := if sn c = true then m else m + 1
theorem mark_seen {sn : Nat → Bool} {c : Nat} (h : sn c = true) : mark sn c = sn := by
  funext x
  by_cases e : x = c
  · subst e; rw [mark_same, h]
  · rw [mark_other sn e]
def archStep (k : Nat) (i c : Nat) (s : ArS) : ArS :=
  if cntS s.sn s.m c = k then ⟨s.l ++ [(i : Int)], fun _ => false, 0⟩ else ⟨s.l, mark s.sn c, cntS s.sn s.m c⟩
theorem archStep_hit {k i c m : Nat} {l : List Int} {sn : Nat → Bool} (h : cntS sn m c = k) : archStep k i c ⟨l, sn, m⟩ = ⟨l ++ [(i : Int)], fun _ => false, 0⟩ := if_pos h
theorem archStep_no {k i c m : Nat} {l : List Int} {sn : Nat → Bool} (h : cntS sn m c ≠ k) : archStep k i c ⟨l, sn, m⟩ = ⟨l, mark sn c, cntS sn m c⟩ := if_neg h
theorem cntS_seen {sn : Nat → Bool} {m c : Nat} (h : true = sn c) : cntS sn m c = m := if_pos h.symm
theorem cntS_new {sn : Nat → Bool} {m c : Nat} (h : false = sn c) : cntS sn m c = m + 1 := if_neg (by rw [← h]; simp)
def archTo (w : List Int) (k : Nat) : Nat → ArS
  | 0 => ⟨[], fun _ => false, 0⟩
  | i + 1 => archStep k i (w[i]?.getD 0 - 97).toNat (archTo w k i)
def archF (w : List Int) (k : Nat) : List Int := (archTo w k w.length).l
theorem archStep_len (k i c : Nat) (s : ArS) : (archStep k i c s).l.length ≤ s.l.length + 1 ∧ (archStep k i c s).m ≤ s.m + 1 := by
  have h : cntS s.sn s.m c ≤ s.m + 1 := by unfold cntS; split <;> omega
  unfold archStep
  by_cases e : cntS s.sn s.m c = k
  · rw [if_pos e]; simp
  · rw [if_neg e]; exact ⟨Nat.le_succ _, h⟩
theorem archTo_len (w : List Int) (k i : Nat) : (archTo w k i).l.length ≤ i ∧ (archTo w k i).m ≤ i := by
  induction i with
  | zero => exact ⟨Nat.le_refl _, Nat.le_refl _⟩
  | succ i ih =>
    rw [archTo]
    have := archStep_len k i (w[i]?.getD 0 - 97).toNat (archTo w k i)
    omega
/-- Block B holds four bools, the letters that have been seen. -/
def Bl4 (w : World) (B : Nat) (sn : Nat → Bool) : Prop := ∀ c, c < 4 → w.cell? ⟨B, c, none⟩ = some (.bool (sn c)) ∧ w.frozen? ⟨B, c, none⟩ = false
theorem Bl4.set {w : World} {B c : Nat} {sn : Nat → Bool} (h : Bl4 w B sn) (hc : c < 4) : Bl4 (w.setCell ⟨B, c, none⟩ (.bool true)) B (mark sn c) := fun x hx => by
  refine ⟨?_, by rw [World.frozen?_setCell]; exact (h x hx).2⟩
  by_cases e : x = c
  · subst e; rw [mark_same]; exact World.cell?_setCell_same' _ _ _ (by rw [(h x hx).1]; rfl)
  · rw [mark_other sn e]
    exact (World.cell?_setCell_other _ _ _ _ (fun e2 => by injection e2 with _ e3; exact e e3.symm)).trans (h x hx).1
theorem Bl4.grown {w w' : World} {B : Nat} {sn : Nat → Bool} {r : Option Nat} (h : Bl4 w B sn) (hg : w.grownBy w' r) (hB : B < w.heap.size) (hr : r ≠ some B) : Bl4 w' B sn := fun c hc =>
  ⟨grown_cell hg (h c hc).1 (fun e => hr e.symm), (grown_frozen (p := ⟨B, c, none⟩) hg hB (fun e => hr e.symm)).trans (h c hc).2⟩

/-- The world behind a store of four times false. -/
def clr4 (w : World) (B : Nat) : World := (((w.setCell ⟨B, 0, none⟩ (.bool false)).setCell ⟨B, 1, none⟩ (.bool false)).setCell ⟨B, 2, none⟩ (.bool false)).setCell ⟨B, 3, none⟩ (.bool false)
theorem Bl4.one {w : World} {B c : Nat} {sn : Nat → Bool} (h : Bl4 w B sn) (hc : c < 4) : Bl4 (w.setCell ⟨B, c, none⟩ (.bool false)) B (fun x => if x = c then false else sn x) := fun x hx => by
  refine ⟨?_, by rw [World.frozen?_setCell]; exact (h x hx).2⟩
  by_cases e : x = c
  · subst e
    simp only [if_true]
    exact World.cell?_setCell_same' _ _ _ (by rw [(h x hx).1]; rfl)
  · simp only [if_neg e]
    exact (World.cell?_setCell_other _ _ _ _ (fun e2 => by injection e2 with _ e3; exact e e3.symm)).trans (h x hx).1
theorem Bl4.clr {w : World} {B : Nat} {sn : Nat → Bool} (h : Bl4 w B sn) : Bl4 (clr4 w B) B (fun _ => false) := fun x hx => by
  have h2 := (((h.one (c := 0) (by omega)).one (c := 1) (by omega)).one (c := 2) (by omega)).one (c := 3) (by omega) x hx
  unfold clr4
  rcases (by omega : x = 0 ∨ x = 1 ∨ x = 2 ∨ x = 3) with rfl | rfl | rfl | rfl <;> exact h2
theorem clr_own {w : World} {B b e : Nat} {v : Value} {zs : List Int} (h : Ow w B e v zs) (hb : b < B) : Ow (clr4 w b) B e v zs := (((h.setBelow (a := ⟨b, 0, none⟩) hb _).setBelow (a := ⟨b, 1, none⟩) hb _).setBelow (a := ⟨b, 2, none⟩) hb _).setBelow (a := ⟨b, 3, none⟩) hb _
theorem clr_below {w0 w : World} {B : Nat} (h : Below B w0 w) : Below B w0 (clr4 w B) := (((h.setCell (p := ⟨B, 0, none⟩) (Nat.le_refl _) _).setCell (p := ⟨B, 1, none⟩) (Nat.le_refl _) _).setCell (p := ⟨B, 2, none⟩) (Nat.le_refl _) _).setCell (p := ⟨B, 3, none⟩) (Nat.le_refl _) _
theorem clr_size (w : World) (B : Nat) : (clr4 w B).heap.size = w.heap.size := by simp [clr4, World.setCell]

set_option maxHeartbeats 1600000 in
theorem arches_any (s : ByteArray) (k : Nat) (w : World) (hs : wordB (bs s) = true) (hk1 : 1 ≤ k) (hk4 : k ≤ 4) :
    Calls Try.prog 34 #[.string s, .int .i64 k] w fun e w' => ∃ v, e = .returned v ∧ Ow w' w.heap.size 3 v (archF (bs s) k) ∧ Below w.heap.size w w' := by
  have hs60 : s.size ≤ 60 := by unfold wordB at hs; simp at hs; rw [bs_len] at hs; exact hs.1
  have HLT : Hid (∀ j, j < s.size → ∃ m : Nat, m < 4 ∧ (bs s)[j]?.getD 0 = 97 + (m : Int)) := fun j hj => by
    unfold wordB at hs
    rw [Bool.and_eq_true] at hs
    have h := (lettersB_iff.1 hs.2) j (by rw [bs_len]; exact hj)
    exact ⟨((bs s)[j]?.getD 0 - 97).toNat, by omega, by omega⟩
  have HSL := Lib.hid (bs_len s)
  obtain ⟨i0, hi, hz0, hz1, hz2⟩ := info_parts Try.infoInt
  have HI : Hid (Try.prog.info? 3 = some i0 ∧ i0.zero = some (.int .i64 0) ∧ i0.size = 1 ∧ i0.bytes = 8) := ⟨hi, hz0, hz1, hz2⟩
  clear hi hz0 hz1 hz2 hs
  go_enter Try.func34, Try.ntmps34
  go_wp2
  go_loopw [5, 7, 8, 9] (fun v m i _ w' => ∃ j : Nat, j ≤ s.size ∧ i = .int .i64 (j : Int) ∧ m = .int .i64 ((archTo (bs s) k j).m : Int) ∧ Hid (Ow w' (w.heap.size + 1) 3 v (archTo (bs s) k j).l) ∧ Hid (Bl4 w' w.heap.size (archTo (bs s) k j).sn) ∧ w.heap.size + 1 ≤ w'.heap.size ∧ Below w.heap.size w w') (fun _ _ i _ _ => s.size - (intOf i).toNat)
  case atStart =>
    refine ⟨0, by omega, by go_num, by go_num, Ow.nil _ _ _, fun c hc => ?_, by simp, (Below.refl _ _).alloc (Nat.le_refl _) _⟩
    rcases (by omega : c = 0 ∨ c = 1 ∨ c = 2 ∨ c = 3) with rfl | rfl | rfl | rfl <;> exact ⟨by simp [archTo], by simp⟩
  case round =>
    obtain ⟨j, hj, rfl, rfl, HO, HB, hsz, hW⟩ := hrel
    by_cases hlt : j < s.size
    · obtain ⟨c, hc, hcu⟩ := HLT.out j hlt
      have hcu2 := hcu
      rw [bs_at s j hlt] at hcu2
      have HST : Hid (archTo (bs s) k (j + 1) = archStep k j c (archTo (bs s) k j)) := by
        rw [Hid, archTo, hcu, show (97 + (c : Int) - 97).toNat = c from by omega]
      clear hcu
      have hlen := archTo_len (bs s) k j
      obtain ⟨S, hS⟩ : ∃ S, S = archTo (bs s) k j := ⟨_, rfl⟩
      rw [← hS] at HO HB HST hlen
      rw [← hS]
      clear hS
      obtain ⟨l, sn, m⟩ := S
      dsimp only at HO HB hlen
      have hcell := (HB.out c hc).1
      have hfr := (HB.out c hc).2
      have HLL : Hid (l.length ≤ 1099511627776) := by rw [Hid]; omega
      have hb0 : s[j].toNat < 256 := s[j].toNat_lt
      obtain ⟨q, hq⟩ : ∃ q, q = sn c := ⟨_, rfl⟩
      rw [← hq] at hcell
      have hc' : (c : Int) < 4 := by omega
      cases q with
      | true =>
        by_cases hmk : m = k
        · have gk : ((m : Int) == (k : Int)) = true := by simp; omega
          have HN2 : Hid (archTo (bs s) k (j + 1) = ⟨l ++ [(j : Int)], fun _ => false, 0⟩) := by
            rw [Hid, HST.out, archStep_hit (by rw [cntS_seen hq]; exact hmk)]
          clear hmk hq
          obtain ⟨A', c', hv, _⟩ := HO.out.sl HLL.out
          go_wp2_with (at_builtin; go_must (refine push_law _ rfl (.tmp 31) (.tmp 33) 23 rfl (w.heap.size + 1) 3 i0 Try.underlying23 HI.out _ l (j : Int) rfl rfl HO.out HLL.out hsz ?_); intro v2 w2 hv2 hg2 hat2; clear hat2; have HB2 := Lib.hid (HB.out.grown hg2 (by omega) (fun e => by have := (HO.out.lt e).1; omega)); have HV2 := Lib.hid hv2; clear hv2; have HG2 := Lib.hid hg2; clear hg2; obtain ⟨b0, f0⟩ := HB2.out 0 (by omega); obtain ⟨b1, f1⟩ := HB2.out 1 (by omega); obtain ⟨b2, f2⟩ := HB2.out 2 (by omega); obtain ⟨b3, f3⟩ := HB2.out 3 (by omega))
          clear b0 b1 b2 b3 f0 f1 f2 f3
          go_roundw
          case rel => exact ⟨j + 1, by omega, by go_num, by rw [HN2.out]; go_num, by rw [HN2.out]; exact clr_own HV2.out (Nat.lt_succ_self _), by rw [HN2.out]; exact HB2.out.clr, by have h1 := HG2.out.size; have h2 := clr_size w2 w.heap.size; unfold clr4 at h2; omega, clr_below (hW.grown HG2.out hW.size (fun g e => by have := (HO.out.lt e).1; omega))⟩
          case measure => simp [intOf]; omega
        · have gk : ((m : Int) == (k : Int)) = false := by simp; omega
          have HN2 : Hid (archTo (bs s) k (j + 1) = ⟨l, sn, m⟩) := by
            rw [Hid, HST.out, archStep_no (by rw [cntS_seen hq]; exact hmk), cntS_seen hq, mark_seen hq.symm]
          clear hmk hq
          go_wp2
          go_roundw
          case rel => exact ⟨j + 1, by omega, by go_num, by rw [HN2.out], by rw [HN2.out]; exact HO, by rw [HN2.out]; exact HB, hsz, hW⟩
          case measure => simp [intOf]; omega
      | false =>
        have HBM := Lib.hid (HB.out.set hc)
        by_cases hmk : m + 1 = k
        · have gk : ((m : Int) + 1 == (k : Int)) = true := by simp; omega
          have HN2 : Hid (archTo (bs s) k (j + 1) = ⟨l ++ [(j : Int)], fun _ => false, 0⟩) := by
            rw [Hid, HST.out, archStep_hit (by rw [cntS_new hq]; exact hmk)]
          have HOM : Hid (Ow (wr.setCell ⟨w.heap.size, c, none⟩ (.bool true)) (w.heap.size + 1) 3 _ l) := HO.out.setBelow (Nat.lt_succ_self _) _
          have hW1 := hW.setCell (p := ⟨w.heap.size, c, none⟩) (Nat.le_refl _) (.bool true)
          clear hmk hq
          obtain ⟨A', c', hv, _⟩ := HO.out.sl HLL.out
          go_wp2_with (at_builtin; go_must (refine push_law_at _ rfl (.tmp 31) (.tmp 33) 23 rfl (w.heap.size + 1) 3 i0 Try.underlying23 HI.out _ l (j : Int) wr.heap.size (by simp [World.setCell]) rfl rfl HOM.out HLL.out (by simpa [World.setCell] using hsz) ?_); intro v2 w2 hv2 hg2 hat2; clear hat2; have HB2 := Lib.hid (HBM.out.grown hg2 (by simp [World.setCell]; omega) (fun e => by have := (HOM.out.lt e).1; omega)); have HV2 := Lib.hid hv2; clear hv2; have HG2 := Lib.hid hg2; clear hg2; obtain ⟨b0, f0⟩ := HB2.out 0 (by omega); obtain ⟨b1, f1⟩ := HB2.out 1 (by omega); obtain ⟨b2, f2⟩ := HB2.out 2 (by omega); obtain ⟨b3, f3⟩ := HB2.out 3 (by omega))
          clear b0 b1 b2 b3 f0 f1 f2 f3
          go_roundw
          case rel => exact ⟨j + 1, by omega, by go_num, by rw [HN2.out]; go_num, by rw [HN2.out]; exact clr_own HV2.out (Nat.lt_succ_self _), by rw [HN2.out]; exact HB2.out.clr, by have h1 := HG2.out.size; have h2 := clr_size w2 w.heap.size; simp [World.setCell] at h1; unfold clr4 at h2; omega, clr_below (hW1.grown HG2.out hW1.size (fun g e => by have := (HOM.out.lt e).1; omega))⟩
          case measure => simp [intOf]; omega
        · have gk : ((m : Int) + 1 == (k : Int)) = false := by simp; omega
          have HN2 : Hid (archTo (bs s) k (j + 1) = ⟨l, mark sn c, m + 1⟩) := by
            rw [Hid, HST.out, archStep_no (by rw [cntS_new hq]; exact hmk), cntS_new hq]
          have HOM : Hid (Ow (wr.setCell ⟨w.heap.size, c, none⟩ (.bool true)) (w.heap.size + 1) 3 _ l) := HO.out.setBelow (Nat.lt_succ_self _) _
          clear hmk hq
          go_wp2
          go_roundw
          case rel => exact ⟨j + 1, by omega, by go_num, by rw [HN2.out]; go_num, by rw [HN2.out]; exact HOM, by rw [HN2.out]; exact HBM, by simpa [World.setCell] using hsz, hW.setCell (p := ⟨w.heap.size, c, none⟩) (Nat.le_refl _) _⟩
          case measure => simp [intOf]; omega
    · obtain rfl : j = s.size := by omega
      have HF : Hid (archF (bs s) k = (archTo (bs s) k s.size).l) := by unfold archF; rw [Hid, HSL.out]
      go_wp2
      go_ret
      exact ⟨_, rfl, by rw [HF.out]; exact HO.out.base (by omega), hW⟩
end Go.Proofs.Ytkemcmeagnggeaa
/- Layer 3: contracts: Less (shorter first, then the letters). -/
namespace Go.Proofs.Ytkemcmeagnggeaa
open Go.RowKit
set_option linter.unusedVariables false

/-- Letters compared from the left. -/
def ltL : List Int → List Int → Bool
  | _, [] => false
  | [], _ :: _ => true
  | a :: x, b :: y => decide (a < b) || (decide (a = b) && ltL x y)
theorem ltL_bytes : ∀ (x y : List UInt8), Op.bytesLess x y = ltL (x.map fun b => (b.toNat : Int)) (y.map fun b => (b.toNat : Int))
  | [], [] => by simp [Op.bytesLess, ltL]
  | _ :: _, [] => by simp [Op.bytesLess, ltL]
  | [], _ :: _ => by simp [Op.bytesLess, ltL]
  | a :: x, b :: y => by
    rw [Op.bytesLess, ltL_bytes x y, List.map_cons, List.map_cons, ltL]
    congr 1
    · rw [Bool.eq_iff_iff, decide_eq_true_iff, decide_eq_true_iff, UInt8.lt_iff_toNat_lt]; omega
    · congr 1
      rw [Bool.eq_iff_iff, beq_iff_eq, decide_eq_true_iff, ← UInt8.toNat_inj]; omega
theorem toL_data (a : ByteArray) : a.toList = a.data.toList := by
  exact ByteArray.toList_eq a
theorem ltL_bs (a b : ByteArray) : Op.bytesLess a.toList b.toList = ltL (bs a) (bs b) := by
  rw [ltL_bytes, toL_data, toL_data]; rfl
theorem ltL_irr : ∀ x : List Int, ltL x x = false
  | [] => rfl
  | a :: x => by simp [ltL, ltL_irr x]
theorem ltL_trans : ∀ {x y z : List Int}, ltL x y = true → ltL y z = true → ltL x z = true
  | _, [], _, h, _ => by simp [ltL] at h
  | _, _ :: _, [], _, h => by simp [ltL] at h
  | [], _ :: _, _ :: _, _, _ => by simp [ltL]
  | a :: x, b :: y, c :: z, h, k => by
    simp only [ltL, Bool.or_eq_true, Bool.and_eq_true, decide_eq_true_eq] at h k ⊢
    rcases h with h | ⟨h, h2⟩ <;> rcases k with k | ⟨k, k2⟩
    · exact .inl (by omega)
    · exact .inl (by omega)
    · exact .inl (by omega)
    · exact .inr ⟨by omega, ltL_trans h2 k2⟩
theorem ltL_total : ∀ {x y : List Int}, ltL x y = false → ltL y x = false → x = y
  | [], [], _, _ => rfl
  | [], _ :: _, h, _ => by simp [ltL] at h
  | _ :: _, [], _, h => by simp [ltL] at h
  | a :: x, b :: y, h, k => by
    simp only [ltL, Bool.or_eq_false_iff, decide_eq_false_iff_not, Bool.and_eq_false_iff] at h k
    obtain ⟨h1, h2⟩ := h
    obtain ⟨k1, k2⟩ := k
    have hab : a = b := by omega
    rcases h2 with h2 | h2
    · exact absurd hab h2
    rcases k2 with k2 | k2
    · exact absurd hab.symm k2
    rw [hab, ltL_total h2 k2]
/-- The order of words. -/
def lessL (x y : List Int) : Bool := if x.length = y.length then ltL x y else decide (x.length < y.length)
theorem lessL_irr (x : List Int) : lessL x x = false := by simp [lessL, ltL_irr]
theorem lessL_trans {x y z : List Int} (h : lessL x y = true) (k : lessL y z = true) : lessL x z = true := by
  unfold lessL at *
  split at h <;> split at k <;> split
  · exact ltL_trans h k
  · omega
  · omega
  · simp at k ⊢; omega
  · omega
  · simp at h ⊢; omega
  · simp at h k; omega
  · simp at h k ⊢; omega
theorem lessL_total {x y : List Int} (h : lessL x y = false) (k : lessL y x = false) : x = y := by
  unfold lessL at *
  split at h
  · rename_i e
    rw [if_pos e.symm] at k
    exact ltL_total h k
  · rename_i e
    rw [if_neg (fun e2 => e e2.symm)] at k
    simp at h k; omega

set_option maxHeartbeats 400000 in
theorem less_any (a b : ByteArray) (w : World) (ha : a.size ≤ 1099511627776) (hb : b.size ≤ 1099511627776) :
    Calls Try.prog 68 #[.string a, .string b] w fun e w' => e = .returned (.bool (lessL (bs a) (bs b))) ∧ w = w' := by
  go_enter Try.func68, Try.ntmps68
  by_cases h : a.size = b.size
  · have HL : Hid (Op.bytesLess a.toList b.toList = lessL (bs a) (bs b)) := by
      rw [Hid, ltL_bs, lessL, bs_len, bs_len, if_pos h]
    go_wp2
    go_ret
    exact ⟨bend HL.out, rfl⟩
  · have HL : Hid (decide (a.size < b.size) = lessL (bs a) (bs b)) := by
      rw [Hid, lessL, bs_len, bs_len, if_neg h]
    go_wp2
    go_ret
    exact ⟨bend HL.out, rfl⟩
end Go.Proofs.Ytkemcmeagnggeaa
/- Layer 3: bytes that the call owns; the law's tame. -/
namespace Go.Proofs.Ytkemcmeagnggeaa
open Go.RowKit
set_option linter.unusedVariables false

theorem Try.infoByte : (Try.prog.info? 5).map (fun i => (i.zero, i.size, i.bytes)) = some (some (.int .u8 0), 1, 1) := by kernel_rfl

abbrev bytesV (p : List UInt8) : List Value := p.map fun b => .int .u8 (b.toNat : Int)
/-- The call owns the slice v of the bytes p. -/
def Owb (w : World) (B e : Nat) (v : Value) (p : List UInt8) : Prop := w.ownsRow B e 1 v p.length (bytesV p)
theorem Owb.nil (w : World) (B e : Nat) : Owb w B e (.slice none 0 0) [] := World.ownsRow_nil _ _ _ _
theorem Owb.lt {w : World} {B e : Nat} {v : Value} {p : List UInt8} (h : Owb w B e v p) {k : Nat} (hk : v.ownBlock = some k) : B ≤ k ∧ k < w.heap.size := World.ownsRow.lt h k hk
theorem Owb.tn {w w' : World} {T : Nat → Prop} {B e : Nat} {v : Value} {p : List UInt8} (h : Owb w B e v p) (k : Tn w w' T) (hn : ∀ b, v.ownBlock = some b → ¬ T b) : Owb w' B e v p := rows_tn h k hn
theorem Owb.drewN {w : World} {B e : Nat} {v : Value} {p : List UInt8} (h : Owb w B e v p) (n : Nat) : Owb (w.drewN n) B e v p := h
theorem Apart.new {w : World} {v v' u : Value} (h : Apart v u) (hu : ∀ b, u.ownBlock = some b → b < w.heap.size) (hat : v'.ownBlock = v.ownBlock ∨ ∃ g, v'.ownBlock = some g ∧ w.heap.size ≤ g) : Apart v' u := by
  unfold Apart at *
  rcases hat with e1 | ⟨g, e1, hg⟩
  · rw [e1]; exact h
  · right
    rw [e1]
    intro e2
    have := hu g e2.symm
    omega
theorem Apart.not {v u : Value} (h : Apart v u) {b : Nat} (hv : v.ownBlock = some b) : ¬ u.ownBlock = some b := by
  unfold Apart at h
  rcases h with h | h
  · rw [h] at hv; cases hv
  · intro hu; exact h (by rw [hv, hu])
theorem pushb_law {P : Program} (w : World) {ops : Array Oper} {rest : List Oper} {o : Oper} {a : Act} {Q : Exit → Act → World → Prop} (hgd : o.guard = none) (s x : Operand) (t : TypeId)
    (ho : o.op = .call { callee := .builtin .append, args := #[s, x], argTypes := #[t, t] })
    (B : Nat) (e : TypeId) (i : TypeInfo) (ht : P.underlying t = some (.slice e)) (hI : P.info? e = some i ∧ i.zero = some (.int .u8 0) ∧ i.size = 1 ∧ i.bytes = 1)
    (v : Value) (zs : List UInt8) (z : UInt8) (hs : a.eval s = v) (hx : a.eval x = .slice (some ⟨w.heap.size, 0, none⟩) 1 1) (hown : Owb w B e v zs) (hn : zs.length ≤ 1099511627776) (hB : B ≤ w.heap.size)
    (h : ∀ v' w', Owb w' B e v' (zs ++ [z]) → w.grownBy w' v.ownBlock → (v'.ownBlock = v.ownBlock ∨ ∃ g, v'.ownBlock = some g ∧ w.heap.size ≤ g) → wpList P ops Q rest (a.put o.dst v') w') :
    wpList P ops Q (o :: rest) a (w.alloc (.cells #[.int .u8 (z.toNat : Int)] e)) := by
  obtain ⟨h1, h2, h3, h4⟩ := hI
  have hown' : (w.alloc (.cells #[.int .u8 (z.toNat : Int)] e)).ownsRow B e 1 v zs.length (bytesV zs) := World.ownsRow.alloc hown _
  refine wpList_append_own_at _ hgd s x t ho B e i _ 1 1 ht h1 h2 h3 h4 rfl (by decide) v zs.length (bytesV zs) hs hown' ⟨w.heap.size, 0, none⟩ 1 1 [.int .u8 (z.toNat : Int)] hx rfl ?_ ?_ (by unfold maxLen; omega) (by omega) (by simp; omega) ?_
  · intro j u hu
    match j, hu with
    | 0, hu =>
      simp at hu; subst hu
      simp [Addr.add]
  · intro u hu
    simp at hu; subst hu; rfl
  · intro v' w' ho' hg' _ hat
    refine h v' w' (by unfold Owb; simpa [bytesV] using ho') (grown_alloc hg') ?_
    rcases hat with e1 | e1
    · exact .inl e1
    · exact .inr ⟨_, e1, by simp⟩
set_option maxRecDepth 100000 in
/-- The string of a slice of bytes. -/
theorem string_of {w : World} {B e b len cap : Nat} {p : List UInt8} (src dst : TypeId) (hs : Try.prog.underlying src = some (.slice e)) (he : Try.prog.underlying e = some (.int .u8)) (hd : Try.prog.underlying dst = some .string)
    (h : Owb w B e (.slice (some ⟨b, 0, none⟩) len cap) p) (hl : p.length = len) : (convert src dst (.slice (some ⟨b, 0, none⟩) len cap)).run Try.prog w = .ok (.string ⟨p.toArray⟩) w := by
  have hc : w.ownsRow B e 1 (.slice (some ⟨b, 0, none⟩) p.length cap) p.length (bytesV p) := by rw [hl]; have := h; unfold Owb at this; rw [hl] at this; exact this
  have h := run_convert_bytes_arg (P := Try.prog) w src e hs he b 0 len cap (p.map fun x => (x.toNat : Int)) (by simp [hl]) (fun i hi => by
    rw [Nat.zero_add, hc.cellAt i (by omega), List.getElem?_map, List.getElem?_eq_getElem (by omega)]
    simp [List.getD, List.getElem?_map, List.getElem?_eq_getElem (show i < p.length by omega)]) dst hd
  rw [h]
  congr 2
  apply ByteArray.ext
  apply Array.toList_inj.1
  rw [strOfNums_data, List.map_map]
  conv => rhs; rw [← List.map_id p]
  apply List.map_congr_left
  intro x _
  simp

/-- The law's tame: at most `most` letters, out of the first k. -/
def tameB (s : ByteArray) (most k : Nat) : List UInt8 := (s.data.toList.take most).map fun b => UInt8.ofNat (97 + b.toNat % k)
theorem tameB_at (s : ByteArray) (most k j : Nat) (h : j < s.size) : tameB s (j + 1) k = tameB s j k ++ [UInt8.ofNat (97 + s[j].toNat % k)] := by
  unfold tameB
  rw [List.take_add_one, List.getElem?_eq_getElem (by simpa using h)]
  simp
  rfl
theorem tameB_len (s : ByteArray) (most k : Nat) : (tameB s most k).length = min most s.size := by
  unfold tameB; simp
theorem tameB_size (s : ByteArray) (most k : Nat) (h : s.size ≤ most) : tameB s most k = tameB s s.size k := by
  unfold tameB
  rw [List.take_of_length_le (by simpa using h), List.take_of_length_le (by simp)]

set_option maxHeartbeats 800000 in
theorem tame_any (s : ByteArray) (most k : Nat) (w : World) (hs : s.size ≤ 1099511627776) (hm : most ≤ 1099511627776) (hk0 : 0 < k) (hk : k ≤ 100) :
    Calls Try.prog 46 #[.string s, .int .i64 most, .int .i64 k] w fun e w' => e = .returned (.string ⟨(tameB s most k).toArray⟩) ∧ Below w.heap.size w w' := by
  obtain ⟨i0, hi0, hz, hsz, hby⟩ := info_parts Try.infoByte
  have HI := Lib.hid (And.intro hi0 (And.intro hz (And.intro hsz hby))); clear hi0 hz hsz hby
  go_enter Try.func46, Try.ntmps46
  go_wp2
  go_loopw [7, 8] (fun v i w' => ∃ j : Nat, j ≤ s.size ∧ j ≤ most ∧ i = .int .i64 (j : Int) ∧ Hid (Owb w' w.heap.size 5 v (tameB s j k)) ∧ Hid (Below w.heap.size w w')) (fun _ i _ => s.size - (intOf i).toNat)
  case atStart => exact ⟨0, by omega, by omega, by go_num, (by rw [Hid]; exact Owb.nil _ _ _), Below.refl _ _⟩
  case round =>
    obtain ⟨j, hj, hjm, rfl, HO, HB⟩ := hrel
    obtain ⟨wo, rfl⟩ : ∃ wo : World, wo = wr := ⟨_, rfl⟩
    by_cases hlt : j < s.size
    · by_cases hlm : j < most
      · have hb0 : s[j].toNat < 256 := s[j].toNat_lt
        have hbs : w.heap.size ≤ wo.heap.size := HB.out.size
        obtain ⟨z, hz⟩ : ∃ z : UInt8, z = UInt8.ofNat (97 + s[j].toNat % k) := ⟨_, rfl⟩
        have hzm : s[j].toNat % k < k := Nat.mod_lt _ hk0
        have hzn : z.toNat = 97 + s[j].toNat % k := by rw [hz, UInt8.toNat_ofNat']; omega
        have HT : Hid (tameB s (j + 1) k = tameB s j k ++ [z]) := by rw [Hid, hz]; exact tameB_at s j k j hlt
        have HL : Hid ((tameB s j k).length ≤ 1099511627776) := by rw [Hid, tameB_len]; omega
        have hz97 : 97 ≤ z.toNat ∧ z.toNat < 256 := by omega
        have g1 : (s[j].toNat : Int).tmod (k : Int) = (z.toNat : Int) - 97 := by
          rw [Int.tmod_eq_emod_of_nonneg (by omega), hzn]; omega
        have g2 : IntKind.u8.wrap ((z.toNat : Int) - 97) = (z.toNat : Int) - 97 := by
          rw [show ((z.toNat : Int) - 97) = ((z.toNat - 97 : Nat) : Int) by omega]; exact IntWalk.u8_in _ (by omega)
        have g3 : IntKind.u8.wrap (97 + ((z.toNat : Int) - 97)) = (z.toNat : Int) := by
          rw [show (97 + ((z.toNat : Int) - 97)) = ((z.toNat : Nat) : Int) by omega]; exact IntWalk.u8_in _ (by omega)
        clear hz hzn hzm
        go_wp2_with (at_builtin; go_must (refine pushb_law _ rfl (.tmp 20) (.tmp 29) 64 rfl w.heap.size 5 i0 Try.underlying64 HI.out _ (tameB s j k) z rfl rfl HO.out HL.out hbs ?_); intro v4 w4 hv4 hg4 hat4; have HO4 := Lib.hid hv4; have HB4 := Lib.hid (HB.out.grown hg4 hbs (fun b hb => (HO.out.lt hb).1)); clear hv4 hg4 hat4)
        have HT4 : Hid (Owb w4 w.heap.size 5 v4 (tameB s (j + 1) k)) := by rw [Hid, HT.out]; exact HO4.out
        exact ⟨⟨j + 1, by omega, by omega, by go_num, HT4, HB4⟩, by simp [intOf]; omega⟩
      · have HR : Hid (tameB s most k = tameB s j k) := by rw [Hid, show j = most by omega]
        generalize tameB s j k = p at *
        obtain ⟨pl, hpl⟩ : ∃ l, p.length = l := ⟨_, rfl⟩
        rcases HO.out.2 with ⟨he, h0⟩ | ⟨g, cap, cur, he, _, _, hcap, _⟩
        · have hcv : (convert 64 9 (.slice none 0 0)).run Try.prog wo = .ok (.string ByteArray.empty) wo := run_convert_bytes_nil wo _ _ Try.underlying64 Try.underlying5 0 0 _ Try.underlying9
          have hp0 : p = [] := List.eq_nil_of_length_eq_zero h0
          clear hpl h0 HO
          rw [he]
          clear he
          go_wp2
          go_ret
          exact ⟨by rw [HR.out, hp0]; rfl, HB.out⟩
        · have hcv : (convert 64 9 (.slice (some ⟨g, 0, none⟩) p.length cap)).run Try.prog wo = .ok (.string ⟨p.toArray⟩) wo := string_of _ _ Try.underlying64 Try.underlying5 Try.underlying9 (he ▸ HO.out) rfl
          rw [he]
          clear he HO
          rw [hpl] at hcv hcap
          rw [hpl]
          clear hpl
          go_wp2
          go_ret
          exact ⟨by rw [HR.out]; rfl, HB.out⟩
    · obtain rfl : j = s.size := by omega
      have HR : Hid (tameB s most k = tameB s s.size k) := tameB_size s most k (by omega)
      generalize tameB s s.size k = p at *
      obtain ⟨pl, hpl⟩ : ∃ l, p.length = l := ⟨_, rfl⟩
      rcases HO.out.2 with ⟨he, h0⟩ | ⟨g, cap, cur, he, _, _, hcap, _⟩
      · have hcv : (convert 64 9 (.slice none 0 0)).run Try.prog wo = .ok (.string ByteArray.empty) wo := run_convert_bytes_nil wo _ _ Try.underlying64 Try.underlying5 0 0 _ Try.underlying9
        have hp0 : p = [] := List.eq_nil_of_length_eq_zero h0
        clear hpl h0 HO
        rw [he]
        clear he
        go_wp2
        go_ret
        exact ⟨by rw [HR.out, hp0]; rfl, HB.out⟩
      · have hcv : (convert 64 9 (.slice (some ⟨g, 0, none⟩) p.length cap)).run Try.prog wo = .ok (.string ⟨p.toArray⟩) wo := string_of _ _ Try.underlying64 Try.underlying5 Try.underlying9 (he ▸ HO.out) rfl
        rw [he]
        clear he HO
        rw [hpl] at hcv hcap
        rw [hpl]
        clear hpl
        go_wp2
        go_ret
        exact ⟨by rw [HR.out]; rfl, HB.out⟩
end Go.Proofs.Ytkemcmeagnggeaa
