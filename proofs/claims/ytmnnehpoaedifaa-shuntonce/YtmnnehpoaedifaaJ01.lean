import Derived.Test.YtmnnehpoaedifaaJ00
import Derived.Maps.AppendAt
import Derived.WalkSmall
import Derived.Deep.DeepMust
import Derived.Deep.DeepFit
/- Contracts: QueuesBlock, LanesSort. -/
namespace Go.Proofs.Ytmnnehpoaedifaa
open Go.RowKit

def desAt (o l : List Int) (i : Nat) : Bool := decide (elt o (l[i + 1]?.getD 0) < elt o (l[i]?.getD 0))
def qblockB (o : List Int) (k : Int) (l : List Int) : Bool := decide ((l.length : Int) = k + 1) && atB l o.length && ascB l && allB (desAt o l) (l.length - 1)

set_option maxHeartbeats 1600000 in
theorem queuesBlock_any (A B : Option Addr) (n c m d : Nat) (o l : List Int) (k : Int) (w : World) (hs : Sl w A n c o) (hl : Sl w B m d l) (hbig : n ≤ 1099511627776) (hbig' : m ≤ 1099511627776) (hk0 : 0 ≤ k) (hk1 : k ≤ 1099511627776) :
    Calls Try.prog 31 #[.slice A n c, .int .i64 k, .slice B m d] w fun e w' => e = .returned (.bool (qblockB o k l)) ∧ Dr w w' := by
  have HS := Lib.hid hs; clear hs
  have HL := Lib.hid hl; clear hl
  by_cases h3 : (m : Int) = k + 1
  · have gm : ((m : Int) != k + 1) = false := by simpa using h3
    have hm0 : 0 < m := by omega
    obtain ⟨p, hp⟩ : ∃ p, p = atB l (n : Int) := ⟨_, rfl⟩
    have HC1 : Hid (∀ w1, Dr w w1 → Calls Try.prog 59 #[.slice B m d, .int .i64 n] w1 fun e w' => e = .returned (.bool p) ∧ Dr w1 w') := fun w1 h1 => by
      rw [hp]; exact at_any B m d l n w1 HL.out.len (by omega) HL.out.cap (HL.out.rd.dr h1)
    obtain ⟨q, hq⟩ : ∃ q, q = ascB l := ⟨_, rfl⟩
    have HC2 : Hid (∀ w1, Dr w w1 → Calls Try.prog 58 #[.slice B m d] w1 fun e w' => e = .returned (.bool q) ∧ Dr w1 w') := fun w1 h1 => by
      rw [hq]; exact ascending_any B m d l w1 HL.out.len (by omega) (HL.out.rd.dr h1)
    have HP := Lib.hid hp; clear hp
    have HQ := Lib.hid hq; clear hq
    have H3 := Lib.hid h3; clear h3
    cases p with
    | false =>
      have HB : Hid (false = qblockB o k l) := by unfold qblockB; rw [Hid, HS.out.len, ← HP.out]; simp
      go_enter Try.func31, Try.ntmps31
      go_wp2_with (go_at_call 59; refine (HC1.out _ (Dr.refl _)).mono ?_; rintro e w1 ⟨rfl, hd1⟩)
      go_ret
      exact ⟨bend HB.out, hd1⟩
    | true =>
      cases q with
      | false =>
        have HB : Hid (false = qblockB o k l) := by unfold qblockB; rw [Hid, ← HQ.out]; simp
        go_enter Try.func31, Try.ntmps31
        go_wp2_with (first | (go_at_call 59; refine (HC1.out _ (Dr.refl _)).mono ?_; rintro e w1 ⟨rfl, hd1⟩) | (go_at_call 58; refine (HC2.out _ hd1).mono ?_; rintro e w2 ⟨rfl, hd2⟩))
        go_ret
        exact ⟨bend HB.out, hd1.trans hd2⟩
      | true =>
        have HB0 : Hid (qblockB o k l = allB (desAt o l) (m - 1)) := by
          unfold qblockB; rw [Hid, HS.out.len, ← HP.out, ← HQ.out, HL.out.len, decide_eq_true H3.out]; simp
        obtain ⟨b2, off2, rfl, hc2⟩ := HL.out.cells hm0
        have HC3 := Lib.hid hc2; clear hc2
        have hn0 : 0 < n := by
          have := atB_lo (HP.out.symm) (k := 0) (by rw [HL.out.len]; omega)
          omega
        obtain ⟨b1, off1, rfl, hc1⟩ := HS.out.cells hn0
        have HC4 := Lib.hid hc1; clear hc1
        go_enter Try.func31, Try.ntmps31
        go_wp2_with (first | (go_at_call 59; refine (HC1.out _ (Dr.refl _)).mono ?_; rintro e w1 ⟨rfl, hd1⟩) | (go_at_call 58; refine (HC2.out _ hd1).mono ?_; rintro e w2 ⟨rfl, hd2⟩))
        have hd := hd1.trans hd2
        clear hd1 hd2
        go_loopw [7] (fun i w' => ∃ j : Nat, j + 1 ≤ m ∧ i = .int .i64 ((j + 1 : Nat) : Int) ∧ Hid (∀ i, i < j → desAt o l i = true) ∧ Dr w w') (fun i _ => m - (intOf i).toNat)
        case atStart => exact ⟨0, by omega, by go_num, fun j hj => absurd hj (by omega), hd⟩
        case round =>
          obtain ⟨j, hj, rfl, hok, hW⟩ := hrel
          by_cases hlt : j + 1 < m
          · have hp0 := atB_lo (HP.out.symm) (k := j) (by rw [HL.out.len]; omega)
            have hp1 := atB_lo (HP.out.symm) (k := j + 1) (by rw [HL.out.len]; omega)
            have hx0 := (hW.cell _).trans (HC3.out j (by omega))
            have hx1 := (hW.cell _).trans (HC3.out (j + 1) (by omega))
            have hy0 : wr.cell? ⟨b1, off1 + (l[j]?.getD 0).toNat, none⟩ = some (.int .i64 (elt o (l[j]?.getD 0))) := (hW.cell _).trans (HC4.out _ (by omega))
            have hy1 : wr.cell? ⟨b1, off1 + (l[j + 1]?.getD 0).toNat, none⟩ = some (.int .i64 (elt o (l[j + 1]?.getD 0))) := (hW.cell _).trans (HC4.out _ (by omega))
            have HD : Hid (desAt o l j = decide (elt o (l[j + 1]?.getD 0) < elt o (l[j]?.getD 0))) := rfl
            generalize elt o (l[j]?.getD 0) = y0 at *
            generalize elt o (l[j + 1]?.getD 0) = y1 at *
            generalize l[j]?.getD 0 = x0 at *
            generalize l[j + 1]?.getD 0 = x1 at *
            obtain ⟨h00, h01⟩ := hp0
            obtain ⟨h10, h11⟩ := hp1
            have hj1 : j < m := by omega
            by_cases h1 : y0 ≤ y1
            · have g1 : decide (y0 ≤ y1) = true := by simpa using h1
              have HB : Hid (false = qblockB o k l) := by rw [Hid, HB0.out]; exact allB_bad (k := j) (by omega) (by rw [HD.out]; simp; omega)
              clear h1
              go_wp2
              have ht0 : (0 : Int) ≤ (j : Int) + 1 := by omega
              have ht1 : (j : Int) + 1 < (m : Int) := by omega
              have ht2 : ((j : Int) + 1).toNat = j + 1 := by omega
              have hw1 : IntKind.i64.wrap (j : Int) = j := IntWalk.i64_in _ (by omega)
              go_quiet (fail)
              clear hw1 ht0 ht1 ht2
              go_wp2
              go_ret
              exact ⟨bend HB.out, hW.more _⟩
            · have g1 : decide (y0 ≤ y1) = false := by simpa using h1
              have HB : Hid (desAt o l j = true) := by rw [Hid, HD.out]; simp; omega
              clear h1
              go_wp2
              have ht0 : (0 : Int) ≤ (j : Int) + 1 := by omega
              have ht1 : (j : Int) + 1 < (m : Int) := by omega
              have ht2 : ((j : Int) + 1).toNat = j + 1 := by omega
              have hw1 : IntKind.i64.wrap (j : Int) = j := IntWalk.i64_in _ (by omega)
              go_quiet (fail)
              clear hw1 ht0 ht1 ht2
              go_wp2
              go_roundw
              case rel => exact ⟨j + 1, by omega, by go_num, ok_step hok.out HB.out, hW.more _⟩
              case measure => simp [intOf]; omega
          · have HB : Hid (true = qblockB o k l) := by rw [Hid, HB0.out]; exact allB_good (fun i hi => hok.out i (by omega))
            go_wp2
            go_ret
            exact ⟨bend HB.out, hW⟩
  · have gm : ((m : Int) != k + 1) = true := by simpa using h3
    have HB : Hid (false = qblockB o k l) := by unfold qblockB; rw [Hid, HL.out.len, decide_eq_false h3]; rfl
    clear h3
    go_enter Try.func31, Try.ntmps31
    go_wp2
    go_ret
    exact ⟨bend HB.out, Dr.refl _⟩
end Go.Proofs.Ytmnnehpoaedifaa
/- Contracts: LanesSort. -/
namespace Go.Proofs.Ytmnnehpoaedifaa
open Go.RowKit

def laneIn (k : Int) (l : List Int) (i : Nat) : Bool := decide (0 ≤ l[i]?.getD 0) && decide (l[i]?.getD 0 < k)
def pairOk (o l : List Int) (i j : Nat) : Bool := !(decide (l[j]?.getD 0 = l[i]?.getD 0) && decide (o[i]?.getD 0 < o[j]?.getD 0))
def laneOk (o : List Int) (k : Int) (l : List Int) (i : Nat) : Bool := laneIn k l i && allB (pairOk o l i) i
def lanesB (o : List Int) (k : Int) (l : List Int) : Bool := decide (l.length = o.length) && allB (laneOk o k l) l.length

set_option maxHeartbeats 1600000 in
theorem lanesSort_any (A B : Option Addr) (n c m d : Nat) (o l : List Int) (k : Int) (w : World) (hs : Sl w A n c o) (hl : Sl w B m d l) (hbig : n ≤ 1099511627776) (hbig' : m ≤ 1099511627776) :
    Calls Try.prog 30 #[.slice A n c, .int .i64 k, .slice B m d] w fun e w' => e = .returned (.bool (lanesB o k l)) ∧ Dr w w' := by
  have HS := Lib.hid hs; clear hs
  have HL := Lib.hid hl; clear hl
  by_cases hnm : m = n
  · subst hnm
    have gm : ((m : Int) != m) = false := by simp
    have HB0 : Hid (lanesB o k l = allB (laneOk o k l) m) := by
      unfold lanesB; rw [Hid, HS.out.len, HL.out.len]; simp
    go_enter Try.func30, Try.ntmps30
    go_wp2
    go_loopw [7, 8] (fun i _ w' => ∃ j : Nat, j ≤ m ∧ i = .int .i64 j ∧ Hid (∀ i, i < j → laneOk o k l i = true) ∧ Dr w w') (fun i _ _ => m - (intOf i).toNat)
    case atStart => exact ⟨0, by omega, by go_num, fun j hj => absurd hj (by omega), Dr.refl _⟩
    case round =>
      obtain ⟨i, hi, rfl, hok, hW⟩ := hrel
      by_cases hlt : i < m
      · obtain ⟨b2, off2, rfl, hc2⟩ := HL.out.cells (by omega)
        have HC2 := Lib.hid hc2; clear hc2
        obtain ⟨b1, off1, rfl, hc1⟩ := HS.out.cells (by omega)
        have HC1 := Lib.hid hc1; clear hc1
        have hx := (hW.cell _).trans (HC2.out i hlt)
        obtain ⟨x, hxe⟩ : ∃ x, x = l[i]?.getD 0 := ⟨_, rfl⟩
        rw [← hxe] at hx
        have HX := Lib.hid hxe; clear hxe
        by_cases h1 : x < 0
        · have g1 : decide (x < 0) = true := by simpa using h1
          have HB : Hid (false = lanesB o k l) := by rw [Hid, HB0.out]; exact allB_bad (k := i) hlt (by unfold laneOk laneIn; rw [← HX.out]; simp; omega)
          go_wp2
          go_ret
          exact ⟨bend HB.out, hW⟩
        · have g1 : decide (x < 0) = false := by simpa using h1
          by_cases h2 : k ≤ x
          · have g2 : decide (k ≤ x) = true := by simpa using h2
            have HB : Hid (false = lanesB o k l) := by rw [Hid, HB0.out]; exact allB_bad (k := i) hlt (by unfold laneOk laneIn; rw [← HX.out]; simp; omega)
            go_wp2
            go_ret
            exact ⟨bend HB.out, hW⟩
          · have g2 : decide (k ≤ x) = false := by simpa using h2
            have HLN : Hid (laneIn k l i = true) := by unfold laneIn; rw [Hid, ← HX.out]; simp; omega
            clear h1 h2
            obtain ⟨wo, rfl⟩ : ∃ wo : World, wo = wr := ⟨_, rfl⟩
            go_wp2
            go_loopw [8] (fun t w' => ∃ j : Nat, j ≤ i ∧ t = .int .i64 j ∧ Hid (∀ t, t < j → pairOk o l i t = true) ∧ Dr w w') (fun t _ => i - (intOf t).toNat)
            case atStart => exact ⟨0, by omega, by go_num, fun j hj => absurd hj (by omega), hW⟩
            case round =>
              obtain ⟨j, hj, rfl, hin, hV⟩ := hrel
              by_cases hlj : j < i
              · have hjm : j < m := by omega
                have hxj := (hV.cell _).trans (HC2.out j hjm)
                have hxi := (hV.cell _).trans (HC2.out i hlt)
                have hyj := (hV.cell _).trans (HC1.out j hjm)
                have hyi := (hV.cell _).trans (HC1.out i hlt)
                have HP : Hid (pairOk o l i j = !(decide (l[j]?.getD 0 = l[i]?.getD 0) && decide (o[i]?.getD 0 < o[j]?.getD 0))) := rfl
                generalize l[j]?.getD 0 = a at *
                generalize o[j]?.getD 0 = p at *
                generalize o[i]?.getD 0 = q at *
                rw [← HX.out] at hxi HP
                by_cases h1 : a = x
                · have g1 : (a == x) = true := by simpa using h1
                  have H1 := Lib.hid h1; clear h1
                  by_cases h2 : q < p
                  · have g2 : decide (q < p) = true := by simpa using h2
                    have HB : Hid (false = lanesB o k l) := by
                      rw [Hid, HB0.out]
                      refine allB_bad (k := i) hlt ?_
                      unfold laneOk
                      rw [← allB_bad (k := j) hlj (show pairOk o l i j = false by rw [HP.out, decide_eq_true H1.out, g2]; rfl)]
                      simp
                    clear h2
                    go_wp2
                    go_quiet (fail)
                    go_wp2
                    go_ret
                    exact ⟨bend HB.out, hV.more _⟩
                  · have g2 : decide (q < p) = false := by simpa using h2
                    have HB : Hid (pairOk o l i j = true) := by rw [Hid, HP.out, g2]; simp
                    clear h2
                    go_wp2
                    go_quiet (fail)
                    go_wp2
                    go_roundw
                    case rel => exact ⟨j + 1, by omega, by go_num, ok_step hin.out HB.out, hV.more _⟩
                    case measure => simp [intOf]; omega
                · have g1 : (a == x) = false := by simpa using h1
                  have HB : Hid (pairOk o l i j = true) := by rw [Hid, HP.out, decide_eq_false h1]; rfl
                  clear h1
                  go_wp2
                  go_quiet (fail)
                  go_wp2
                  go_roundw
                  case rel => exact ⟨j + 1, by omega, by go_num, ok_step hin.out HB.out, hV.more _⟩
                  case measure => simp [intOf]; omega
              · have HB : Hid (laneOk o k l i = true) := by
                  unfold laneOk
                  rw [Hid, HLN.out, ← allB_good (p := pairOk o l i) (n := i) (fun t ht => hin.out t (by omega))]; rfl
                go_wp2
                go_roundw
                case rel => exact ⟨i + 1, by omega, by go_num, ok_step hok.out HB.out, hV⟩
                case measure => simp [intOf]; omega
      · have HB : Hid (true = lanesB o k l) := by rw [Hid, HB0.out]; exact allB_good (fun i hi => hok.out i (by omega))
        go_wp2
        go_ret
        exact ⟨bend HB.out, hW⟩
  · have gm : ((m : Int) != n) = true := by simp; omega
    have HB : Hid (false = lanesB o k l) := by unfold lanesB; rw [Hid, HS.out.len, HL.out.len, decide_eq_false hnm]; rfl
    clear hnm
    go_enter Try.func30, Try.ntmps30
    go_wp2
    go_ret
    exact ⟨bend HB.out, Dr.refl _⟩
end Go.Proofs.Ytmnnehpoaedifaa
/- Slices of ints that a call owns: push, pop, and what another write leaves of them. -/
namespace Go.Proofs.Ytmnnehpoaedifaa
open Go.RowKit

/-- The call owns the slice v of the integers zs, in a block from B on. -/
def Ow (w : World) (B e : Nat) (v : Value) (zs : List Int) : Prop := w.ownsRow B e 1 v zs.length (ints zs)
/-- Two owned slices do not share a block. -/
def Apart (v u : Value) : Prop := v.ownBlock = none ∨ v.ownBlock ≠ u.ownBlock
theorem Ow.nil (w : World) (B e : Nat) : Ow w B e (.slice none 0 0) [] := World.ownsRow_nil _ _ _ _
theorem Ow.drewN {w : World} {B e : Nat} {v : Value} {zs : List Int} (h : Ow w B e v zs) (n : Nat) : Ow (w.drewN n) B e v zs := h
theorem Ow.alloc {w : World} {B e : Nat} {v : Value} {zs : List Int} (h : Ow w B e v zs) (o : Obj) : Ow (w.alloc o) B e v zs := World.ownsRow.alloc h o
theorem Ow.kept {w w' : World} {B e : Nat} {v u : Value} {zs : List Int} (h : Ow w B e v zs) (hg : w.grownBy w' u.ownBlock) (ha : Apart v u) : Ow w' B e v zs := World.ownsRow.kept h hg ha
theorem Ow.sl {w : World} {B e : Nat} {v : Value} {zs : List Int} (h : Ow w B e v zs) (hn : zs.length ≤ 1099511627776) : ∃ A c, v = .slice A zs.length c ∧ Sl w A zs.length c zs := Sl.of_own h hn
theorem Ow.lt {w : World} {B e : Nat} {v : Value} {zs : List Int} (h : Ow w B e v zs) {k : Nat} (hk : v.ownBlock = some k) : B ≤ k ∧ k < w.heap.size := World.ownsRow.lt h k hk
theorem Ow.form {w : World} {B e : Nat} {v : Value} {zs : List Int} (h : Ow w B e v zs) (h0 : 0 < zs.length) : ∃ g cap, v = .slice (some ⟨g, 0, none⟩) zs.length cap ∧ zs.length ≤ cap ∧ B ≤ g ∧ g < w.heap.size ∧
    ∀ k, k < zs.length → w.cell? ⟨g, k, none⟩ = some (.int .i64 (zs[k]?.getD 0)) := by
  rcases h.2 with ⟨_, e0⟩ | ⟨g, cap, cur, rfl, hb, hh, hc, _⟩
  · omega
  · refine ⟨g, cap, rfl, hc, hb, (h.lt rfl).2, fun k hk => ?_⟩
    have h' : w.ownsRow B e 1 (.slice (some ⟨g, 0, none⟩) zs.length cap) zs.length (ints zs) := h
    rw [h'.cellAt k (by omega), List.getElem?_map, List.getElem?_eq_getElem hk]
    rfl
theorem Ow.pop {w : World} {B e g cap n : Nat} {zs : List Int} {x : Int} (h : Ow w B e (.slice (some ⟨g, 0, none⟩) n cap) (zs ++ [x])) (hn : n = zs.length + 1) : Ow w B e (.slice (some ⟨g, 0, none⟩) zs.length cap) zs := by
  subst hn
  refine ownsRow_pop (last := [.int .i64 x]) (by simp) ?_
  have h' : w.ownsRow B e 1 (.slice (some ⟨g, 0, none⟩) (zs.length + 1) cap) (zs ++ [x]).length (ints (zs ++ [x])) := h
  simpa using h'
theorem grown_alloc {w w' : World} {o : Obj} {r : Option Nat} (h : (w.alloc o).grownBy w' r) : w.grownBy w' r :=
  ⟨h.os, h.tape, h.output, Nat.le_trans (by simp) h.size, fun k hk hne => (h.block k (by simp; omega) hne).trans (Below.heap_alloc w o k hk)⟩

theorem push_law {P : Program} (w : World) {ops : Array Oper} {rest : List Oper} {o : Oper} {a : Act} {Q : Exit → Act → World → Prop} (hgd : o.guard = none) (s x : Operand) (t : TypeId)
    (ho : o.op = .call { callee := .builtin .append, args := #[s, x], argTypes := #[t, t] })
    (B : Nat) (e : TypeId) (i : TypeInfo) (ht : P.underlying t = some (.slice e)) (hI : P.info? e = some i ∧ i.zero = some (.int .i64 0) ∧ i.size = 1 ∧ i.bytes = 8)
    (v : Value) (zs : List Int) (z : Int) (hs : a.eval s = v) (hx : a.eval x = .slice (some ⟨w.heap.size, 0, none⟩) 1 1) (hown : Ow w B e v zs) (hn : zs.length ≤ 1099511627776) (hB : B ≤ w.heap.size)
    (h : ∀ v' w', Ow w' B e v' (zs ++ [z]) → w.grownBy w' v.ownBlock → (v'.ownBlock = v.ownBlock ∨ ∃ g, v'.ownBlock = some g ∧ w.heap.size ≤ g) → wpList P ops Q rest (a.put o.dst v') w') :
    wpList P ops Q (o :: rest) a (w.alloc (.cells #[.int .i64 z] e)) := by
  obtain ⟨h1, h2, h3, h4⟩ := hI
  refine wpList_append_own_at _ hgd s x t ho B e i _ 1 8 ht h1 h2 h3 h4 rfl (by decide) v zs.length (ints zs) hs (hown.alloc _) ⟨w.heap.size, 0, none⟩ 1 1 [.int .i64 z] hx rfl ?_ ?_ (by unfold maxLen; omega) (by omega) (by simp; omega) ?_
  · intro j u hu
    match j, hu with
    | 0, hu =>
      simp at hu; subst hu
      simp [Addr.add]
  · intro u hu
    simp at hu; subst hu; rfl
  · intro v' w' ho' hg' _ hat
    refine h v' w' (by unfold Ow; simpa using ho') (grown_alloc hg') ?_
    rcases hat with e1 | e1
    · exact .inl e1
    · exact .inr ⟨_, e1, by simp⟩
end Go.Proofs.Ytmnnehpoaedifaa
/- Plain mathematics of layer 2: what a pass does. -/
namespace Go.Proofs.Ytmnnehpoaedifaa

/-- Pops all items smaller than x off the stack (its top first), to the end of out. -/
def popR (x : Int) : List Int → List Int → List Int × List Int
  | out, [] => (out, [])
  | out, t :: r => if t < x then popR x (out ++ [t]) r else (out, t :: r)
theorem popR_len (x : Int) (out r : List Int) : (popR x out r).1.length + (popR x out r).2.length = out.length + r.length := by
  induction r generalizing out with
  | nil => simp [popR]
  | cons t r ih =>
    unfold popR
    split
    · rw [ih]; simp; omega
    · rfl
/-- One more item arrives: out and the stack (its top first). -/
def passStep (s : List Int × List Int) (x : Int) : List Int × List Int := ((popR x s.1 s.2).1, x :: (popR x s.1 s.2).2)
def passTo (zs : List Int) (k : Nat) : List Int × List Int := (zs.take k).foldl passStep ([], [])
theorem passTo_zero (zs : List Int) : passTo zs 0 = ([], []) := rfl
theorem passTo_succ (zs : List Int) (k : Nat) (hk : k < zs.length) : passTo zs (k + 1) = passStep (passTo zs k) (zs[k]?.getD 0) := by
  unfold passTo
  rw [List.take_succ_eq_append_getElem hk, List.foldl_append, List.getElem?_eq_getElem hk]
  rfl
theorem passTo_len (zs : List Int) (k : Nat) (hk : k ≤ zs.length) : (passTo zs k).1.length + (passTo zs k).2.length = k := by
  induction k with
  | zero => rfl
  | succ k ih =>
    rw [passTo_succ zs k (by omega)]
    unfold passStep
    have := popR_len (zs[k]?.getD 0) (passTo zs k).1 (passTo zs k).2
    have := ih (by omega)
    simp; omega
def passOf (zs : List Int) : List Int := (passTo zs zs.length).1 ++ (passTo zs zs.length).2
theorem passOf_len (zs : List Int) : (passOf zs).length = zs.length := by
  unfold passOf
  rw [List.length_append]
  exact passTo_len zs zs.length (Nat.le_refl _)
end Go.Proofs.Ytmnnehpoaedifaa
/- Contract: Pass. -/
namespace Go.Proofs.Ytmnnehpoaedifaa
open Go.RowKit

theorem below_dn {B : Nat} {a w : World} (h : Below B a w) (n : Nat) : Below B a (w.drewN n) := ⟨h.os, h.tape, h.output, h.size, h.block⟩
theorem last_rev {t : Int} {r : List Int} : (t :: r).reverse[r.length]?.getD 0 = t := by simp
theorem Apart.symm {v u : Value} (h : Apart v u) : Apart u v := by
  unfold Apart at *
  rcases h with h | h
  · rcases hu : u.ownBlock with _ | k
    · exact .inl rfl
    · right; rw [h]; simp
  · right; exact fun e => h e.symm
/-- What stands apart from v stands apart from what an append makes of v. -/
theorem Apart.pushed {w : World} {B e : Nat} {v v' u : Value} {zs : List Int} (h : Apart v u) (hu : Ow w B e u zs) (hat : v'.ownBlock = v.ownBlock ∨ ∃ g, v'.ownBlock = some g ∧ w.heap.size ≤ g) : Apart v' u := by
  unfold Apart at *
  rcases hat with e1 | ⟨g, e1, hg⟩
  · rw [e1]; exact h
  · right
    rw [e1]
    intro e2
    have := (hu.lt e2.symm).2
    omega

set_option maxHeartbeats 1600000 in
theorem pass_any (A : Option Addr) (n c : Nat) (zs : List Int) (w : World) (hs : Sl w A n c zs) (hbig : n ≤ 1099511627776) :
    Calls Try.prog 46 #[.slice A n c] w fun e w' => ∃ v, e = .returned v ∧ Ow w' w.heap.size 3 v (passOf zs) ∧ Below w.heap.size w w' := by
  have HS := Lib.hid hs; clear hs
  obtain ⟨i0, hi, hz0, hz1, hz2⟩ := info_parts Try.infoInt
  have HI : Hid (Try.prog.info? 3 = some i0 ∧ i0.zero = some (.int .i64 0) ∧ i0.size = 1 ∧ i0.bytes = 8) := ⟨hi, hz0, hz1, hz2⟩
  clear hi hz0 hz1 hz2
  go_enter Try.func46, Try.ntmps46
  go_wp2
  go_loopw [3, 4, 5] (fun o s i w' => ∃ k : Nat, k ≤ n ∧ i = .int .i64 k ∧ Ow w' w.heap.size 3 o (passTo zs k).1 ∧ Ow w' w.heap.size 3 s (passTo zs k).2.reverse ∧ Apart o s ∧ Below w.heap.size w w') (fun _ _ i _ => n - (intOf i).toNat)
  case atStart => exact ⟨0, by omega, by go_num, Ow.nil _ _ _, Ow.nil _ _ _, .inl rfl, Below.refl _ _⟩
  case round =>
    obtain ⟨k, hk, rfl, ho, hst, hap, hW⟩ := hrel
    have hlen := passTo_len zs k (by rw [HS.out.len]; exact hk)
    by_cases hlt : k < n
    · have HN : Hid (passTo zs (k + 1) = passStep (passTo zs k) (zs[k]?.getD 0)) := passTo_succ zs k (by rw [HS.out.len]; exact hlt)
      obtain ⟨st, hst0⟩ : ∃ st, st = passTo zs k := ⟨_, rfl⟩
      rw [← hst0] at ho hst hlen
      have HST := Lib.hid hst0; clear hst0
      have HO := Lib.hid ho; clear ho
      have HT := Lib.hid hst; clear hst
      have HA := Lib.hid hap; clear hap
      obtain ⟨wo, rfl⟩ : ∃ wo : World, wo = wr := ⟨_, rfl⟩
      obtain ⟨b0, off0, rfl, hcx⟩ := HS.out.at_ hlt
      have hb0 := HS.out.old b0 off0 rfl (by omega)
      obtain ⟨x, hx⟩ : ∃ x, x = zs[k]?.getD 0 := ⟨_, rfl⟩
      rw [← hx] at hcx HN
      have HX := Lib.hid hx; clear hx
      go_wp2
      go_loopw [3, 4] (fun o s w' => ∃ out r : List Int, Hid (popR x out r = popR x st.1 st.2) ∧ out.length + r.length = k ∧ Hid (Ow w' w.heap.size 3 o out) ∧ Hid (Ow w' w.heap.size 3 s r.reverse) ∧ Hid (Apart o s) ∧ Below w.heap.size w w')
        (fun _ s _ => match s with | .slice _ m _ => m | _ => 0)
      case atStart => exact ⟨st.1, st.2, rfl, hlen, HO, HT, HA, hW⟩
      case round =>
        obtain ⟨out, r, hpop, hlr, HO', HT', HA', hV⟩ := hrel
        have hsz := hV.size
        have hcxr := (hV.cell (p := ⟨b0, off0 + k, none⟩) hb0).trans hcx
        cases r with
        | nil =>
          obtain ⟨A', c', rfl, _⟩ := HT'.out.sl (by simp)
          have hob : out.length < n := by simp at hlr; omega
          have HLR := Lib.hid hlr; clear hlr
          have hl0 : ([] : List Int).reverse.length = 0 := rfl
          rw [hl0] at HT' HA'
          rw [hl0]
          clear hl0
          go_wp2
          go_quiet (fail)
          go_wp2_with (at_builtin; go_must (refine push_law _ rfl (.tmp 43) (.tmp 48) 22 rfl w.heap.size 3 i0 Try.underlying22 HI.out _ [] x rfl rfl (HT'.out.drewN _) (by simp) hsz ?_); intro v1 w1 hv1 hg1 hat1; have HV1 := Lib.hid hv1; clear hv1; have HG1 := Lib.hid hg1; clear hg1; have HAT := Lib.hid hat1; clear hat1)
          go_roundw
          case rel =>
            have E : passTo zs (k + 1) = (out, [x]) := by
              rw [HN.out, ← HST.out]
              unfold passStep
              rw [← hpop.out]
              rfl
            refine ⟨k + 1, by omega, by go_num, ?_, ?_, ?_, (below_dn hV _).grown HG1.out hsz (fun j e => (HT'.out.lt e).1)⟩
            · rw [E]; exact (HO'.out.drewN _).kept HG1.out HA'.out
            · rw [E]; exact HV1.out
            · exact (Apart.pushed (Apart.symm HA'.out) (HO'.out.drewN _) HAT.out).symm
          case measure => simp [intOf]; omega
        | cons t r =>
          obtain ⟨g, cap, rfl, hcap, hgB, hgl, hcell⟩ := HT'.out.form (by simp)
          obtain ⟨m, hm⟩ : ∃ m, r.length = m := ⟨_, rfl⟩
          have hct := hcell m (by simp; omega)
          rw [← hm, last_rev, hm] at hct
          have hlm : (t :: r).reverse.length = m + 1 := by simp; omega
          rw [hlm] at HT' HA' hcap
          rw [hlm]
          clear hcell
          simp only [List.length_cons] at hlr
          have hmb : m < n := by omega
          have hob : out.length < n := by omega
          have HLR : Hid (out.length + (m + 1) = k) := by rw [Hid, ← hm]; exact hlr
          have HM := Lib.hid hm; clear hm
          clear hlr
          have HLM := Lib.hid hlm; clear hlm
          by_cases h1 : t < x
          · have g1 : decide (t < x) = true := by simpa using h1
            go_wp2
            have ht0 : (0 : Int) ≤ (m : Int) := by omega
            have ht1 : (m : Int) < (m : Int) + 1 := by omega
            have ht2 : (0 : Int) < (m : Int) + 1 := by omega
            have hw1 : IntKind.i64.wrap (m : Int) = m := IntWalk.i64_in _ (by omega)
            go_quiet (fail)
            clear ht0 ht1 ht2 hw1
            go_wp2_with (at_builtin; go_must (refine push_law _ rfl (.tmp 29) (.tmp 36) 22 rfl w.heap.size 3 i0 Try.underlying22 HI.out _ out t rfl rfl (HO'.out.drewN _) (by omega) hsz ?_); intro v1 w1 hv1 hg1 hat1; have HV1 := Lib.hid hv1; clear hv1; have HG1 := Lib.hid hg1; clear hg1; have HAT := Lib.hid hat1; clear hat1)
            go_roundw
            case rel =>
              refine ⟨out ++ [t], r, ?_, by have := HLR.out; have := HM.out; simp; omega, HV1.out, ?_, (Apart.pushed (w := wr.drewN nq) HA'.out (HT'.out.drewN nq) HAT.out : Apart v1 (Value.slice (some ⟨g, 0, none⟩) (m + 1) cap)), (below_dn hV _).grown HG1.out hsz (fun j e => (HO'.out.lt e).1)⟩
              · rw [← hpop.out, Hid, popR, if_pos h1]
              · have h := (HT'.out.drewN nq).kept HG1.out (Apart.symm HA'.out)
                rw [List.reverse_cons] at h
                have h' := h.pop (by rw [List.length_reverse, HM.out])
                rw [List.length_reverse, HM.out] at h'
                exact h'
            case measure => simp
          · have g1 : decide (t < x) = false := by simpa using h1
            go_wp2
            have ht0 : (0 : Int) ≤ (m : Int) := by omega
            have ht1 : (m : Int) < (m : Int) + 1 := by omega
            have ht2 : (0 : Int) < (m : Int) + 1 := by omega
            have hw1 : IntKind.i64.wrap (m : Int) = m := IntWalk.i64_in _ (by omega)
            go_quiet (fail)
            clear ht0 ht1 ht2 hw1
            go_wp2_with (at_builtin; go_must (refine push_law _ rfl (.tmp 43) (.tmp 48) 22 rfl w.heap.size 3 i0 Try.underlying22 HI.out _ (t :: r).reverse x rfl rfl (HT'.out.drewN _) (by rw [HLM.out]; omega) hsz ?_); intro v1 w1 hv1 hg1 hat1; have HV1 := Lib.hid hv1; clear hv1; have HG1 := Lib.hid hg1; clear hg1; have HAT := Lib.hid hat1; clear hat1)
            go_roundw
            case rel =>
              have E : passTo zs (k + 1) = (out, x :: t :: r) := by
                rw [HN.out, ← HST.out]
                unfold passStep
                rw [← hpop.out, popR, if_neg (by omega)]
              refine ⟨k + 1, by omega, by go_num, ?_, ?_, ?_, (below_dn hV _).grown HG1.out hsz (fun j e => (HT'.out.lt e).1)⟩
              · rw [E]; exact (HO'.out.drewN _).kept HG1.out HA'.out
              · rw [E, List.reverse_cons]; exact HV1.out
              · exact (Apart.pushed (Apart.symm HA'.out) (HO'.out.drewN _) HAT.out).symm
            case measure => simp [intOf]; omega
    · have hkn : k = n := by omega
      subst hkn
      obtain ⟨st, hst0⟩ : ∃ st, st = passTo zs k := ⟨_, rfl⟩
      rw [← hst0] at ho hst hlen
      have HST := Lib.hid hst0; clear hst0
      obtain ⟨m, hm⟩ : ∃ m, st.2.length = m := ⟨_, rfl⟩
      obtain ⟨A', c', rfl, hsl⟩ := hst.sl (by rw [List.length_reverse]; omega)
      have hlm : st.2.reverse.length = m := by rw [List.length_reverse, hm]
      rw [hlm] at hsl hst hap
      rw [hlm]
      have hmb : m ≤ k := by omega
      have HSL := Lib.hid hsl; clear hsl
      have HO := Lib.hid ho; clear ho
      have HT := Lib.hid hst; clear hst
      have HA := Lib.hid hap; clear hap
      have HM := Lib.hid hm; clear hm
      have HLM := Lib.hid hlm; clear hlm
      have HLEN := Lib.hid hlen; clear hlen
      obtain ⟨wo, rfl⟩ : ∃ wo : World, wo = wr := ⟨_, rfl⟩
      go_wp2
      go_loopw [3, 6] (fun o i w' => ∃ p : Nat, p ≤ m ∧ i = .int .i64 ((p : Int) - 1) ∧ Hid (Ow w' w.heap.size 3 o (st.1 ++ st.2.take (m - p))) ∧ Hid (Ow w' w.heap.size 3 (.slice A' m c') st.2.reverse) ∧ Hid (Apart o (.slice A' m c')) ∧ Below w.heap.size w w')
        (fun _ i _ => (intOf i + 1).toNat)
      case atStart => exact ⟨m, Nat.le_refl _, rfl, by rw [Hid, Nat.sub_self]; simpa using HO.out, HT, HA, hW⟩
      case round =>
        obtain ⟨p, hp, rfl, HO', HT', HA', hV⟩ := hrel
        have hsz := hV.size
        cases p with
        | zero =>
          have E : Hid (passOf zs = st.1 ++ st.2) := by rw [Hid, HST.out]; unfold passOf; rw [HS.out.len]
          go_wp2
          go_ret
          refine ⟨_, rfl, ?_, hV⟩
          rw [E.out]
          have h := HO'.out
          rw [Nat.sub_zero, ← HM.out, List.take_length] at h
          exact h
        | succ q =>
          obtain ⟨g, cap, he, hcap, hgB, hgl, hcell⟩ := HT'.out.form (by rw [HLM.out]; omega)
          rw [HLM.out] at he
          injection he with he1 he2 he3
          subst he1
          subst he3
          have hq := hcell q (by rw [HLM.out]; omega)
          obtain ⟨t, ht⟩ : ∃ t, t = st.2.reverse[q]?.getD 0 := ⟨_, rfl⟩
          rw [← ht] at hq
          have HQ := Lib.hid ht; clear ht
          clear hcell he2
          have hql : q < m := by omega
          go_wp2_with (at_builtin; go_must (refine push_law _ rfl (.tmp 57) (.tmp 62) 22 rfl w.heap.size 3 i0 Try.underlying22 HI.out _ _ t rfl rfl HO'.out (by have := HM.out; have := HLEN.out; rw [List.length_append, List.length_take]; omega) hsz ?_); intro v1 w1 hv1 hg1 hat1; have HV1 := Lib.hid hv1; clear hv1; have HG1 := Lib.hid hg1; clear hg1; have HAT := Lib.hid hat1; clear hat1)
          go_roundw
          case rel =>
            refine ⟨q, by omega, by go_num, ?_, HT'.out.kept HG1.out (Apart.symm HA'.out), Apart.pushed HA'.out HT'.out HAT.out, hV.grown HG1.out hsz (fun j e => (HO'.out.lt e).1)⟩
            have h := HV1.out
            have E : st.2.take (m - q) = st.2.take (m - (q + 1)) ++ [t] := by
              have hM := HM.out
              rw [show m - q = m - (q + 1) + 1 from by omega, List.take_succ_eq_append_getElem (by omega), HQ.out, List.getElem?_reverse (by omega), List.getElem?_eq_getElem (by omega)]
              congr 2
              simp only [Option.getD_some]
              congr 1
              omega
            rw [E, ← List.append_assoc]
            exact h
          case measure => simp [intOf]
end Go.Proofs.Ytmnnehpoaedifaa
