import Derived.Test.YtkemcmeagnggeaaT08
import Derived.Maps.RangeWalk
import Derived.Test.YtkemcmeagnggeaaT05
import Derived.Test.YtkemcmeagnggeaaT03
/- Layer 3: maps keyed by arrays of four small numbers, as lists of keys and counts; sums over them. -/
namespace Go.Proofs.Ytkemcmeagnggeaa
open Go.RowKit Go.Maps Go.ChangeShapes Go.WideMaps
open Go.WideElems (Fit rd rg pl rd_val elemAt)
set_option linter.unusedVariables false

theorem wideProg : (match Try.prog.underlying 100 with | some (.array _ _) | some (.struct _) => true | _ => false) = true := by kernel_rfl
theorem rowProg : (100 : TypeId) < Try.prog.types.size := of_decide_eq_true (by kernel_rfl)
set_option maxRecDepth 100000 in
theorem keyLawProg : KeyLaw Try.prog 100 := deep_law_laid Try.laidOut (m := 2) (by omega) rowProg (by kernel_rfl) wideProg
theorem keyProg : Keyed Try.prog 100 := Keyed.of_law keyLawProg
set_option maxRecDepth 100000 in
theorem keyTypeProg : Try.prog.keyType 100 = true := by kernel_rfl
theorem cellsProg : Try.prog.cellsOf 100 = 4 := by kernel_rfl
/-- Four numbers. -/
abbrev St4 : Type := (Nat × Nat) × (Nat × Nat)
def stV (s : St4) : Value := .agg #[.int .i64 (s.1.1 : Int), .int .i64 (s.1.2 : Int), .int .i64 (s.2.1 : Int), .int .i64 (s.2.2 : Int)]
def stOk (s : St4) : Prop := s.1.1 ≤ 1000 ∧ s.1.2 ≤ 1000 ∧ s.2.1 ≤ 1000 ∧ s.2.2 ≤ 1000
set_option maxRecDepth 100000 in
theorem keyOfProg {s : St4} (h : stOk s) : keyOf Try.prog 100 (stV s) = some (.string (keyBytes [.int .i64 (s.1.1 : Int), .int .i64 (s.1.2 : Int), .int .i64 (s.2.1 : Int), .int .i64 (s.2.2 : Int)])) := by
  have wa := wfNat (k := s.1.1) (by have := h.1; omega)
  have wb := wfNat (k := s.1.2) (by have := h.2.1; omega)
  have wc := wfNat (k := s.2.1) (by have := h.2.2.1; omega)
  have wd := wfNat (k := s.2.2) (by have := h.2.2.2; omega)
  unfold keyOf stV
  simp only [Try.underlying100]
  rw [if_pos (by simp [keyTypeProg, Value.formed, Try.underlying100, cellsProg])]
  obtain ⟨m, hm⟩ : ∃ m, Try.prog.types.size + 1 = m + 1 + 1 := ⟨Try.prog.types.size - 1, by have h : 0 < Try.prog.types.size := Nat.lt_of_le_of_lt (Nat.zero_le _) rowProg; omega⟩
  rw [hm]
  unfold Program.keyLits
  simp only [Try.underlying100]
  rw [if_pos (by rw [cellsProg]; rfl), show List.range 4 = [0, 1, 2, 3] from rfl, List.mapM_cons, List.mapM_cons, List.mapM_cons, List.mapM_cons, List.mapM_nil]
  simp [Program.keyLits, cellsInt, Try.underlying3, Value.cells, wa, wb, wc, wd]
def encProg : KeyEnc 100 St4 where
  kv := stV
  kl s := .string (keyBytes [.int .i64 (s.1.1 : Int), .int .i64 (s.1.2 : Int), .int .i64 (s.2.1 : Int), .int .i64 (s.2.2 : Int)])
  ok := stOk
  keyed := keyProg
  key s h := keyOfProg h
  inj x y _ _ h := by
    unfold stV at h
    injection h with h
    injection h with h
    injection h with h1 h
    injection h with h2 h
    injection h with h3 h
    injection h with h4 _
    injection h1 with _ h1
    injection h2 with _ h2
    injection h3 with _ h3
    injection h4 with _ h4
    exact Prod.ext (Prod.ext (by omega) (by omega)) (Prod.ext (by omega) (by omega))

section
variable {kt : TypeId} {S : Type} (E : KeyEnc kt S)
/-- The datum holds the counts of the list, and nothing else. -/
structure RdL (D : DataW Unit) (L : List (S × Nat)) : Prop where
  isMap : IsMap D
  nodup : (L.map (·.1)).Nodup
  ok : ∀ p ∈ L, E.ok p.1
  at_ : ∀ p ∈ L, Maps.has D (E.kl p.1) = true ∧ ∀ z, D.atKey (E.kl p.1) z = .lit (.int .i64 (p.2 : Int))
  none_ : ∀ x, E.ok x → x ∉ L.map (·.1) → Maps.has D (E.kl x) = false ∧ ∀ z, D.atKey (E.kl x) z = z
  only : ∀ l, Maps.has D l = true → ∃ p ∈ L, l = E.kl p.1
theorem RdL.empty : RdL E (.map []) [] := ⟨isMap_empty, by simp, by simp, by simp, fun _ _ _ => ⟨rfl, fun _ => rfl⟩, fun l h => by cases h⟩
def cntL [DecidableEq S] (L : List (S × Nat)) (x : S) : Nat := ((L.find? fun p => decide (p.1 = x)).map (·.2)).getD 0
/-- One count is raised. -/
def addL [DecidableEq S] (L : List (S × Nat)) (x : S) (c : Nat) : List (S × Nat) := if x ∈ L.map (·.1) then L.map (fun p => if p.1 = x then (p.1, p.2 + c) else p) else L ++ [(x, c)]
def sumL (g : S → Nat) (L : List (S × Nat)) : Nat := (L.map fun p => p.2 * g p.1).sum
theorem cntL_mem [DecidableEq S] {L : List (S × Nat)} (hn : (L.map (·.1)).Nodup) {p : S × Nat} (hp : p ∈ L) : cntL L p.1 = p.2 := by
  induction L with
  | nil => simp at hp
  | cons q L ih =>
    unfold cntL
    rw [List.find?_cons]
    rw [List.map_cons, List.nodup_cons] at hn
    rw [List.mem_cons] at hp
    rcases hp with rfl | hp
    · simp
    · have hne : q.1 ≠ p.1 := fun e => hn.1 (by rw [e]; exact List.mem_map_of_mem hp)
      rw [decide_eq_false hne]
      exact ih hn.2 hp
theorem cntL_none [DecidableEq S] {L : List (S × Nat)} {x : S} (h : x ∉ L.map (·.1)) : cntL L x = 0 := by
  unfold cntL
  rw [List.find?_eq_none.2 (fun p hp e => h (by rw [← of_decide_eq_true e]; exact List.mem_map_of_mem hp))]
  rfl
theorem addL_keys [DecidableEq S] (L : List (S × Nat)) (x : S) (c : Nat) : (addL L x c).map (·.1) = if x ∈ L.map (·.1) then L.map (·.1) else L.map (·.1) ++ [x] := by
  unfold addL
  by_cases h : x ∈ L.map (·.1)
  · rw [if_pos h, if_pos h, List.map_map]
    refine List.map_congr_left fun p _ => ?_
    simp only [Function.comp_apply]
    split <;> rfl
  · rw [if_neg h, if_neg h, List.map_append]; rfl
theorem addL_nodup [DecidableEq S] {L : List (S × Nat)} (h : (L.map (·.1)).Nodup) (x : S) (c : Nat) : ((addL L x c).map (·.1)).Nodup := by
  rw [addL_keys]
  split
  · exact h
  · rename_i hx
    rw [List.nodup_append]
    exact ⟨h, by simp, fun a ha b hb => by simp at hb; subst hb; intro e; subst e; exact hx ha⟩
theorem sumL_append (g : S → Nat) (A B : List (S × Nat)) : sumL g (A ++ B) = sumL g A + sumL g B := by unfold sumL; rw [List.map_append, List.sum_append]
theorem sumL_cons (g : S → Nat) (p : S × Nat) (B : List (S × Nat)) : sumL g (p :: B) = p.2 * g p.1 + sumL g B := by unfold sumL; rw [List.map_cons, List.sum_cons]
theorem sumL_add [DecidableEq S] (g : S → Nat) : ∀ {L : List (S × Nat)}, (L.map (·.1)).Nodup → ∀ (x : S) (c : Nat), sumL g (addL L x c) = sumL g L + c * g x
  | [], _, x, c => by simp [addL, sumL]
  | q :: L, hn, x, c => by
    rw [List.map_cons, List.nodup_cons] at hn
    have ih := sumL_add g hn.2 x c
    by_cases e : q.1 = x
    · have hx : x ∉ L.map (·.1) := e ▸ hn.1
      unfold addL
      rw [if_pos (by simp [e]), List.map_cons, if_pos e, sumL_cons, sumL_cons]
      have hL : (L.map fun p => if p.1 = x then (p.1, p.2 + c) else p) = L := by
        refine (List.map_congr_left fun p hp => ?_).trans (List.map_id L)
        rw [if_neg (fun e2 => hx (by rw [← e2]; exact List.mem_map_of_mem hp))]; rfl
      rw [hL]
      simp only []
      rw [e, Nat.add_mul]; omega
    · have hadd : addL (q :: L) x c = q :: addL L x c := by
        unfold addL
        by_cases h : x ∈ L.map (·.1)
        · rw [if_pos (by simp [h]), if_pos h, List.map_cons, if_neg e]
        · rw [if_neg (by rw [List.map_cons, List.mem_cons]; rintro (e2 | e2); exact e e2.symm; exact h e2), if_neg h]; rfl
      rw [hadd, sumL_cons, sumL_cons, ih]; omega
theorem RdL.put [DecidableEq S] {D : DataW Unit} {L : List (S × Nat)} (h : RdL E D L) {x : S} (hx : E.ok x) (c v : Nat) (hv : v = cntL L x + c) : RdL E (D.put (E.kl x) (.lit (.int .i64 (v : Int)))) (addL L x c) := by
  have hmem : ∀ p, p ∈ addL L x c → (p.1 = x ∧ p.2 = v) ∨ (p.1 ≠ x ∧ p ∈ L) := fun p hp => by
    unfold addL at hp
    split at hp
    · obtain ⟨q, hq, rfl⟩ := List.mem_map.1 hp
      by_cases e : q.1 = x
      · left
        rw [if_pos e]
        exact ⟨e, by rw [hv, ← e, cntL_mem h.nodup hq]⟩
      · right
        rw [if_neg e]; exact ⟨e, hq⟩
    · rename_i hx2
      rw [List.mem_append, List.mem_singleton] at hp
      rcases hp with hp | rfl
      · exact .inr ⟨fun e => hx2 (by rw [← e]; exact List.mem_map_of_mem hp), hp⟩
      · exact .inl ⟨rfl, by rw [hv, cntL_none hx2, Nat.zero_add]⟩
  have hok : ∀ p ∈ addL L x c, E.ok p.1 := fun p hp => by
    rcases hmem p hp with ⟨e, _⟩ | ⟨_, hp⟩
    · rw [e]; exact hx
    · exact h.ok p hp
  have hkeys : ∀ y, y ∈ (addL L x c).map (·.1) ↔ y = x ∨ y ∈ L.map (·.1) := fun y => by
    rw [addL_keys]
    split
    · rename_i hx2
      exact ⟨.inr, fun h => h.elim (fun e => e ▸ hx2) id⟩
    · simp [or_comm]
  refine ⟨h.isMap.put _ _, addL_nodup h.nodup x c, hok, fun p hp => ?_, fun y hy hny => ?_, fun l hl => ?_⟩
  · rcases hmem p hp with ⟨e1, e2⟩ | ⟨e1, hp⟩
    · rw [e1, e2]
      exact ⟨has_put_same h.isMap (E.lit hx) _, fun z => atKey_put_same h.isMap (E.lit hx) _ z⟩
    · have hne := E.ne (h.ok p hp) hx e1
      exact ⟨(has_put_other hne _).trans (h.at_ p hp).1, fun z => (atKey_put_other hne _ z).trans ((h.at_ p hp).2 z)⟩
  · have hyx : y ≠ x := fun e => hny ((hkeys y).2 (.inl e))
    have hne := E.ne hy hx hyx
    have h2 := h.none_ y hy (fun hh => hny ((hkeys y).2 (.inr hh)))
    exact ⟨(has_put_other hne _).trans h2.1, fun z => (atKey_put_other hne _ z).trans (h2.2 z)⟩
  · by_cases e : l = E.kl x
    · obtain ⟨p, hp, hp2⟩ := List.mem_map.1 ((hkeys x).2 (.inl rfl))
      exact ⟨p, hp, by rw [e, hp2]⟩
    · rw [has_put_other e] at hl
      obtain ⟨p, hp, e2⟩ := h.only l hl
      obtain ⟨p2, hp2, e3⟩ := List.mem_map.1 ((hkeys p.1).2 (.inr (List.mem_map_of_mem hp)))
      exact ⟨p2, hp2, by rw [e2, e3]⟩
/-- Block b is a map of counts that holds the list. -/
def KL (w : World) (b n : Nat) (L : List (S × Nat)) : Prop := ∃ D : DataW Unit, w.ownsMap Try.prog kt (plainElem (H := Unit) Try.prog 3) b n D ∧ RdL E D L
theorem KL.made (w : World) : KL E (w.alloc (.map #[] 0)) w.heap.size 0 [] := ⟨_, World.ownsMap_made _ _ _ _, RdL.empty E⟩
variable {E}
theorem KL.lt {w : World} {b n : Nat} {L : List (S × Nat)} (h : KL E w b n L) : b < w.heap.size := by obtain ⟨D, h, _⟩ := h; exact h.lt
theorem KL.heap {w w' : World} {b n : Nat} {L : List (S × Nat)} (h : KL E w b n L) (hb : w'.heap[b]? = w.heap[b]?) : KL E w' b n L := by
  obtain ⟨D, ⟨es, clock, h1, h2⟩, hr⟩ := h
  exact ⟨D, ⟨es, clock, hb.trans h1, h2⟩, hr⟩
theorem KL.grown {w w' : World} {b n : Nat} {L : List (S × Nat)} {r : Option Nat} (h : KL E w b n L) (k : World.grownBy w w' r) (hb : some b ≠ r) : KL E w' b n L := h.heap (k.block b h.lt hb)
theorem KL.below {w w' : World} {B : Nat} {b n : Nat} {L : List (S × Nat)} (h : KL E w b n L) (k : Below B w w') (hb : b < B) : KL E w' b n L := h.heap (k.block b hb)
/-- What is still to come of a list. -/
def leftL (left : Lit → Bool) (L : List (S × Nat)) (E : KeyEnc kt S) : List (S × Nat) := L.filter fun p => left (E.kl p.1)
theorem leftL_all {D : DataW Unit} {L : List (S × Nat)} (h : RdL E D L) : leftL (Maps.has D) L E = L := by
  unfold leftL
  rw [List.filter_eq_self]
  exact fun p hp => (h.at_ p hp).1
theorem leftL_none {L : List (S × Nat)} {left : Lit → Bool} (h : ∀ l, left l = false) : leftL left L E = [] := by
  unfold leftL
  rw [List.filter_eq_nil_iff]
  intro p _ hp
  rw [h] at hp; cases hp
end
end Go.Proofs.Ytkemcmeagnggeaa
/- Layer 3: the program's total, over a map of counts. -/
namespace Go.Proofs.Ytkemcmeagnggeaa
open Go.RowKit Go.Maps Go.ChangeShapes Go.WideMaps
set_option linter.unusedVariables false

section
variable {kt : TypeId} {S : Type} {E : KeyEnc kt S}
theorem leftL_step {L : List (S × Nat)} (hn : (L.map (·.1)).Nodup) (hok : ∀ p ∈ L, E.ok p.1) {left : Lit → Bool} (g : S → Nat) {p : S × Nat} (hp : p ∈ L) (hl : left (E.kl p.1) = true) :
    sumL g (leftL left L E) = p.2 * g p.1 + sumL g (leftL (fun z => left z && !z.sameKey (E.kl p.1)) L E) := by
  induction L with
  | nil => simp at hp
  | cons q L ih =>
    rw [List.map_cons, List.nodup_cons] at hn
    unfold leftL
    rw [List.filter_cons, List.filter_cons]
    rw [List.mem_cons] at hp
    have hself : (E.kl p.1).sameKey (E.kl p.1) = true := WideAt.sameKey_self (E.lit (by rcases hp with rfl | hp; exact hok _ (by simp); exact hok p (by simp [hp])))
    rcases hp with rfl | hp
    · rw [if_pos hl, if_neg (by simp [hself]), sumL_cons]
      congr 1
      congr 1
      refine List.filter_congr fun q hq => ?_
      have hne : q.1 ≠ p.1 := fun e => hn.1 (by rw [← e]; exact List.mem_map_of_mem hq)
      show left (E.kl q.1) = (left (E.kl q.1) && !(E.kl q.1).sameKey (E.kl p.1))
      rw [sameKey_ne (E.ne (hok q (by simp [hq])) (hok p (by simp)) hne)]; simp
    · have hne : q.1 ≠ p.1 := fun e => hn.1 (by rw [e]; exact List.mem_map_of_mem hp)
      have hq : (E.kl q.1).sameKey (E.kl p.1) = false := sameKey_ne (E.ne (hok q (by simp)) (hok p (by simp [hp])) hne)
      have ih2 := ih hn.2 (fun r hr => hok r (by simp [hr])) hp
      unfold leftL at ih2
      have he : ((fun z => left z && !z.sameKey (E.kl p.1)) (E.kl q.1)) = left (E.kl q.1) := by
        show (left (E.kl q.1) && !(E.kl q.1).sameKey (E.kl p.1)) = _
        rw [hq]; simp
      rw [he]
      split
      · rw [sumL_cons, sumL_cons, ih2]; omega
      · exact ih2
theorem leftL_le {L : List (S × Nat)} (left : Lit → Bool) (g : S → Nat) : sumL g (leftL left L E) ≤ sumL g L := by
  induction L with
  | nil => exact Nat.le_refl _
  | cons q L ih =>
    unfold leftL at ih ⊢
    rw [List.filter_cons]
    split
    · rw [sumL_cons, sumL_cons]; omega
    · rw [sumL_cons]; omega
end

set_option maxRecDepth 100000 in
set_option maxHeartbeats 800000 in
theorem total_any (b n : Nat) (L : List (St4 × Nat)) (w : World) (h : KL encProg w b n L) (hs : sumL (fun _ => 1) L ≤ 1152921504606846976) :
    Calls Try.prog 66 #[.map (some b)] w fun e w' => e = .returned (.int .i64 (sumL (fun _ => 1) L : Nat)) ∧ Below w.heap.size w w' := by
  obtain ⟨D, hD, hR⟩ := h
  have HR := Lib.hid hR
  have HN : Hid (sumL (fun _ => 1) (leftL (Maps.has D) L encProg) = sumL (fun _ => 1) L) := by rw [Hid, leftL_all hR]
  clear hR
  have hbl := hD.lt
  go_enter Try.func66, Try.ntmps66
  go_wp2_with (first | (at_range; refine wpList_range_own _ rfl _ 99 rfl 100 3 keyProg Try.underlying99 _ b n _ rfl hD ?_; intro w0 hrg0 hg0 hs0))
  try go_frame
  go_loopw [3] (fun sm wr => ∃ (left : Lit → Bool) (cnt acc : Nat), wr.ranges Try.prog 100 (plainElem Try.prog 3) b w.heap.size n D left cnt ∧ sm = .int .i64 (acc : Int) ∧ Hid (acc + sumL (fun _ => 1) (leftL left L encProg) = sumL (fun _ => 1) L) ∧ Below w.heap.size w wr) (fun _ wr => wr.rangeLeft b w.heap.size)
  case atStart => exact ⟨_, _, 0, hrg0, by go_num, by rw [Hid, Nat.zero_add]; exact HN.out, (Below.refl _ _).grown hg0 (Nat.le_refl _) (fun j hj => by cases hj)⟩
  case round =>
    obtain ⟨left, cnt, acc, hrg, rfl, HA, hB⟩ := hrel
    have hacc : acc ≤ 1152921504606846976 := by have := HA.out; omega
    go_wp2_with (first | (at_next; refine wpList_next_ranges _ rfl _ rfl 100 keyProg _ (fun v : Value => v) (fun c : Int => Value.int .i64 c) (fun key kl _ => ⟨key, rfl⟩) (fun v y hv => by obtain ⟨c, rfl, _⟩ := plainElem_int_inv Try.underlying3 hv; exact ⟨c, rfl⟩) b w.heap.size n _ _ _ rfl hrg ?_ ?_))
    · intro hc0 hl0
      have HF : Hid (acc = sumL (fun _ => 1) L) := by
        have := HA.out
        rw [leftL_none hl0] at this
        rw [Hid, ← this]; rfl
      go_wp2
      go_ret
      exact ⟨by rw [← HF.out]; rfl, hB⟩
    · intro x c kl y1 y2 w1 cnt1 hkey hlk hy hat hrg1 hlt hg1 hs1 hen
      obtain ⟨p, hp, rfl⟩ : ∃ p ∈ L, kl = encProg.kl p.1 := HR.out.only kl (has_true_of_atKey hat)
      have hst := leftL_step HR.out.nodup HR.out.ok (left := left) (fun _ => 1) hp hlk
      have hcp : c = (p.2 : Int) := by
        obtain ⟨a, hca, hy1, _⟩ := plainElem_int_inv (H := Unit) Try.underlying3 hy
        injection hca with _ hca
        injection hy1 with hy1 _
        have h1 := (HR.out.at_ p hp).2 .nil
        rw [hat, hy1] at h1
        injection h1 with h1
        injection h1 with _ h1
        omega
      subst hcp
      have hle : acc + p.2 ≤ 1152921504606846976 := by have := HA.out; omega
      have HN2 : Hid (acc + p.2 + sumL (fun _ => 1) (leftL (fun z => left z && !z.sameKey (encProg.kl p.1)) L encProg) = sumL (fun _ => 1) L) := by
        have := HA.out
        rw [Hid]; omega
      have HB1 := Lib.hid (hB.grown hg1 hB.size (fun j e => by cases e; exact Nat.le_refl _))
      have HRG := Lib.hid hrg1
      have HLT := Lib.hid hlt
      have HRG0 := Lib.hid hrg
      clear hst hat hkey hlk hy hrg1 hg1 hlt hs1 hB hrg
      go_wp2
      go_roundw
      case rel => exact ⟨_, cnt1, acc + p.2, HRG.out, by go_num, HN2, HB1.out⟩
      case measure => rw [HRG.out.left_eq, HRG0.out.left_eq]; exact HLT.out
end Go.Proofs.Ytkemcmeagnggeaa
/- Layer 3: the program's isFamily; slices.Contains of strings. -/
namespace Go.Proofs.Ytkemcmeagnggeaa
open Go.RowKit
set_option linter.unusedVariables false

theorem famB_long {ss : List ByteArray} (h : 4 < ss.length) : false = famB ss := by
  unfold famB
  rw [decide_eq_false (p := ss.length ≤ 4) (by omega), Bool.and_false]
set_option maxHeartbeats 800000 in
theorem isFamily_any (A : Option Addr) (n c : Nat) (ss : List ByteArray) (w : World) (hl : ss.length = n) (hn : n ≤ 1099511627776) (hr : Rds w A ss) (hz : ∀ i : Nat, (ss[i]?.getD ByteArray.empty).size ≤ 1099511627776) :
    Calls Try.prog 61 #[.slice A n c] w fun e w' => e = .returned (.bool (famB ss)) ∧ Dr w w' := by
  have HL := Lib.hid hl
  have HR := Lib.hid hr; clear hr
  have HZ := Lib.hid hz; clear hz
  by_cases h4 : n ≤ 4
  · clear hl
    go_enter Try.func61, Try.ntmps61
    go_wp2
    go_loopw [10] (fun i w' => ∃ k : Nat, k ≤ n ∧ i = .int .i64 k ∧ Hid (∀ j, j < k → famTo ss j = true) ∧ Dr w w') (fun i _ => n - (intOf i).toNat)
    case atStart => exact ⟨0, Nat.zero_le _, rfl, fun j hj => absurd hj (by omega), Dr.refl _⟩
    case round =>
      obtain ⟨k, hk, rfl, hok, hW⟩ := hrel
      by_cases hlt : k < n
      · obtain ⟨b, off, rfl, hc1⟩ := (HR.out.dr hW) k (by rw [HL.out]; exact hlt)
        have HF : Hid (famTo ss k = (wordB (bs (ss[k]?.getD ByteArray.empty)) && decide ((ss[k]?.getD ByteArray.empty).size ≤ 8))) := rfl
        have hzk := HZ.out k
        obtain ⟨x, hx⟩ : ∃ x, x = ss[k]?.getD ByteArray.empty := ⟨_, rfl⟩
        rw [← hx] at hc1 HF hzk
        clear hx
        by_cases h8 : x.size ≤ 8
        · have g8 : decide (8 < (x.size : Int)) = false := decide_eq_false (by omega)
          cases hq : wordB (bs x) with
          | false =>
            have HB : Hid (false = famB ss) := famB_bad (k := k) (by rw [HL.out]; exact hlt) (by rw [HF.out, hq]; rfl)
            have HC := Lib.hid (fun W => isWord_is x false W (by omega) hq)
            clear hq
            go_wp2_with (go_at_call 48; refine (HC.out _).mono ?_; rintro e w1 ⟨rfl, hd⟩)
            go_ret
            exact ⟨bend HB.out, hW.trans hd⟩
          | true =>
            have HN : Hid (∀ j, j < k + 1 → famTo ss j = true) := ok_step hok.out (by rw [HF.out, hq, decide_eq_true h8]; rfl)
            have HC := Lib.hid (fun W => isWord_is x true W (by omega) hq)
            clear hq
            go_wp2_with (go_at_call 48; refine (HC.out _).mono ?_; rintro e w1 ⟨rfl, hd⟩)
            go_roundw
            case rel => exact ⟨k + 1, by omega, by go_num, HN, hW.trans hd⟩
            case measure => (simp [intOf]; try omega)
        · have g8 : decide (8 < (x.size : Int)) = true := decide_eq_true (by omega)
          have HB : Hid (false = famB ss) := famB_bad (k := k) (by rw [HL.out]; exact hlt) (by rw [HF.out, decide_eq_false h8, Bool.and_false])
          go_wp2
          go_ret
          exact ⟨bend HB.out, hW⟩
      · have HB : Hid (true = famB ss) := by
          rw [Hid, ← famB_good (fun j hj => hok.out j (by rw [HL.out] at hj; omega)), HL.out, decide_eq_true h4]
        go_wp2
        go_ret
        exact ⟨bend HB.out, hW⟩
  · have HB : Hid (false = famB ss) := famB_long (by omega)
    clear hl
    go_enter Try.func61, Try.ntmps61
    go_wp2
    go_ret
    exact ⟨bend HB.out, Dr.refl _⟩

def hasS (ss : List ByteArray) (x : ByteArray) : Bool := ss.any fun y => decide (x = y)
theorem hasS_iff {ss : List ByteArray} {x : ByteArray} : hasS ss x = true ↔ x ∈ ss := by
  unfold hasS
  rw [List.any_eq_true]
  constructor
  · rintro ⟨y, hy, e⟩; rw [of_decide_eq_true e]; exact hy
  · intro h; exact ⟨x, h, decide_eq_true rfl⟩
theorem hasS_at {ss : List ByteArray} {x : ByteArray} {k : Nat} (hk : k < ss.length) (h : x = ss[k]?.getD ByteArray.empty) : true = hasS ss x := by
  rw [List.getElem?_eq_getElem hk, Option.getD_some] at h
  exact (hasS_iff.2 (h ▸ List.getElem_mem hk)).symm
theorem hasS_none {ss : List ByteArray} {x : ByteArray} (h : ∀ j, j < ss.length → decide (x = ss[j]?.getD ByteArray.empty) = false) : false = hasS ss x := by
  cases hh : hasS ss x with
  | false => rfl
  | true =>
    obtain ⟨j, hj, e⟩ := List.getElem_of_mem (hasS_iff.1 hh)
    have := h j hj
    rw [List.getElem?_eq_getElem hj, Option.getD_some, e] at this
    simp at this
set_option maxHeartbeats 800000 in
theorem indexS_any (A : Option Addr) (n c : Nat) (ss : List ByteArray) (x : ByteArray) (w : World) (hl : ss.length = n) (hn : n ≤ 1099511627776) (hr : Rds w A ss) :
    Calls Try.prog 70 #[.slice A n c, .string x] w fun e w' => (∃ i : Int, e = .returned (.int .i64 i) ∧ decide (0 ≤ i) = hasS ss x ∧ -1 ≤ i) ∧ w = w' := by
  have HL := Lib.hid hl
  have HR := Lib.hid hr; clear hr
  clear hl
  go_enter Try.func70, Try.ntmps70
  go_wp2
  go_loopw [5, 8] (fun _ i w' => ∃ k : Nat, k ≤ n ∧ i = .int .i64 k ∧ Hid (∀ j, j < k → decide (x = ss[j]?.getD ByteArray.empty) = false) ∧ w = w') (fun _ i _ => n - (intOf i).toNat)
  case atStart => exact ⟨0, Nat.zero_le _, rfl, fun j hj => absurd hj (by omega), rfl⟩
  case round =>
    obtain ⟨k, hk, rfl, hok, rfl⟩ := hrel
    by_cases hlt : k < n
    · obtain ⟨b, off, rfl, hc1⟩ := HR.out k (by rw [HL.out]; exact hlt)
      obtain ⟨y, hy⟩ : ∃ y, y = ss[k]?.getD ByteArray.empty := ⟨_, rfl⟩
      rw [← hy] at hc1
      by_cases e : x = y
      · have g1 : (x.toList == y.toList) = true := by rw [str_eq]; exact decide_eq_true e
        have HB : Hid (true = hasS ss x) := hasS_at (k := k) (by rw [HL.out]; exact hlt) (by rw [e, hy])
        clear e hy
        go_wp2
        go_ret
        exact ⟨⟨_, rfl, by rw [← HB.out]; exact decide_eq_true (by omega), by omega⟩, rfl⟩
      · have g1 : (x.toList == y.toList) = false := by rw [str_eq]; exact decide_eq_false e
        have HN : Hid (∀ j, j < k + 1 → decide (x = ss[j]?.getD ByteArray.empty) = false) := fun j hj => by
          by_cases e2 : j = k
          · subst e2; rw [← hy]; exact decide_eq_false e
          · exact hok.out j (by omega)
        clear e hy
        go_wp2
        go_roundw
        case rel => exact ⟨k + 1, by omega, by go_num, HN, by first | trivial | rfl⟩
        case measure => (simp [intOf]; try omega)
    · have HB : Hid (false = hasS ss x) := hasS_none (fun j hj => hok.out j (by rw [HL.out] at hj; omega))
      go_wp2
      go_ret
      exact ⟨⟨_, rfl, by rw [← HB.out]; exact decide_eq_false (by omega), by omega⟩, rfl⟩
theorem containsS_any (A : Option Addr) (n c : Nat) (ss : List ByteArray) (x : ByteArray) (w : World) (hl : ss.length = n) (hn : n ≤ 1099511627776) (hr : Rds w A ss) :
    Calls Try.prog 62 #[.slice A n c, .string x] w fun e w' => e = .returned (.bool (hasS ss x)) ∧ w = w' := by
  have HI := Lib.hid (fun c2 => indexS_any A n c2 ss x w hl hn hr)
  clear hl hr
  go_enter Try.func62, Try.ntmps62
  go_wp2_with (go_at_call 70; refine (HI.out _).mono ?_; rintro e w1 ⟨⟨i, rfl, hi, hi2⟩, rfl⟩)
  go_ret
  exact ⟨by first | rfl | exact bend hi, rfl⟩
end Go.Proofs.Ytkemcmeagnggeaa
