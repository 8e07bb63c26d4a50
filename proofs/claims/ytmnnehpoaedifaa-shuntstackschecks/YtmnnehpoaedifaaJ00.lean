import Derived.Test.YtmnnehpoaedifaaProg
import Derived.WalkKit
import Derived.Outline
import Derived.BigQuiet
import Derived.Deep.QuietTactic
import Derived.Lib.Hide
import Derived.RegionTactic
import Derived.OwnWalk
import Derived.Laws.AppendOwnNone
import Derived.Laws.OwnMore
/- Contracts of the list functions of the statements' side of layer 2: has, Order, at, ascending. -/
namespace Go.Proofs.Ytmnnehpoaedifaa
open Go.RowKit

/-- The slice value at A reads as the integers zs. -/
def Rd (w : World) (A : Option Addr) (zs : List Int) : Prop :=
  ∀ k, k < zs.length → ∃ b off, A = some ⟨b, off, none⟩ ∧ w.cell? ⟨b, off + k, none⟩ = some (.int .i64 (zs[k]?.getD 0))

theorem bend {b b' : Bool} (h : b = b') : Ending.returned (.bool b) = .returned (.bool b') := by rw [h]

def hasB (zs : List Int) (x : Int) : Bool := zs.contains x

theorem has_stop (zs : List Int) (x : Int) (k : Nat) (hk : k < zs.length) (hx : zs[k]?.getD 0 = x) : true = hasB zs x := by
  rw [List.getElem?_eq_getElem hk, Option.getD_some] at hx
  unfold hasB
  rw [eq_comm, List.contains_iff_mem, ← hx]
  exact List.getElem_mem _

theorem has_step (zs : List Int) (x : Int) (k : Nat) (hk : k < zs.length) (h : hasB (zs.take k) x = false) (hx : ¬ zs[k]?.getD 0 = x) : hasB (zs.take (k + 1)) x = false := by
  rw [List.take_succ_eq_append_getElem hk]
  rw [List.getElem?_eq_getElem hk, Option.getD_some] at hx
  unfold hasB at h ⊢
  rw [Bool.eq_false_iff, Ne, List.contains_iff_mem] at h ⊢
  rw [List.mem_append, List.mem_singleton]
  rintro (e | e)
  · exact h e
  · exact hx e.symm

theorem has_any (A : Option Addr) (n c : Nat) (zs : List Int) (x : Int) (w : World) (hl : zs.length = n) (hn : n ≤ 1099511627776) (hr : Rd w A zs) :
    Calls Try.prog 55 #[.slice A n c, .int .i64 x] w fun e w' => e = .returned (.bool (hasB zs x)) ∧ w = w' := by
  have HL := Lib.hid hl; clear hl
  have HR := Lib.hid hr; clear hr
  go_enter Try.func55, Try.ntmps55
  go_wp2
  go_loop [5] (fun i => ∃ k : Nat, k ≤ n ∧ i = .int .i64 k ∧ Hid (hasB (zs.take k) x = false)) (fun i => n - (intOf i).toNat)
  case atStart => exact ⟨0, Nat.zero_le _, rfl, by simp [Hid, hasB]⟩
  case round =>
    obtain ⟨k, hk, rfl, hno⟩ := hrel
    by_cases hlt : k < n
    · obtain ⟨b, off, rfl, hc⟩ := HR.out k (by rw [HL.out]; exact hlt)
      by_cases hx : zs[k]?.getD 0 = x
      · have hb : (zs[k]?.getD 0 == x) = true := by simpa using hx
        have HX := Lib.hid hx; clear hx
        go_wp2
        go_ret
        exact ⟨bend (has_stop zs x k (by rw [HL.out]; exact hlt) HX.out), rfl⟩
      · have hb : (zs[k]?.getD 0 == x) = false := by simpa using hx
        have HX := Lib.hid hx; clear hx
        go_wp2
        go_round
        case rel => exact ⟨k + 1, by omega, by go_num, has_step zs x k (by rw [HL.out]; exact hlt) hno HX.out⟩
        case measure => simp [intOf]; omega
    · go_wp2
      go_ret
      exact ⟨bend (by have h := hno.out; rw [List.take_of_length_le (by rw [HL.out]; omega)] at h; exact h.symm), rfl⟩
end Go.Proofs.Ytmnnehpoaedifaa
namespace Go.Proofs.Ytmnnehpoaedifaa
open Go.RowKit

/-- w' is w after some draws. -/
def Dr (w w' : World) : Prop := ∃ n, w' = w.drewN n
theorem Dr.refl (w : World) : Dr w w := ⟨0, rfl⟩
theorem Dr.more {w w' : World} (h : Dr w w') (n : Nat) : Dr w (w'.drewN n) := by
  obtain ⟨m, rfl⟩ := h
  exact ⟨m + n, by rw [World.drewN_drewN]⟩
theorem Dr.trans {w w' w'' : World} (h : Dr w w') (k : Dr w' w'') : Dr w w'' := by
  obtain ⟨m, rfl⟩ := k
  exact h.more m
theorem Dr.cell {w w' : World} (h : Dr w w') (p : Addr) : w'.cell? p = w.cell? p := by
  obtain ⟨m, rfl⟩ := h
  rfl
theorem Rd.dr {w w' : World} {A : Option Addr} {zs : List Int} (h : Rd w A zs) (k : Dr w w') : Rd w' A zs := fun j hj => by
  obtain ⟨b, off, e, hc⟩ := h j hj
  exact ⟨b, off, e, (k.cell _).trans hc⟩
theorem Rd.take {w : World} {A : Option Addr} {zs : List Int} (h : Rd w A zs) (k : Nat) : Rd w A (zs.take k) := fun j hj => by
  rw [List.length_take] at hj
  obtain ⟨b, off, e, hc⟩ := h j (by omega)
  refine ⟨b, off, e, ?_⟩
  rw [List.getElem?_take_of_lt (by omega)]
  exact hc
/-- A call that leaves the world alone, offered inside a region that draws. -/
theorem quiet_same {P : Program} {f : FuncId} {args : Array Value} {w : World} {n : Nat} {v : Value}
    (h : Calls P f args (w.drewN n) fun e w' => e = .returned v ∧ w.drewN n = w') : Calls P f args (w.drewN n) fun e w'' => e = .returned v ∧ ∃ m, w'' = w.drewN m :=
  h.mono fun _ _ ⟨he, hm⟩ => ⟨he, n, hm.symm⟩
theorem quiet_dr {P : Program} {f : FuncId} {args : Array Value} {w : World} {n : Nat} {v : Value}
    (h : Calls P f args (w.drewN n) fun e w' => e = .returned v ∧ Dr (w.drewN n) w') : Calls P f args (w.drewN n) fun e w'' => e = .returned v ∧ ∃ m, w'' = w.drewN m :=
  h.mono fun _ _ ⟨he, m, hm⟩ => ⟨he, n + m, by rw [hm, World.drewN_drewN]⟩

def okAt (zs : List Int) (k : Nat) : Bool := decide (1 ≤ zs[k]?.getD 0) && decide (zs[k]?.getD 0 ≤ zs.length) && !hasB (zs.take k) (zs[k]?.getD 0)
def ordB (zs : List Int) (most : Int) : Bool := (List.range zs.length).all (okAt zs) && decide ((zs.length : Int) ≤ most)
theorem ordB_bad {zs : List Int} {m : Int} {k : Nat} (hk : k < zs.length) (h : okAt zs k = false) : false = ordB zs m := by
  unfold ordB
  have : (List.range zs.length).all (okAt zs) = false := by
    rw [Bool.eq_false_iff, Ne, List.all_eq_true]
    intro hh
    have := hh k (List.mem_range.2 hk)
    rw [h] at this
    cases this
  rw [this]; rfl
theorem ordB_good {zs : List Int} {m : Int} {n : Nat} (hl : zs.length = n) (h : ∀ j, j < n → okAt zs j = true) : decide ((n : Int) ≤ m) = ordB zs m := by
  unfold ordB
  subst hl
  have : (List.range zs.length).all (okAt zs) = true := by
    rw [List.all_eq_true]
    intro j hj
    exact h j (List.mem_range.1 hj)
  rw [this]; rfl
theorem ok_step {p : Nat → Bool} {k : Nat} (h : ∀ j, j < k → p j = true) (hk : p k = true) : ∀ j, j < k + 1 → p j = true := fun j hj => by
  by_cases e : j = k
  · subst e; exact hk
  · exact h j (by omega)

set_option maxHeartbeats 800000 in
theorem order_any (A : Option Addr) (n c : Nat) (zs : List Int) (m : Int) (w : World) (hl : zs.length = n) (hn : n ≤ 1099511627776) (hcap : n ≤ c) (hr : Rd w A zs) :
    Calls Try.prog 20 #[.slice A n c, .int .i64 m] w fun e w' => e = .returned (.bool (ordB zs m)) ∧ Dr w w' := by
  have HL := Lib.hid hl; clear hl
  have HR := Lib.hid hr; clear hr
  go_enter Try.func20, Try.ntmps20
  go_wp2
  go_loopw [5] (fun i w' => ∃ k : Nat, k ≤ n ∧ i = .int .i64 k ∧ Hid (∀ j, j < k → okAt zs j = true) ∧ Dr w w') (fun i _ => n - (intOf i).toNat)
  case atStart => exact ⟨0, Nat.zero_le _, rfl, fun j hj => absurd hj (by omega), Dr.refl _⟩
  case round =>

    obtain ⟨k, hk, rfl, hok, hW⟩ := hrel
    by_cases hlt : k < n
    · obtain ⟨b, off, rfl, hc⟩ := (HR.out.dr hW) k (by rw [HL.out]; exact hlt)
      obtain ⟨z, hz⟩ : ∃ z, z = zs[k]?.getD 0 := ⟨_, rfl⟩
      rw [← hz] at hc
      have HZ := Lib.hid hz; clear hz
      by_cases h1 : z < 1
      · have g1 : decide (z < 1) = true := by simpa using h1
        have HB : Hid (false = ordB zs m) := ordB_bad (k := k) (by rw [HL.out]; exact hlt) (by unfold okAt; rw [← HZ.out]; simp; omega)
        go_wp2
        go_quiet (fail)
        go_wp2
        go_ret
        exact ⟨bend HB.out, hW.more _⟩
      · have g1 : decide (z < 1) = false := by simpa using h1
        by_cases h2 : n < z
        · have g2 : decide ((n : Int) < z) = true := by simpa using h2
          have HB : Hid (false = ordB zs m) := ordB_bad (k := k) (by rw [HL.out]; exact hlt) (by unfold okAt; rw [← HZ.out, HL.out]; simp; omega)
          go_wp2
          go_quiet (fail)
          go_wp2
          go_ret
          exact ⟨bend HB.out, hW.more _⟩
        · have g2 : decide ((n : Int) < z) = false := by simpa using h2
          have hlen : (zs.take k).length = k := by rw [List.length_take, HL.out]; omega
          have HC : Hid (∀ q, Calls Try.prog 55 #[.slice (some ⟨b, off, none⟩) k c, .int .i64 z] (wr.drewN q) fun e w' => e = .returned (.bool (hasB (zs.take k) z)) ∧ wr.drewN q = w') :=
            fun q => has_any _ _ _ _ _ _ hlen (by omega) (((HR.out.dr hW).take k).dr ⟨q, rfl⟩)
          clear hlen
          obtain ⟨hb, hhb⟩ : ∃ hb, hasB (zs.take k) z = hb := ⟨_, rfl⟩
          rw [hhb] at HC
          have HHB := Lib.hid hhb; clear hhb
          cases hb with
          | true =>
            have HB : Hid (false = ordB zs m) := ordB_bad (k := k) (by rw [HL.out]; exact hlt) (by unfold okAt; rw [← HZ.out, HHB.out]; simp)
            go_wp2
            go_quiet ((go_at_call 55; exact quiet_same (HC.out _)))
            go_wp2
            go_ret
            exact ⟨bend HB.out, hW.more _⟩
          | false =>
            have HB : Hid (okAt zs k = true) := by unfold okAt; rw [Hid, ← HZ.out, HHB.out, HL.out]; simp; omega
            go_wp2
            go_quiet ((go_at_call 55; exact quiet_same (HC.out _)))
            go_wp2
            go_roundw
            case rel => exact ⟨k + 1, by omega, by go_num, ok_step hok.out HB.out, hW.more _⟩
            case measure => simp [intOf]; omega
    · have HG : Hid (decide ((n : Int) ≤ m) = ordB zs m) := ordB_good HL.out (fun j hj => hok.out j (by omega))
      go_wp2
      go_ret
      exact ⟨bend HG.out, hW⟩
end Go.Proofs.Ytmnnehpoaedifaa
/- Contracts of the list functions of the statements' side of layer 2: ascending, at, ints. -/
namespace Go.Proofs.Ytmnnehpoaedifaa
open Go.RowKit

/-- p holds of every number below n. -/
def allB (p : Nat → Bool) (n : Nat) : Bool := (List.range n).all p
theorem allB_bad {p : Nat → Bool} {n k : Nat} (hk : k < n) (h : p k = false) : false = allB p n := by
  unfold allB
  rw [eq_comm, Bool.eq_false_iff, Ne, List.all_eq_true]
  intro hh
  have := hh k (List.mem_range.2 hk)
  rw [h] at this
  cases this
theorem allB_good {p : Nat → Bool} {n : Nat} (h : ∀ j, j < n → p j = true) : true = allB p n := by
  unfold allB
  rw [eq_comm, List.all_eq_true]
  intro j hj
  exact h j (List.mem_range.1 hj)
theorem allB_iff {p : Nat → Bool} {n : Nat} : allB p n = true ↔ ∀ j, j < n → p j = true := by
  unfold allB
  rw [List.all_eq_true]
  exact ⟨fun h j hj => h j (List.mem_range.2 hj), fun h j hj => h j (List.mem_range.1 hj)⟩

def ascB (zs : List Int) : Bool := allB (fun i => decide (zs[i]?.getD 0 < zs[i + 1]?.getD 0)) (zs.length - 1)

set_option maxHeartbeats 800000 in
theorem ascending_any (A : Option Addr) (n c : Nat) (zs : List Int) (w : World) (hl : zs.length = n) (hn : n ≤ 1099511627776) (hr : Rd w A zs) :
    Calls Try.prog 58 #[.slice A n c] w fun e w' => e = .returned (.bool (ascB zs)) ∧ Dr w w' := by
  have HL := Lib.hid hl; clear hl
  have HR := Lib.hid hr; clear hr
  go_enter Try.func58, Try.ntmps58
  go_wp2
  go_loopw [3] (fun i w' => ∃ k : Nat, k ≤ n ∧ i = .int .i64 ((k : Int) + 1) ∧ Hid (∀ j, j < k → decide (zs[j]?.getD 0 < zs[j + 1]?.getD 0) = true) ∧ Dr w w') (fun i _ => n + 1 - (intOf i).toNat)
  case atStart => exact ⟨0, Nat.zero_le _, by go_num, fun j hj => absurd hj (by omega), Dr.refl _⟩
  case round =>
    obtain ⟨k, hk, rfl, hok, hW⟩ := hrel
    by_cases hlt : k + 1 < n
    · have hlt0 : k < n := by omega
      obtain ⟨b, off, rfl, hc1⟩ := (HR.out.dr hW) (k + 1) (by rw [HL.out]; exact hlt)
      obtain ⟨b', off', he, hc0⟩ := (HR.out.dr hW) k (by rw [HL.out]; omega)
      obtain ⟨rfl, rfl⟩ : b = b' ∧ off = off' := by injection he with he; injection he with h1 h2; exact ⟨h1, h2⟩
      obtain ⟨x, hx⟩ : ∃ x, x = zs[k]?.getD 0 := ⟨_, rfl⟩
      obtain ⟨y, hy⟩ : ∃ y, y = zs[k + 1]?.getD 0 := ⟨_, rfl⟩
      rw [← hx] at hc0
      rw [← hy] at hc1
      have HX := Lib.hid hx; clear hx
      have HY := Lib.hid hy; clear hy
      clear he
      by_cases h1 : y ≤ x
      · have g1 : decide (y ≤ x) = true := by simpa using h1
        have HB : Hid (false = ascB zs) := allB_bad (k := k) (by rw [HL.out]; omega) (by rw [← HX.out, ← HY.out]; simp; omega)
        go_wp2
        have ht0 : (0 : Int) ≤ (k : Int) + 1 := by omega
        have ht1 : (k : Int) + 1 < (n : Int) := by omega
        have ht2 : ((k : Int) + 1).toNat = k + 1 := by omega
        have hw1 : IntKind.i64.wrap (k : Int) = k := IntWalk.i64_in _ (by omega)
        go_quiet (fail)
        clear hw1 ht0 ht1 ht2
        go_wp2
        go_ret
        exact ⟨bend HB.out, hW.more _⟩
      · have g1 : decide (y ≤ x) = false := by simpa using h1
        have HB : Hid (decide (zs[k]?.getD 0 < zs[k + 1]?.getD 0) = true) := by rw [Hid, ← HX.out, ← HY.out]; simp; omega
        go_wp2
        have ht0 : (0 : Int) ≤ (k : Int) + 1 := by omega
        have ht1 : (k : Int) + 1 < (n : Int) := by omega
        have ht2 : ((k : Int) + 1).toNat = k + 1 := by omega
        have hw1 : IntKind.i64.wrap (k : Int) = k := IntWalk.i64_in _ (by omega)
        go_quiet (fail)
        clear hw1 ht0 ht1 ht2
        go_wp2
        go_roundw
        case rel => exact ⟨k + 1, by omega, by go_num, ok_step (p := fun j => decide (zs[j]?.getD 0 < zs[j + 1]?.getD 0)) hok.out HB.out, hW.more _⟩
        case measure => simp [intOf]; omega
    · have HB : Hid (true = ascB zs) := allB_good (fun j hj => hok.out j (by rw [HL.out] at hj; omega))
      go_wp2
      go_ret
      exact ⟨bend HB.out, hW⟩

def posAt (zs : List Int) (n : Int) (k : Nat) : Bool := decide (0 ≤ zs[k]?.getD 0) && decide (zs[k]?.getD 0 < n) && !hasB (zs.take k) (zs[k]?.getD 0)
def atB (zs : List Int) (n : Int) : Bool := allB (posAt zs n) zs.length

set_option maxHeartbeats 800000 in
theorem at_any (A : Option Addr) (n c : Nat) (zs : List Int) (m : Int) (w : World) (hl : zs.length = n) (hn : n ≤ 1099511627776) (hcap : n ≤ c) (hr : Rd w A zs) :
    Calls Try.prog 59 #[.slice A n c, .int .i64 m] w fun e w' => e = .returned (.bool (atB zs m)) ∧ Dr w w' := by
  have HL := Lib.hid hl; clear hl
  have HR := Lib.hid hr; clear hr
  go_enter Try.func59, Try.ntmps59
  go_wp2
  go_loopw [5] (fun i w' => ∃ k : Nat, k ≤ n ∧ i = .int .i64 k ∧ Hid (∀ j, j < k → posAt zs m j = true) ∧ Dr w w') (fun i _ => n - (intOf i).toNat)
  case atStart => exact ⟨0, Nat.zero_le _, rfl, fun j hj => absurd hj (by omega), Dr.refl _⟩
  case round =>
    obtain ⟨k, hk, rfl, hok, hW⟩ := hrel
    by_cases hlt : k < n
    · obtain ⟨b, off, rfl, hc⟩ := (HR.out.dr hW) k (by rw [HL.out]; exact hlt)
      obtain ⟨z, hz⟩ : ∃ z, z = zs[k]?.getD 0 := ⟨_, rfl⟩
      rw [← hz] at hc
      have HZ := Lib.hid hz; clear hz
      by_cases h1 : z < 0
      · have g1 : decide (z < 0) = true := by simpa using h1
        have HB : Hid (false = atB zs m) := allB_bad (k := k) (by rw [HL.out]; exact hlt) (by unfold posAt; rw [← HZ.out]; simp; omega)
        go_wp2
        go_quiet (fail)
        go_wp2
        go_ret
        exact ⟨bend HB.out, hW.more _⟩
      · have g1 : decide (z < 0) = false := by simpa using h1
        by_cases h2 : m ≤ z
        · have g2 : decide (m ≤ z) = true := by simpa using h2
          have HB : Hid (false = atB zs m) := allB_bad (k := k) (by rw [HL.out]; exact hlt) (by unfold posAt; rw [← HZ.out]; simp; omega)
          go_wp2
          go_quiet (fail)
          go_wp2
          go_ret
          exact ⟨bend HB.out, hW.more _⟩
        · have g2 : decide (m ≤ z) = false := by simpa using h2
          have hlen : (zs.take k).length = k := by rw [List.length_take, HL.out]; omega
          have HC : Hid (∀ q, Calls Try.prog 55 #[.slice (some ⟨b, off, none⟩) k c, .int .i64 z] (wr.drewN q) fun e w' => e = .returned (.bool (hasB (zs.take k) z)) ∧ wr.drewN q = w') :=
            fun q => has_any _ _ _ _ _ _ hlen (by omega) (((HR.out.dr hW).take k).dr ⟨q, rfl⟩)
          clear hlen
          obtain ⟨hb, hhb⟩ : ∃ hb, hasB (zs.take k) z = hb := ⟨_, rfl⟩
          rw [hhb] at HC
          have HHB := Lib.hid hhb; clear hhb
          cases hb with
          | true =>
            have HB : Hid (false = atB zs m) := allB_bad (k := k) (by rw [HL.out]; exact hlt) (by unfold posAt; rw [← HZ.out, HHB.out]; simp)
            go_wp2
            go_quiet ((go_at_call 55; exact quiet_same (HC.out _)))
            go_wp2
            go_ret
            exact ⟨bend HB.out, hW.more _⟩
          | false =>
            have HB : Hid (posAt zs m k = true) := by unfold posAt; rw [Hid, ← HZ.out, HHB.out]; simp; omega
            go_wp2
            go_quiet ((go_at_call 55; exact quiet_same (HC.out _)))
            go_wp2
            go_roundw
            case rel => exact ⟨k + 1, by omega, by go_num, ok_step hok.out HB.out, hW.more _⟩
            case measure => simp [intOf]; omega
    · have HG : Hid (true = atB zs m) := allB_good (fun j hj => hok.out j (by rw [HL.out] at hj; omega))
      go_wp2
      go_ret
      exact ⟨bend HG.out, hW⟩

def eqlB (xs ys : List Int) : Bool := xs == ys
theorem eqlB_len {xs ys : List Int} (h : xs.length ≠ ys.length) : false = eqlB xs ys := by
  unfold eqlB
  rw [eq_comm, beq_eq_false_iff_ne]
  rintro rfl
  exact h rfl
theorem eqlB_at {xs ys : List Int} (k : Nat) (h : xs[k]?.getD 0 ≠ ys[k]?.getD 0) : false = eqlB xs ys := by
  unfold eqlB
  rw [eq_comm, beq_eq_false_iff_ne]
  rintro rfl
  exact h rfl
theorem eqlB_all {xs ys : List Int} {n : Nat} (hx : xs.length = n) (hy : ys.length = n) (h : ∀ j, j < n → decide (xs[j]?.getD 0 = ys[j]?.getD 0) = true) : true = eqlB xs ys := by
  unfold eqlB
  rw [eq_comm, beq_iff_eq]
  refine List.ext_getElem (by omega) fun i h1 h2 => ?_
  have := h i (by omega)
  rw [decide_eq_true_eq, List.getElem?_eq_getElem h1, List.getElem?_eq_getElem h2] at this
  exact this

set_option maxHeartbeats 800000 in
theorem ints_any (A B : Option Addr) (n c m d : Nat) (xs ys : List Int) (w : World) (hl : xs.length = n) (hm : ys.length = m) (hn : n ≤ 1099511627776) (hn' : m ≤ 1099511627776) (hr : Rd w A xs) (hs : Rd w B ys) :
    Calls Try.prog 42 #[.slice A n c, .slice B m d] w fun e w' => e = .returned (.bool (eqlB xs ys)) ∧ Dr w w' := by
  have HL := Lib.hid hl; clear hl
  have HM := Lib.hid hm; clear hm
  have HR := Lib.hid hr; clear hr
  have HS := Lib.hid hs; clear hs
  by_cases hnm : n = m
  · subst hnm
    have hb : ((n : Int) != n) = false := by simp
    go_enter Try.func42, Try.ntmps42
    go_wp2
    go_loopw [5] (fun i w' => ∃ k : Nat, k ≤ n ∧ i = .int .i64 k ∧ Hid (∀ j, j < k → decide (xs[j]?.getD 0 = ys[j]?.getD 0) = true) ∧ Dr w w') (fun i _ => n - (intOf i).toNat)
    case atStart => exact ⟨0, Nat.zero_le _, rfl, fun j hj => absurd hj (by omega), Dr.refl _⟩
    case round =>
      obtain ⟨k, hk, rfl, hok, hW⟩ := hrel
      by_cases hlt : k < n
      · obtain ⟨b, off, rfl, hc1⟩ := (HR.out.dr hW) k (by rw [HL.out]; exact hlt)
        obtain ⟨b2, off2, rfl, hc2⟩ := (HS.out.dr hW) k (by rw [HM.out]; exact hlt)
        obtain ⟨x, hx⟩ : ∃ x, x = xs[k]?.getD 0 := ⟨_, rfl⟩
        obtain ⟨y, hy⟩ : ∃ y, y = ys[k]?.getD 0 := ⟨_, rfl⟩
        rw [← hx] at hc1
        rw [← hy] at hc2
        have HX := Lib.hid hx; clear hx
        have HY := Lib.hid hy; clear hy
        by_cases h1 : x = y
        · have g1 : (x != y) = false := by simpa using h1
          have HB : Hid (decide (xs[k]?.getD 0 = ys[k]?.getD 0) = true) := by rw [Hid, ← HX.out, ← HY.out]; simpa using h1
          clear h1
          go_wp2
          go_quiet (fail)
          go_wp2
          go_roundw
          case rel => exact ⟨k + 1, by omega, by go_num, ok_step (p := fun j => decide (xs[j]?.getD 0 = ys[j]?.getD 0)) hok.out HB.out, hW.more _⟩
          case measure => simp [intOf]; omega
        · have g1 : (x != y) = true := by simpa using h1
          have HB : Hid (false = eqlB xs ys) := eqlB_at k (by rw [← HX.out, ← HY.out]; exact h1)
          clear h1
          go_wp2
          go_quiet (fail)
          go_wp2
          go_ret
          exact ⟨bend HB.out, hW.more _⟩
      · have HG : Hid (true = eqlB xs ys) := eqlB_all HL.out HM.out (fun j hj => hok.out j (by omega))
        go_wp2
        go_ret
        exact ⟨bend HG.out, hW⟩
  · have hb : ((n : Int) != m) = true := by simp; omega
    have HG : Hid (false = eqlB xs ys) := eqlB_len (by rw [HL.out, HM.out]; exact hnm)
    go_enter Try.func42, Try.ntmps42
    go_wp2
    go_ret
    exact ⟨bend HG.out, Dr.refl _⟩
end Go.Proofs.Ytmnnehpoaedifaa
/- Slices of ints as one predicate; an append of whatever slice of ints; the contract of list. -/
namespace Go.Proofs.Ytmnnehpoaedifaa
open Go.RowKit

theorem Try.infoInt : (Try.prog.info? 3).map (fun i => (i.zero, i.size, i.bytes)) = some (some (.int .i64 0), 1, 8) := by kernel_rfl

/-- The slice A, n, c holds the integers zs. -/
structure Sl (w : World) (A : Option Addr) (n c : Nat) (zs : List Int) : Prop where
  len : zs.length = n
  cap : n ≤ c
  big : n ≤ 9223372036854775807
  nil : A = none → n = 0 ∧ c = 0
  rd : Rd w A zs
  old : ∀ b off, A = some ⟨b, off, none⟩ → 0 < n → b < w.heap.size

abbrev ints (zs : List Int) : List Value := zs.map (Value.int .i64)
theorem ints_at {zs : List Int} {j : Nat} {u : Value} (h : (ints zs)[j]? = some u) : j < zs.length ∧ u = .int .i64 (zs[j]?.getD 0) := by
  rw [List.getElem?_map] at h
  rcases hz : zs[j]? with _ | z
  · rw [hz] at h; cases h
  · rw [hz] at h
    have hj : j < zs.length := by
      rcases Nat.lt_or_ge j zs.length with h' | h'
      · exact h'
      · rw [List.getElem?_eq_none h'] at hz; cases hz
    exact ⟨hj, by injection h with h; exact h.symm⟩

theorem app_any {P : Program} (w : World) {ops : Array Oper} {rest : List Oper} {o : Oper} {a : Act} {Q : Exit → Act → World → Prop} (hgd : o.guard = none) (s x : Operand) (t : TypeId)
    (ho : o.op = .call { callee := .builtin .append, args := #[s, x], argTypes := #[t, t] })
    (base : Nat) (e : TypeId) (i : TypeInfo) (ht : P.underlying t = some (.slice e)) (hi : P.info? e = some i) (hz : i.zero = some (.int .i64 0)) (hsize : i.size = 1) (hby : i.bytes = 8)
    (v : Value) (n : Nat) (xs : List Value) (hs : a.eval s = v) (hown : w.ownsRow base e 1 v n xs)
    (A : Option Addr) (m c : Nat) (ys : List Int) (hx : a.eval x = .slice A m c) (hr : Sl w A m c ys) (hsum : (n + m) * 8 ≤ 140737488355328) (hbase : base ≤ w.heap.size)
    (h : ∀ v' w', w'.ownsRow base e 1 v' (n + m) (xs ++ ints ys) → w.grownBy w' v.ownBlock → wpList P ops Q rest (a.put o.dst v') w') : wpList P ops Q (o :: rest) a w := by
  rcases A with _ | ad
  · obtain ⟨rfl, rfl⟩ := hr.nil rfl
    have hys : ys = [] := List.eq_nil_of_length_eq_zero hr.len
    subst hys
    exact wpList_append_own_none hgd s x t ho base e i 1 ht hi v n xs hs hown hx (h v w (by simpa using hown) (World.grownBy.refl w _))
  · have hcells : ∀ j u, (ints ys)[j]? = some u → w.cell? (ad.add j) = some u := by
      intro j u hu
      obtain ⟨hj, rfl⟩ := ints_at hu
      obtain ⟨b, off, he, hc⟩ := hr.rd j hj
      injection he with he
      subst he
      have : (⟨b, off, none⟩ : Addr).add j = ⟨b, off + j, none⟩ := by unfold Addr.add; split <;> simp_all
      rw [this]; exact hc
    exact wpList_append_own w hgd s x t ho base e i _ 1 8 ht hi hz hsize hby rfl (by decide) v n xs hs hown ad m c (ints ys) hx (by simp [hr.len]) hcells
      (by intro u hu; obtain ⟨z, _, rfl⟩ := List.mem_map.1 hu; rfl) (by unfold maxLen; omega) hsum hbase (fun v' w' h1 h2 _ => h v' w' h1 h2)

theorem Sl.of_own {w : World} {base e n : Nat} {v : Value} {zs : List Int} (h : w.ownsRow base e 1 v n (ints zs)) (hn : n ≤ 1099511627776) : ∃ A c, v = .slice A n c ∧ Sl w A n c zs := by
  have hl : zs.length = n := by have := h.1; simpa using this
  rcases h.2 with ⟨rfl, rfl⟩ | ⟨g, cap, cur, rfl, _, hh, hc, _⟩
  · exact ⟨none, 0, rfl, hl, Nat.le_refl _, by omega, fun _ => ⟨rfl, rfl⟩, fun k hk => absurd hk (by omega), fun _ _ h _ => (by cases h)⟩
  · refine ⟨_, cap, rfl, hl, hc, by omega, fun h => (by cases h), fun k hk => ⟨g, 0, rfl, ?_⟩, fun b off he _ => ?_⟩
    · rw [Nat.zero_add, h.cellAt k (by omega), List.getElem?_map, List.getElem?_eq_getElem hk]
      rfl
    · injection he with he
      injection he with he
      subst he
      exact (h.lt g rfl).2
theorem Sl.below {w w' : World} {B n c : Nat} {A : Option Addr} {zs : List Int} (h : Sl w A n c zs) (hb : Below B w w') (hB : w.heap.size ≤ B) : Sl w' A n c zs :=
  ⟨h.len, h.cap, h.big, h.nil, fun k hk => by
    obtain ⟨b, off, e, hc⟩ := h.rd k hk
    exact ⟨b, off, e, (hb.cell (p := ⟨b, off + k, none⟩) (Nat.lt_of_lt_of_le (h.old b off e (by rw [← h.len]; omega)) hB)).trans hc⟩,
   fun b off e hn => Nat.lt_of_lt_of_le (h.old b off e hn) hb.size⟩
theorem Sl.take {w : World} {n c : Nat} {A : Option Addr} {zs : List Int} (h : Sl w A n c zs) {k : Nat} (hk : k ≤ n) : Sl w A k c (zs.take k) :=
  ⟨by rw [List.length_take, h.len]; omega, by have := h.cap; omega, by have := h.big; omega, fun e => by have := h.nil e; omega, h.rd.take k, fun b off e hn => h.old b off e (by omega)⟩

set_option maxHeartbeats 800000 in
theorem list_any (A : Option Addr) (n c : Nat) (zs : List Int) (w : World) (hs : Sl w A n c zs) :
    Calls Try.prog 18 #[.slice A n c] w fun e w' => ∃ v, e = .returned v ∧ w'.ownsRow w.heap.size 3 1 v (min n 61) (ints (zs.take 61)) ∧ Below w.heap.size w w' := by
  have hcap := hs.cap
  have hbig := hs.big
  have HS := Lib.hid hs; clear hs
  obtain ⟨i0, hi, hz0, hz1, hz2⟩ := info_parts Try.infoInt
  have HI : Hid (Try.prog.info? 3 = some i0 ∧ i0.zero = some (.int .i64 0) ∧ i0.size = 1 ∧ i0.bytes = 8) := ⟨hi, hz0, hz1, hz2⟩
  clear hi hz0 hz1 hz2
  obtain ⟨k, hk⟩ : ∃ k, k = min n 61 := ⟨_, rfl⟩
  have HK := Lib.hid hk; clear hk
  by_cases h61 : n ≤ 61
  · go_enter Try.func18, Try.ntmps18
    go_wp2_with (at_builtin; refine app_any _ rfl (.tmp 4) (.tmp 9) 22 rfl w.heap.size 3 i0 Try.underlying22 HI.out.1 HI.out.2.1 HI.out.2.2.1 HI.out.2.2.2 (.slice none 0 0) 0 [] rfl (World.ownsRow_nil _ _ _ _) A n c zs rfl HS.out (by omega) (Nat.le_refl _) ?_; intro v1 w1 hown hg; have HO := Lib.hid hown; clear hown; have HG := Lib.hid hg; clear hg)
    go_ret
    refine ⟨v1, rfl, ?_, (Below.refl _ _).grown HG.out (Nat.le_refl _) (by simp [Value.ownBlock])⟩
    have h := HO.out
    rw [List.take_of_length_le (by rw [HS.out.len]; exact h61), Nat.min_eq_left h61]
    simpa using h
  · go_enter Try.func18, Try.ntmps18
    go_wp2_with (at_builtin; refine app_any _ rfl (.tmp 4) (.tmp 9) 22 rfl w.heap.size 3 i0 Try.underlying22 HI.out.1 HI.out.2.1 HI.out.2.2.1 HI.out.2.2.2 (.slice none 0 0) 0 [] rfl (World.ownsRow_nil _ _ _ _) A 61 c (zs.take 61) rfl (HS.out.take (by omega)) (by omega) (Nat.le_refl _) ?_; intro v1 w1 hown hg; have HO := Lib.hid hown; clear hown; have HG := Lib.hid hg; clear hg)
    go_ret
    refine ⟨v1, rfl, ?_, (Below.refl _ _).grown HG.out (Nat.le_refl _) (by simp [Value.ownBlock])⟩
    have h := HO.out
    rw [Nat.min_eq_right (by omega)]
    simpa using h
end Go.Proofs.Ytmnnehpoaedifaa
/- Contracts: Conflict, StackBlock, QueuesBlock, LanesSort. -/
namespace Go.Proofs.Ytmnnehpoaedifaa
open Go.RowKit

theorem Sl.at_ {w : World} {n c : Nat} {A : Option Addr} {zs : List Int} (h : Sl w A n c zs) {k : Nat} (hk : k < n) : ∃ b off, A = some ⟨b, off, none⟩ ∧ w.cell? ⟨b, off + k, none⟩ = some (.int .i64 (zs[k]?.getD 0)) :=
  h.rd k (by rw [h.len]; exact hk)
theorem Sl.dr {w w' : World} {n c : Nat} {A : Option Addr} {zs : List Int} (h : Sl w A n c zs) (k : Dr w w') : Sl w' A n c zs :=
  ⟨h.len, h.cap, h.big, h.nil, h.rd.dr k, fun b off e hn => by
    obtain ⟨m, rfl⟩ := k
    exact h.old b off e hn⟩
/-- All cells at one address, once there is one. -/
theorem Sl.cells {w : World} {n c : Nat} {A : Option Addr} {zs : List Int} (h : Sl w A n c zs) (hn : 0 < n) : ∃ b off, A = some ⟨b, off, none⟩ ∧ ∀ k, k < n → w.cell? ⟨b, off + k, none⟩ = some (.int .i64 (zs[k]?.getD 0)) := by
  obtain ⟨b, off, e, _⟩ := h.at_ hn
  refine ⟨b, off, e, fun k hk => ?_⟩
  obtain ⟨b', off', e', hc⟩ := h.at_ hk
  rw [e] at e'
  injection e' with e'
  injection e' with h1 h2
  rw [h1, h2]; exact hc

/-- Position c shows that a and b are in conflict. -/
def confAt (zs : List Int) (a b c : Nat) : Bool := decide (zs[c]?.getD 0 < zs[a]?.getD 0) && decide (zs[a]?.getD 0 < zs[b]?.getD 0)
def confB (zs : List Int) (a b : Nat) : Bool := !allB (fun j => !confAt zs a b (b + 1 + j)) (zs.length - (b + 1))
theorem confB_yes {zs : List Int} {a b k : Nat} (hk : b + 1 + k < zs.length) (h : confAt zs a b (b + 1 + k) = true) : true = confB zs a b := by
  unfold confB
  rw [← allB_bad (p := fun j => !confAt zs a b (b + 1 + j)) (n := zs.length - (b + 1)) (k := k) (by omega) (by rw [h]; rfl)]
  rfl
theorem confB_no {zs : List Int} {a b k : Nat} (hk : zs.length ≤ b + 1 + k) (h : ∀ j, j < k → (fun j => !confAt zs a b (b + 1 + j)) j = true) : false = confB zs a b := by
  unfold confB
  rw [← allB_good (p := fun j => !confAt zs a b (b + 1 + j)) (n := zs.length - (b + 1)) (fun j hj => h j (by omega))]
  rfl

set_option maxHeartbeats 800000 in
theorem conflict_any (A : Option Addr) (n c : Nat) (zs : List Int) (a b : Nat) (w : World) (hs : Sl w A n c zs) (hbig : n ≤ 1099511627776) (ha : a < n) (hb : b < n) :
    Calls Try.prog 69 #[.slice A n c, .int .i64 a, .int .i64 b] w fun e w' => e = .returned (.bool (confB zs a b)) ∧ Dr w w' := by
  obtain ⟨bb, off, rfl, hc⟩ := hs.cells (by omega)
  have HS := Lib.hid hs; clear hs
  have HC := Lib.hid hc; clear hc
  go_enter Try.func69, Try.ntmps69
  go_wp2
  go_loopw [7] (fun i w' => ∃ k : Nat, b + 1 + k ≤ n ∧ i = .int .i64 ((b + 1 + k : Nat) : Int) ∧ Hid (∀ j, j < k → (fun j => !confAt zs a b (b + 1 + j)) j = true) ∧ Dr w w') (fun i _ => n - (intOf i).toNat)
  case atStart => exact ⟨0, by omega, by go_num, fun j hj => absurd hj (by omega), Dr.refl _⟩
  case round =>
    obtain ⟨k, hk, rfl, hok, hW⟩ := hrel
    obtain ⟨t, ht⟩ : ∃ t, t = b + 1 + k := ⟨_, rfl⟩
    rw [← ht]
    rw [← ht] at hk
    have HT := Lib.hid ht; clear ht
    by_cases hlt : t < n
    · have hct := (hW.cell _).trans (HC.out t hlt)
      have hca := (hW.cell _).trans (HC.out a ha)
      have hcb := (hW.cell _).trans (HC.out b hb)
      obtain ⟨x, hx⟩ : ∃ x, x = zs[t]?.getD 0 := ⟨_, rfl⟩
      obtain ⟨y, hy⟩ : ∃ y, y = zs[a]?.getD 0 := ⟨_, rfl⟩
      obtain ⟨z, hz⟩ : ∃ z, z = zs[b]?.getD 0 := ⟨_, rfl⟩
      rw [← hx] at hct
      rw [← hy] at hca
      rw [← hz] at hcb
      have HX := Lib.hid hx; clear hx
      have HY := Lib.hid hy; clear hy
      have HZ := Lib.hid hz; clear hz
      by_cases h1 : x < y
      · have g1 : decide (x < y) = true := by simpa using h1
        by_cases h2 : y < z
        · have g2 : decide (y < z) = true := by simpa using h2
          have HB : Hid (true = confB zs a b) := confB_yes (k := k) (by rw [HS.out.len, ← HT.out]; exact hlt) (by unfold confAt; rw [← HT.out, ← HX.out, ← HY.out, ← HZ.out]; simp; omega)
          clear h1 h2
          go_wp2
          go_quiet (fail)
          go_wp2
          go_ret
          exact ⟨bend HB.out, hW.more _⟩
        · have g2 : decide (y < z) = false := by simpa using h2
          have HB : Hid ((fun j => !confAt zs a b (b + 1 + j)) k = true) := by unfold confAt; simp only [Hid]; rw [← HT.out, ← HX.out, ← HY.out, ← HZ.out]; simp; omega
          clear h1 h2
          go_wp2
          go_quiet (fail)
          go_wp2
          go_roundw
          case rel => exact ⟨k + 1, by have := HT.out; omega, by have := HT.out; go_num, ok_step hok.out HB.out, hW.more _⟩
          case measure => simp [intOf]; omega
      · have g1 : decide (x < y) = false := by simpa using h1
        have HB : Hid ((fun j => !confAt zs a b (b + 1 + j)) k = true) := by unfold confAt; simp only [Hid]; rw [← HT.out, ← HX.out, ← HY.out, ← HZ.out]; simp; omega
        clear h1
        go_wp2
        go_quiet (fail)
        go_wp2
        go_roundw
        case rel => exact ⟨k + 1, by have := HT.out; omega, by have := HT.out; go_num, ok_step hok.out HB.out, hW.more _⟩
        case measure => simp [intOf]; omega
    · have HB : Hid (false = confB zs a b) := confB_no (k := k) (by rw [HS.out.len, ← HT.out]; omega) hok.out
      go_wp2
      go_ret
      exact ⟨bend HB.out, hW⟩
end Go.Proofs.Ytmnnehpoaedifaa
/- Contracts: StackBlock. -/
namespace Go.Proofs.Ytmnnehpoaedifaa
open Go.RowKit

/-- What stands at a position that is an Int. -/
def elt (zs : List Int) (p : Int) : Int := zs[p.toNat]?.getD 0
theorem atB_lo {zs : List Int} {n : Int} (h : atB zs n = true) {k : Nat} (hk : k < zs.length) : 0 ≤ zs[k]?.getD 0 ∧ zs[k]?.getD 0 < n := by
  have := (allB_iff.1 h) k hk
  unfold posAt at this
  simp at this
  exact ⟨this.1.1, this.1.2⟩

def sblockB (o l : List Int) : Bool :=
  (l.length == 3) && atB l o.length && ascB l && (decide (elt o (l[2]?.getD 0) < elt o (l[0]?.getD 0)) && decide (elt o (l[0]?.getD 0) < elt o (l[1]?.getD 0)))

set_option maxHeartbeats 1600000 in
theorem stackBlock_any (A B : Option Addr) (n c m d : Nat) (o l : List Int) (w : World) (hs : Sl w A n c o) (hl : Sl w B m d l) (hbig : n ≤ 1099511627776) (hbig' : m ≤ 1099511627776) :
    Calls Try.prog 25 #[.slice A n c, .slice B m d] w fun e w' => e = .returned (.bool (sblockB o l)) ∧ Dr w w' := by
  have HS := Lib.hid hs; clear hs
  have HL := Lib.hid hl; clear hl
  by_cases h3 : m = 3
  · subst h3
    have hm3 : l.length = 3 := HL.out.len
    have HM := Lib.hid hm3; clear hm3
    obtain ⟨p, hp⟩ : ∃ p, p = atB l (n : Int) := ⟨_, rfl⟩
    have HC1 : Hid (∀ w1, Dr w w1 → Calls Try.prog 59 #[.slice B 3 d, .int .i64 n] w1 fun e w' => e = .returned (.bool p) ∧ Dr w1 w') := fun w1 h1 => by
      rw [hp]; exact at_any B 3 d l n w1 HM.out (by omega) HL.out.cap (HL.out.rd.dr h1)
    obtain ⟨q, hq⟩ : ∃ q, q = ascB l := ⟨_, rfl⟩
    have HC2 : Hid (∀ w1, Dr w w1 → Calls Try.prog 58 #[.slice B 3 d] w1 fun e w' => e = .returned (.bool q) ∧ Dr w1 w') := fun w1 h1 => by
      rw [hq]; exact ascending_any B 3 d l w1 HM.out (by omega) (HL.out.rd.dr h1)
    have HP := Lib.hid hp; clear hp
    have HQ := Lib.hid hq; clear hq
    cases p with
    | false =>
      have HB : Hid (false = sblockB o l) := by unfold sblockB; rw [Hid, HS.out.len, ← HP.out]; simp
      go_enter Try.func25, Try.ntmps25
      go_wp2_with (go_at_call 59; refine (HC1.out _ (Dr.refl _)).mono ?_; rintro e w1 ⟨rfl, hd1⟩)
      go_ret
      exact ⟨bend HB.out, hd1⟩
    | true =>
      cases q with
      | false =>
        have HB : Hid (false = sblockB o l) := by unfold sblockB; rw [Hid, ← HQ.out]; simp
        go_enter Try.func25, Try.ntmps25
        go_wp2_with (first | (go_at_call 59; refine (HC1.out _ (Dr.refl _)).mono ?_; rintro e w1 ⟨rfl, hd1⟩) | (go_at_call 58; refine (HC2.out _ hd1).mono ?_; rintro e w2 ⟨rfl, hd2⟩))
        go_ret
        exact ⟨bend HB.out, hd1.trans hd2⟩
      | true =>
        obtain ⟨b2, off2, rfl, hc2⟩ := HL.out.cells (by omega)
        have hx0 : w.cell? ⟨b2, off2, none⟩ = some (.int .i64 (l[0]?.getD 0)) := hc2 0 (by omega)
        have hx1 := hc2 1 (by omega)
        have hx2 := hc2 2 (by omega)
        clear hc2
        have hb0 := atB_lo (HP.out.symm) (k := 0) (by rw [HM.out]; omega)
        have hb1 := atB_lo (HP.out.symm) (k := 1) (by rw [HM.out]; omega)
        have hb2 := atB_lo (HP.out.symm) (k := 2) (by rw [HM.out]; omega)
        obtain ⟨b1, off1, rfl, hc1⟩ := HS.out.cells (by omega)
        have HB0 : Hid (sblockB o l = (decide (elt o (l[2]?.getD 0) < elt o (l[0]?.getD 0)) && decide (elt o (l[0]?.getD 0) < elt o (l[1]?.getD 0)))) := by
          unfold sblockB; rw [Hid, HS.out.len, ← HP.out, ← HQ.out, HM.out]; simp
        have hy0 : w.cell? ⟨b1, off1 + (l[0]?.getD 0).toNat, none⟩ = some (.int .i64 (elt o (l[0]?.getD 0))) := hc1 _ (by omega)
        have hy1 : w.cell? ⟨b1, off1 + (l[1]?.getD 0).toNat, none⟩ = some (.int .i64 (elt o (l[1]?.getD 0))) := hc1 _ (by omega)
        have hy2 : w.cell? ⟨b1, off1 + (l[2]?.getD 0).toNat, none⟩ = some (.int .i64 (elt o (l[2]?.getD 0))) := hc1 _ (by omega)
        clear hc1
        generalize elt o (l[0]?.getD 0) = y0 at *
        generalize elt o (l[1]?.getD 0) = y1 at *
        generalize elt o (l[2]?.getD 0) = y2 at *
        generalize l[0]?.getD 0 = x0 at *
        generalize l[1]?.getD 0 = x1 at *
        generalize l[2]?.getD 0 = x2 at *
        obtain ⟨h00, h01⟩ := hb0
        obtain ⟨h10, h11⟩ := hb1
        obtain ⟨h20, h21⟩ := hb2
        by_cases h1 : y2 < y0
        · have g1 : decide (y2 < y0) = true := by simpa using h1
          have HB : Hid (decide (y0 < y1) = sblockB o l) := by rw [Hid, HB0.out, g1]; rfl
          clear h1
          go_enter Try.func25, Try.ntmps25
          go_wp2_with (first | (go_at_call 59; refine (HC1.out _ (Dr.refl _)).mono ?_; rintro e w1 ⟨rfl, hd1⟩; have k0 := (hd1.cell _).trans hx0; have k1 := (hd1.cell _).trans hx1; have k2 := (hd1.cell _).trans hx2; have k3 := (hd1.cell _).trans hy0; have k4 := (hd1.cell _).trans hy1; have k5 := (hd1.cell _).trans hy2) | (go_at_call 58; refine (HC2.out _ hd1).mono ?_; rintro e w2 ⟨rfl, hd2⟩; have j0 := (hd2.cell _).trans k0; have j1 := (hd2.cell _).trans k1; have j2 := (hd2.cell _).trans k2; have j3 := (hd2.cell _).trans k3; have j4 := (hd2.cell _).trans k4; have j5 := (hd2.cell _).trans k5))
          go_quiet (fail)
          go_wp2
          go_ret
          exact ⟨bend HB.out, (hd1.trans hd2).more _⟩
        · have g1 : decide (y2 < y0) = false := by simpa using h1
          have HB : Hid (false = sblockB o l) := by rw [Hid, HB0.out, g1]; rfl
          clear h1
          go_enter Try.func25, Try.ntmps25
          go_wp2_with (first | (go_at_call 59; refine (HC1.out _ (Dr.refl _)).mono ?_; rintro e w1 ⟨rfl, hd1⟩; have k0 := (hd1.cell _).trans hx0; have k1 := (hd1.cell _).trans hx1; have k2 := (hd1.cell _).trans hx2; have k3 := (hd1.cell _).trans hy0; have k4 := (hd1.cell _).trans hy1; have k5 := (hd1.cell _).trans hy2) | (go_at_call 58; refine (HC2.out _ hd1).mono ?_; rintro e w2 ⟨rfl, hd2⟩; have j0 := (hd2.cell _).trans k0; have j1 := (hd2.cell _).trans k1; have j2 := (hd2.cell _).trans k2; have j3 := (hd2.cell _).trans k3; have j4 := (hd2.cell _).trans k4; have j5 := (hd2.cell _).trans k5))
          go_quiet (fail)
          go_wp2
          go_ret
          exact ⟨bend HB.out, (hd1.trans hd2).more _⟩
  · have hb : ((m : Int) != 3) = true := by simp; omega
    have HB : Hid (false = sblockB o l) := by
      unfold sblockB; rw [Hid, HL.out.len]
      have : (m == 3) = false := by simpa using h3
      rw [this]; rfl
    clear h3
    go_enter Try.func25, Try.ntmps25
    go_wp2
    go_ret
    exact ⟨bend HB.out, Dr.refl _⟩
end Go.Proofs.Ytmnnehpoaedifaa
