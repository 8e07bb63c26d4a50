import Derived.Test.YtfeohcknopdamaaProg
import Derived.WalkKit
import Derived.Outline
import Derived.BigQuiet
import Derived.Deep.QuietTactic
import Derived.Lib.Hide
import Derived.RegionTactic
import Derived.BigRegion
import Derived.OwnWalk
import Derived.Laws.AppendOwnNone
import Derived.Laws.OwnMore
import Derived.Maps.AppendAt
import Derived.WalkSmall
import Derived.Deep.DeepMust
import Derived.Deep.RegionWith
import Derived.OpenShut
/- The base of every layer: slices of ints that are read (Rd, Sl), that the call owns (Ow), what stays (Dr, Below, Kp, Tn), append, make, mod, ints. -/
namespace Go.Proofs.Ytfeohcknopdamaa
open Go.RowKit
set_option linter.unusedVariables false

/-- The slice value at A reads as the integers zs. -/
def Rd (w : World) (A : Option Addr) (zs : List Int) : Prop :=
  ∀ k, k < zs.length → ∃ b off, A = some ⟨b, off, none⟩ ∧ w.cell? ⟨b, off + k, none⟩ = some (.int .i64 (zs[k]?.getD 0))
theorem bend {b b' : Bool} (h : b = b') : Ending.returned (.bool b) = .returned (.bool b') := by rw [h]
def hasB (zs : List Int) (x : Int) : Bool := zs.contains x
theorem has_stop (zs : List Int) (x : Int) (k : Nat) (hk : k < zs.length) (hx : zs[k]?.getD 0 = x) : true = hasB zs x := by
  rw [List.getElem?_eq_getElem hk, Option.getD_some] at hx
  unfold hasB
  rw [eq_comm, List.contains_iff_mem, ← hx]
  exact List.getElem_mem _
theorem has_step (zs : List Int) (x : Int) (k : Nat) (hk : k < zs.length) (h : hasB (zs.take k) x = false) (hx : ¬ zs[k]?.getD 0 = x) : hasB (zs.take (k + 1)) x = false := by
  rw [List.take_succ_eq_append_getElem hk]
  rw [List.getElem?_eq_getElem hk, Option.getD_some] at hx
  unfold hasB at h ⊢
  rw [Bool.eq_false_iff, Ne, List.contains_iff_mem] at h ⊢
  rw [List.mem_append, List.mem_singleton]
  rintro (e | e)
  · exact h e
  · exact hx e.symm
/-- w' is w after some draws. -/
def Dr (w w' : World) : Prop := ∃ n, w' = w.drewN n
theorem Dr.refl (w : World) : Dr w w := ⟨0, rfl⟩
theorem Dr.more {w w' : World} (h : Dr w w') (n : Nat) : Dr w (w'.drewN n) := by
  obtain ⟨m, rfl⟩ := h
  exact ⟨m + n, by rw [World.drewN_drewN]⟩
theorem Dr.trans {w w' w'' : World} (h : Dr w w') (k : Dr w' w'') : Dr w w'' := by
  obtain ⟨m, rfl⟩ := k
  exact h.more m
theorem Dr.cell {w w' : World} (h : Dr w w') (p : Addr) : w'.cell? p = w.cell? p := by
  obtain ⟨m, rfl⟩ := h
  rfl
theorem Rd.dr {w w' : World} {A : Option Addr} {zs : List Int} (h : Rd w A zs) (k : Dr w w') : Rd w' A zs := fun j hj => by
  obtain ⟨b, off, e, hc⟩ := h j hj
  exact ⟨b, off, e, (k.cell _).trans hc⟩
theorem Rd.take {w : World} {A : Option Addr} {zs : List Int} (h : Rd w A zs) (k : Nat) : Rd w A (zs.take k) := fun j hj => by
  rw [List.length_take] at hj
  obtain ⟨b, off, e, hc⟩ := h j (by omega)
  refine ⟨b, off, e, ?_⟩
  rw [List.getElem?_take_of_lt (by omega)]
  exact hc
/-- A call that leaves the world alone, offered inside a region that draws. -/
theorem quiet_same {P : Program} {f : FuncId} {args : Array Value} {w : World} {n : Nat} {v : Value}
    (h : Calls P f args (w.drewN n) fun e w' => e = .returned v ∧ w.drewN n = w') : Calls P f args (w.drewN n) fun e w'' => e = .returned v ∧ ∃ m, w'' = w.drewN m :=
  h.mono fun _ _ ⟨he, hm⟩ => ⟨he, n, hm.symm⟩
theorem quiet_dr {P : Program} {f : FuncId} {args : Array Value} {w : World} {n : Nat} {v : Value}
    (h : Calls P f args (w.drewN n) fun e w' => e = .returned v ∧ Dr (w.drewN n) w') : Calls P f args (w.drewN n) fun e w'' => e = .returned v ∧ ∃ m, w'' = w.drewN m :=
  h.mono fun _ _ ⟨he, m, hm⟩ => ⟨he, n + m, by rw [hm, World.drewN_drewN]⟩
theorem ok_step {p : Nat → Bool} {k : Nat} (h : ∀ j, j < k → p j = true) (hk : p k = true) : ∀ j, j < k + 1 → p j = true := fun j hj => by
  by_cases e : j = k
  · subst e; exact hk
  · exact h j (by omega)
/-- p holds of every number below n. -/
def allB (p : Nat → Bool) (n : Nat) : Bool := (List.range n).all p
theorem allB_bad {p : Nat → Bool} {n k : Nat} (hk : k < n) (h : p k = false) : false = allB p n := by
  unfold allB
  rw [eq_comm, Bool.eq_false_iff, Ne, List.all_eq_true]
  intro hh
  have := hh k (List.mem_range.2 hk)
  rw [h] at this
  cases this
theorem allB_good {p : Nat → Bool} {n : Nat} (h : ∀ j, j < n → p j = true) : true = allB p n := by
  unfold allB
  rw [eq_comm, List.all_eq_true]
  intro j hj
  exact h j (List.mem_range.1 hj)
theorem allB_iff {p : Nat → Bool} {n : Nat} : allB p n = true ↔ ∀ j, j < n → p j = true := by
  unfold allB
  rw [List.all_eq_true]
  exact ⟨fun h j hj => h j (List.mem_range.2 hj), fun h j hj => h j (List.mem_range.1 hj)⟩
def eqlB (xs ys : List Int) : Bool := xs == ys
theorem eqlB_len {xs ys : List Int} (h : xs.length ≠ ys.length) : false = eqlB xs ys := by
  unfold eqlB
  rw [eq_comm, beq_eq_false_iff_ne]
  rintro rfl
  exact h rfl
theorem eqlB_at {xs ys : List Int} (k : Nat) (h : xs[k]?.getD 0 ≠ ys[k]?.getD 0) : false = eqlB xs ys := by
  unfold eqlB
  rw [eq_comm, beq_eq_false_iff_ne]
  rintro rfl
  exact h rfl
theorem eqlB_all {xs ys : List Int} {n : Nat} (hx : xs.length = n) (hy : ys.length = n) (h : ∀ j, j < n → decide (xs[j]?.getD 0 = ys[j]?.getD 0) = true) : true = eqlB xs ys := by
  unfold eqlB
  rw [eq_comm, beq_iff_eq]
  refine List.ext_getElem (by omega) fun i h1 h2 => ?_
  have := h i (by omega)
  rw [decide_eq_true_eq, List.getElem?_eq_getElem h1, List.getElem?_eq_getElem h2] at this
  exact this
set_option maxHeartbeats 800000 in
theorem ints_any (A B : Option Addr) (n c m d : Nat) (xs ys : List Int) (w : World) (hl : xs.length = n) (hm : ys.length = m) (hn : n ≤ 1099511627776) (hn' : m ≤ 1099511627776) (hr : Rd w A xs) (hs : Rd w B ys) :
    Calls Try.prog 20 #[.slice A n c, .slice B m d] w fun e w' => e = .returned (.bool (eqlB xs ys)) ∧ Dr w w' := by
  have HL := Lib.hid hl; clear hl
  have HM := Lib.hid hm; clear hm
  have HR := Lib.hid hr; clear hr
  have HS := Lib.hid hs; clear hs
  by_cases hnm : n = m
  · subst hnm
    have hb : ((n : Int) != n) = false := by simp
    go_enter Try.func20, Try.ntmps20
    go_wp2
    go_loopw [5] (fun i w' => ∃ k : Nat, k ≤ n ∧ i = .int .i64 k ∧ Hid (∀ j, j < k → decide (xs[j]?.getD 0 = ys[j]?.getD 0) = true) ∧ Dr w w') (fun i _ => n - (intOf i).toNat)
    case atStart => exact ⟨0, Nat.zero_le _, rfl, fun j hj => absurd hj (by omega), Dr.refl _⟩
    case round =>
      obtain ⟨k, hk, rfl, hok, hW⟩ := hrel
      by_cases hlt : k < n
      · obtain ⟨b, off, rfl, hc1⟩ := (HR.out.dr hW) k (by rw [HL.out]; exact hlt)
        obtain ⟨b2, off2, rfl, hc2⟩ := (HS.out.dr hW) k (by rw [HM.out]; exact hlt)
        obtain ⟨x, hx⟩ : ∃ x, x = xs[k]?.getD 0 := ⟨_, rfl⟩
        obtain ⟨y, hy⟩ : ∃ y, y = ys[k]?.getD 0 := ⟨_, rfl⟩
        rw [← hx] at hc1
        rw [← hy] at hc2
        have HX := Lib.hid hx; clear hx
        have HY := Lib.hid hy; clear hy
        by_cases h1 : x = y
        · have g1 : (x != y) = false := by simpa using h1
          have HB : Hid (decide (xs[k]?.getD 0 = ys[k]?.getD 0) = true) := by rw [Hid, ← HX.out, ← HY.out]; simpa using h1
          clear h1
          go_wp2
          go_quiet (fail)
          go_wp2
          go_roundw
          case rel => exact ⟨k + 1, by omega, by go_num, ok_step (p := fun j => decide (xs[j]?.getD 0 = ys[j]?.getD 0)) hok.out HB.out, hW.more _⟩
          case measure => simp [intOf]; omega
        · have g1 : (x != y) = true := by simpa using h1
          have HB : Hid (false = eqlB xs ys) := eqlB_at k (by rw [← HX.out, ← HY.out]; exact h1)
          clear h1
          go_wp2
          go_quiet (fail)
          go_wp2
          go_ret
          exact ⟨bend HB.out, hW.more _⟩
      · have HG : Hid (true = eqlB xs ys) := eqlB_all HL.out HM.out (fun j hj => hok.out j (by omega))
        go_wp2
        go_ret
        exact ⟨bend HG.out, hW⟩
  · have hb : ((n : Int) != m) = true := by simp; omega
    have HG : Hid (false = eqlB xs ys) := eqlB_len (by rw [HL.out, HM.out]; exact hnm)
    go_enter Try.func20, Try.ntmps20
    go_wp2
    go_ret
    exact ⟨bend HG.out, Dr.refl _⟩
theorem Try.infoInt : (Try.prog.info? 3).map (fun i => (i.zero, i.size, i.bytes)) = some (some (.int .i64 0), 1, 8) := by kernel_rfl
/-- The slice A, n, c holds the integers zs. -/
structure Sl (w : World) (A : Option Addr) (n c : Nat) (zs : List Int) : Prop where
  len : zs.length = n
  cap : n ≤ c
  big : n ≤ 9223372036854775807
  nil : A = none → n = 0 ∧ c = 0
  rd : Rd w A zs
  old : ∀ b off, A = some ⟨b, off, none⟩ → 0 < n → b < w.heap.size
abbrev ints (zs : List Int) : List Value := zs.map (Value.int .i64)
theorem ints_at {zs : List Int} {j : Nat} {u : Value} (h : (ints zs)[j]? = some u) : j < zs.length ∧ u = .int .i64 (zs[j]?.getD 0) := by
  rw [List.getElem?_map] at h
  rcases hz : zs[j]? with _ | z
  · rw [hz] at h; cases h
  · rw [hz] at h
    have hj : j < zs.length := by
      rcases Nat.lt_or_ge j zs.length with h' | h'
      · exact h'
      · rw [List.getElem?_eq_none h'] at hz; cases hz
    exact ⟨hj, by injection h with h; exact h.symm⟩
theorem app_any {P : Program} (w : World) {ops : Array Oper} {rest : List Oper} {o : Oper} {a : Act} {Q : Exit → Act → World → Prop} (hgd : o.guard = none) (s x : Operand) (t : TypeId)
    (ho : o.op = .call { callee := .builtin .append, args := #[s, x], argTypes := #[t, t] })
    (base : Nat) (e : TypeId) (i : TypeInfo) (ht : P.underlying t = some (.slice e)) (hi : P.info? e = some i) (hz : i.zero = some (.int .i64 0)) (hsize : i.size = 1) (hby : i.bytes = 8)
    (v : Value) (n : Nat) (xs : List Value) (hs : a.eval s = v) (hown : w.ownsRow base e 1 v n xs)
    (A : Option Addr) (m c : Nat) (ys : List Int) (hx : a.eval x = .slice A m c) (hr : Sl w A m c ys) (hsum : (n + m) * 8 ≤ 140737488355328) (hbase : base ≤ w.heap.size)
    (h : ∀ v' w', w'.ownsRow base e 1 v' (n + m) (xs ++ ints ys) → w.grownBy w' v.ownBlock → wpList P ops Q rest (a.put o.dst v') w') : wpList P ops Q (o :: rest) a w := by
  rcases A with _ | ad
  · obtain ⟨rfl, rfl⟩ := hr.nil rfl
    have hys : ys = [] := List.eq_nil_of_length_eq_zero hr.len
    subst hys
    exact wpList_append_own_none hgd s x t ho base e i 1 ht hi v n xs hs hown hx (h v w (by simpa using hown) (World.grownBy.refl w _))
  · have hcells : ∀ j u, (ints ys)[j]? = some u → w.cell? (ad.add j) = some u := by
      intro j u hu
      obtain ⟨hj, rfl⟩ := ints_at hu
      obtain ⟨b, off, he, hc⟩ := hr.rd j hj
      injection he with he
      subst he
      have : (⟨b, off, none⟩ : Addr).add j = ⟨b, off + j, none⟩ := by unfold Addr.add; split <;> simp_all
      rw [this]; exact hc
    exact wpList_append_own w hgd s x t ho base e i _ 1 8 ht hi hz hsize hby rfl (by decide) v n xs hs hown ad m c (ints ys) hx (by simp [hr.len]) hcells
      (by intro u hu; obtain ⟨z, _, rfl⟩ := List.mem_map.1 hu; rfl) (by unfold maxLen; omega) hsum hbase (fun v' w' h1 h2 _ => h v' w' h1 h2)
theorem Sl.of_own {w : World} {base e n : Nat} {v : Value} {zs : List Int} (h : w.ownsRow base e 1 v n (ints zs)) (hn : n ≤ 1099511627776) : ∃ A c, v = .slice A n c ∧ Sl w A n c zs := by
  have hl : zs.length = n := by have := h.1; simpa using this
  rcases h.2 with ⟨rfl, rfl⟩ | ⟨g, cap, cur, rfl, _, hh, hc, _⟩
  · exact ⟨none, 0, rfl, hl, Nat.le_refl _, by omega, fun _ => ⟨rfl, rfl⟩, fun k hk => absurd hk (by omega), fun _ _ h _ => (by cases h)⟩
  · refine ⟨_, cap, rfl, hl, hc, by omega, fun h => (by cases h), fun k hk => ⟨g, 0, rfl, ?_⟩, fun b off he _ => ?_⟩
    · rw [Nat.zero_add, h.cellAt k (by omega), List.getElem?_map, List.getElem?_eq_getElem hk]
      rfl
    · injection he with he
      injection he with he
      subst he
      exact (h.lt g rfl).2
theorem Sl.below {w w' : World} {B n c : Nat} {A : Option Addr} {zs : List Int} (h : Sl w A n c zs) (hb : Below B w w') (hB : w.heap.size ≤ B) : Sl w' A n c zs :=
  ⟨h.len, h.cap, h.big, h.nil, fun k hk => by
    obtain ⟨b, off, e, hc⟩ := h.rd k hk
    exact ⟨b, off, e, (hb.cell (p := ⟨b, off + k, none⟩) (Nat.lt_of_lt_of_le (h.old b off e (by rw [← h.len]; omega)) hB)).trans hc⟩,
   fun b off e hn => Nat.lt_of_lt_of_le (h.old b off e hn) hb.size⟩
theorem Sl.take {w : World} {n c : Nat} {A : Option Addr} {zs : List Int} (h : Sl w A n c zs) {k : Nat} (hk : k ≤ n) : Sl w A k c (zs.take k) :=
  ⟨by rw [List.length_take, h.len]; omega, by have := h.cap; omega, by have := h.big; omega, fun e => by have := h.nil e; omega, h.rd.take k, fun b off e hn => h.old b off e (by omega)⟩
theorem Sl.at_ {w : World} {n c : Nat} {A : Option Addr} {zs : List Int} (h : Sl w A n c zs) {k : Nat} (hk : k < n) : ∃ b off, A = some ⟨b, off, none⟩ ∧ w.cell? ⟨b, off + k, none⟩ = some (.int .i64 (zs[k]?.getD 0)) :=
  h.rd k (by rw [h.len]; exact hk)
theorem Sl.dr {w w' : World} {n c : Nat} {A : Option Addr} {zs : List Int} (h : Sl w A n c zs) (k : Dr w w') : Sl w' A n c zs :=
  ⟨h.len, h.cap, h.big, h.nil, h.rd.dr k, fun b off e hn => by
    obtain ⟨m, rfl⟩ := k
    exact h.old b off e hn⟩
/-- All cells at one address, once there is one. -/
theorem Sl.cells {w : World} {n c : Nat} {A : Option Addr} {zs : List Int} (h : Sl w A n c zs) (hn : 0 < n) : ∃ b off, A = some ⟨b, off, none⟩ ∧ ∀ k, k < n → w.cell? ⟨b, off + k, none⟩ = some (.int .i64 (zs[k]?.getD 0)) := by
  obtain ⟨b, off, e, _⟩ := h.at_ hn
  refine ⟨b, off, e, fun k hk => ?_⟩
  obtain ⟨b', off', e', hc⟩ := h.at_ hk
  rw [e] at e'
  injection e' with e'
  injection e' with h1 h2
  rw [h1, h2]; exact hc
/-- The call owns the slice v of the integers zs, in a block from B on. -/
def Ow (w : World) (B e : Nat) (v : Value) (zs : List Int) : Prop := w.ownsRow B e 1 v zs.length (ints zs)
/-- Two owned slices do not share a block. -/
def Apart (v u : Value) : Prop := v.ownBlock = none ∨ v.ownBlock ≠ u.ownBlock
theorem Ow.nil (w : World) (B e : Nat) : Ow w B e (.slice none 0 0) [] := World.ownsRow_nil _ _ _ _
theorem Ow.drewN {w : World} {B e : Nat} {v : Value} {zs : List Int} (h : Ow w B e v zs) (n : Nat) : Ow (w.drewN n) B e v zs := h
theorem Ow.alloc {w : World} {B e : Nat} {v : Value} {zs : List Int} (h : Ow w B e v zs) (o : Obj) : Ow (w.alloc o) B e v zs := World.ownsRow.alloc h o
theorem Ow.kept {w w' : World} {B e : Nat} {v u : Value} {zs : List Int} (h : Ow w B e v zs) (hg : w.grownBy w' u.ownBlock) (ha : Apart v u) : Ow w' B e v zs := World.ownsRow.kept h hg ha
theorem Ow.sl {w : World} {B e : Nat} {v : Value} {zs : List Int} (h : Ow w B e v zs) (hn : zs.length ≤ 1099511627776) : ∃ A c, v = .slice A zs.length c ∧ Sl w A zs.length c zs := Sl.of_own h hn
theorem Ow.lt {w : World} {B e : Nat} {v : Value} {zs : List Int} (h : Ow w B e v zs) {k : Nat} (hk : v.ownBlock = some k) : B ≤ k ∧ k < w.heap.size := World.ownsRow.lt h k hk
theorem Ow.form {w : World} {B e : Nat} {v : Value} {zs : List Int} (h : Ow w B e v zs) (h0 : 0 < zs.length) : ∃ g cap, v = .slice (some ⟨g, 0, none⟩) zs.length cap ∧ zs.length ≤ cap ∧ B ≤ g ∧ g < w.heap.size ∧
    ∀ k, k < zs.length → w.cell? ⟨g, k, none⟩ = some (.int .i64 (zs[k]?.getD 0)) := by
  rcases h.2 with ⟨_, e0⟩ | ⟨g, cap, cur, rfl, hb, hh, hc, _⟩
  · omega
  · refine ⟨g, cap, rfl, hc, hb, (h.lt rfl).2, fun k hk => ?_⟩
    have h' : w.ownsRow B e 1 (.slice (some ⟨g, 0, none⟩) zs.length cap) zs.length (ints zs) := h
    rw [h'.cellAt k (by omega), List.getElem?_map, List.getElem?_eq_getElem hk]
    rfl
theorem Ow.pop {w : World} {B e g cap n : Nat} {zs : List Int} {x : Int} (h : Ow w B e (.slice (some ⟨g, 0, none⟩) n cap) (zs ++ [x])) (hn : n = zs.length + 1) : Ow w B e (.slice (some ⟨g, 0, none⟩) zs.length cap) zs := by
  subst hn
  refine ownsRow_pop (last := [.int .i64 x]) (by simp) ?_
  have h' : w.ownsRow B e 1 (.slice (some ⟨g, 0, none⟩) (zs.length + 1) cap) (zs ++ [x]).length (ints (zs ++ [x])) := h
  simpa using h'
theorem grown_alloc {w w' : World} {o : Obj} {r : Option Nat} (h : (w.alloc o).grownBy w' r) : w.grownBy w' r :=
  ⟨h.os, h.tape, h.output, Nat.le_trans (by simp) h.size, fun k hk hne => (h.block k (by simp; omega) hne).trans (Below.heap_alloc w o k hk)⟩
theorem push_law {P : Program} (w : World) {ops : Array Oper} {rest : List Oper} {o : Oper} {a : Act} {Q : Exit → Act → World → Prop} (hgd : o.guard = none) (s x : Operand) (t : TypeId)
    (ho : o.op = .call { callee := .builtin .append, args := #[s, x], argTypes := #[t, t] })
    (B : Nat) (e : TypeId) (i : TypeInfo) (ht : P.underlying t = some (.slice e)) (hI : P.info? e = some i ∧ i.zero = some (.int .i64 0) ∧ i.size = 1 ∧ i.bytes = 8)
    (v : Value) (zs : List Int) (z : Int) (hs : a.eval s = v) (hx : a.eval x = .slice (some ⟨w.heap.size, 0, none⟩) 1 1) (hown : Ow w B e v zs) (hn : zs.length ≤ 1099511627776) (hB : B ≤ w.heap.size)
    (h : ∀ v' w', Ow w' B e v' (zs ++ [z]) → w.grownBy w' v.ownBlock → (v'.ownBlock = v.ownBlock ∨ ∃ g, v'.ownBlock = some g ∧ w.heap.size ≤ g) → wpList P ops Q rest (a.put o.dst v') w') :
    wpList P ops Q (o :: rest) a (w.alloc (.cells #[.int .i64 z] e)) := by
  obtain ⟨h1, h2, h3, h4⟩ := hI
  refine wpList_append_own_at _ hgd s x t ho B e i _ 1 8 ht h1 h2 h3 h4 rfl (by decide) v zs.length (ints zs) hs (hown.alloc _) ⟨w.heap.size, 0, none⟩ 1 1 [.int .i64 z] hx rfl ?_ ?_ (by unfold maxLen; omega) (by omega) (by simp; omega) ?_
  · intro j u hu
    match j, hu with
    | 0, hu =>
      simp at hu; subst hu
      simp [Addr.add]
  · intro u hu
    simp at hu; subst hu; rfl
  · intro v' w' ho' hg' _ hat
    refine h v' w' (by unfold Ow; simpa using ho') (grown_alloc hg') ?_
    rcases hat with e1 | e1
    · exact .inl e1
    · exact .inr ⟨_, e1, by simp⟩
theorem below_dn {B : Nat} {a w : World} (h : Below B a w) (n : Nat) : Below B a (w.drewN n) := ⟨h.os, h.tape, h.output, h.size, h.block⟩
theorem Apart.symm {v u : Value} (h : Apart v u) : Apart u v := by
  unfold Apart at *
  rcases h with h | h
  · rcases hu : u.ownBlock with _ | k
    · exact .inl rfl
    · right; rw [h]; simp
  · right; exact fun e => h e.symm
/-- What stands apart from v stands apart from what an append makes of v. -/
theorem Apart.pushed {w : World} {B e : Nat} {v v' u : Value} {zs : List Int} (h : Apart v u) (hu : Ow w B e u zs) (hat : v'.ownBlock = v.ownBlock ∨ ∃ g, v'.ownBlock = some g ∧ w.heap.size ≤ g) : Apart v' u := by
  unfold Apart at *
  rcases hat with e1 | ⟨g, e1, hg⟩
  · rw [e1]; exact h
  · right
    rw [e1]
    intro e2
    have := (hu.lt e2.symm).2
    omega
theorem Dr.below {w w' : World} (h : Dr w w') (B : Nat) : Below B w w' := by
  obtain ⟨n, rfl⟩ := h
  exact below_dn (Below.refl _ _) n
theorem Ow.cellAt {w : World} {B e g n cap : Nat} {zs : List Int} (h : Ow w B e (.slice (some ⟨g, 0, none⟩) n cap) zs) (hn : zs.length = n) {k : Nat} (hk : k < n) : w.cell? ⟨g, k, none⟩ = some (.int .i64 (zs[k]?.getD 0)) := by
  subst hn
  have h' : w.ownsRow B e 1 (.slice (some ⟨g, 0, none⟩) zs.length cap) zs.length (ints zs) := h
  rw [h'.cellAt k (by omega), List.getElem?_map, List.getElem?_eq_getElem hk]
  rfl
theorem Ow.free {w : World} {B e g n cap : Nat} {zs : List Int} (h : Ow w B e (.slice (some ⟨g, 0, none⟩) n cap) zs) (hn : zs.length = n) (k : Nat) : w.frozen? ⟨g, k, none⟩ = false := by
  subst hn
  have h' : w.ownsRow B e 1 (.slice (some ⟨g, 0, none⟩) zs.length cap) zs.length (ints zs) := h
  exact h'.frozenAt k
theorem Ow.put {w : World} {B e g n cap : Nat} {zs : List Int} (h : Ow w B e (.slice (some ⟨g, 0, none⟩) n cap) zs) (hn : zs.length = n) (j : Nat) (x : Int) :
    Ow (w.setCell ⟨g, j, none⟩ (.int .i64 x)) B e (.slice (some ⟨g, 0, none⟩) n cap) (zs.set j x) := by
  subst hn
  have h' : w.ownsRow B e 1 (.slice (some ⟨g, 0, none⟩) zs.length cap) zs.length (ints zs) := h
  have := (h'.stored j (.int .i64 x)).1
  unfold Ow
  rw [List.length_set, show ints (zs.set j x) = (ints zs).set j (.int .i64 x) from by simp [ints, List.map_set]]
  exact this
theorem make_law {P : Program} (w : World) {ops : Array Oper} {rest : List Oper} {o : Oper} {a : Act} {Q : Exit → Act → World → Prop}
    (hg : o.guard = none) (l c : Operand) (t : TypeId) (hop : o.op = Op.makeSlice t l c)
    (B : Nat) (e : TypeId) (i : TypeInfo) (ht : P.underlying t = some (.slice e)) (hI : P.info? e = some i ∧ i.zero = some (.int .i64 0) ∧ i.size = 1 ∧ i.bytes = 8)
    (L C : Int) (n : Nat) (hl : a.eval l = .int .i64 L) (hc : a.eval c = .int .i64 C) (hL : L = (n : Int)) (hC : C = (n : Int)) (hn : n ≤ 1099511627776) (hB : B ≤ w.heap.size)
    (hK : ∀ w', Ow w' B e (.slice (some ⟨w.heap.size, 0, none⟩) n n) (List.replicate n 0) → w.grownBy w' none → wpList P ops Q rest (a.put o.dst (.slice (some ⟨w.heap.size, 0, none⟩) n n)) w') :
    wpList P ops Q (o :: rest) a w := by
  obtain ⟨h1, h2, h3, h4⟩ := hI
  refine wpList_make_full w hg l c t hop B e i _ 1 ht h1 h2 h3 .i64 .i64 L C n hl hc hL hC (by rw [h4]; omega) (by unfold maxLen; omega) hB fun w' ho hgr => hK w' ?_ hgr
  have hcs : (Value.int .i64 0).cells = #[.int .i64 0] := rfl
  rw [hcs, Nat.mul_one, toList_madeCells_one] at ho
  unfold Ow
  rw [List.length_replicate, show ints (List.replicate n 0) = List.replicate n (.int .i64 0) from by simp [ints]]
  exact ho
theorem Ow.below {w w' : World} {B e b : Nat} {v : Value} {zs : List Int} (h : Ow w B e v zs) (hb : Below b w w') (hB : w.heap.size ≤ b) : Ow w' B e v zs :=
  World.ownsRow.kept (row := none) h ⟨hb.os, hb.tape, hb.output, hb.size, fun k hk _ => hb.block k (by omega)⟩ (by
    rcases hv : v.ownBlock with _ | k
    · exact .inl rfl
    · exact .inr (by simp))
theorem Ow.base {w : World} {B B' e : Nat} {v : Value} {zs : List Int} (h : Ow w B e v zs) (hB : B' ≤ B) : Ow w B' e v zs := by
  refine ⟨h.1, ?_⟩
  rcases h.2 with h | ⟨g, cap, cur, h1, h2, h3⟩
  · exact .inl h
  · exact .inr ⟨g, cap, cur, h1, by omega, h3⟩
theorem Ow.one (w : World) (B e : Nat) (x : Int) (hB : B ≤ w.heap.size) : Ow (w.alloc (.cells #[.int .i64 x] e)) B e (.slice (some ⟨w.heap.size, 0, none⟩) 1 1) [x] := by
  have h := World.ownsRow_lit (base := B) (e := e) (size := 1) w #[.int .i64 x] 1 hB (by unfold maxLen; omega) rfl
  simpa [Ow] using h
theorem app_law {P : Program} (w : World) {ops : Array Oper} {rest : List Oper} {o : Oper} {a : Act} {Q : Exit → Act → World → Prop} (hgd : o.guard = none) (s x : Operand) (t : TypeId)
    (ho : o.op = .call { callee := .builtin .append, args := #[s, x], argTypes := #[t, t] })
    (B : Nat) (e : TypeId) (i : TypeInfo) (ht : P.underlying t = some (.slice e)) (hI : P.info? e = some i ∧ i.zero = some (.int .i64 0) ∧ i.size = 1 ∧ i.bytes = 8)
    (v : Value) (zs : List Int) (hs : a.eval s = v) (hown : Ow w B e v zs) (u : Value) (ys : List Int) (B' : Nat) (hx : a.eval x = u) (hu : Ow w B' e u ys) (hn : zs.length + ys.length ≤ 1099511627776) (hB : B ≤ w.heap.size)
    (h : ∀ v' w', Ow w' B e v' (zs ++ ys) → w.grownBy w' v.ownBlock → wpList P ops Q rest (a.put o.dst v') w') : wpList P ops Q (o :: rest) a w := by
  obtain ⟨A, c, rfl, hsl⟩ := hu.sl (by omega)
  refine app_any w hgd s x t ho B e i ht hI.1 hI.2.1 hI.2.2.1 hI.2.2.2 v zs.length (ints zs) hs hown A ys.length c ys hx hsl (by omega) hB fun v' w' h1 h2 => h v' w' ?_ h2
  unfold Ow
  rw [List.length_append, show ints (zs ++ ys) = ints zs ++ ints ys from by simp [ints]]
  exact h1
/-- What was there when the call began is as it was. -/
def Kp (w W : World) : Prop := Below w.heap.size w W
theorem Kp.call {w W w' : World} (h : Kp w W) (hb : Below W.heap.size W w') : Kp w w' := Below.trans h (hb.mono h.size)
theorem Kp.drew {w W : World} (h : Kp w W) : Kp w W.drew := Below.drew h
theorem wrap_u64_nonneg (x : Int) : 0 ≤ IntKind.u64.wrap x := by
  simp only [IntKind.wrap]
  exact Int.emod_nonneg _ (by decide)
theorem mod_val (x n : Int) (hn : 1 ≤ n) (hn' : n ≤ 1000000) : ∃ r : Nat, wrap64 ((IntKind.u64.wrap x).tmod n) = r ∧ (r : Int) < n := by
  have h0 := wrap_u64_nonneg x
  rw [Int.tmod_eq_emod_of_nonneg h0]
  have h1 := Int.emod_nonneg (IntKind.u64.wrap x) (show n ≠ 0 by omega)
  have h2 := Int.emod_lt_of_pos (IntKind.u64.wrap x) (show 0 < n by omega)
  rw [IntWalk.wrap64_in _ ⟨by omega, by omega⟩]
  exact ⟨((IntKind.u64.wrap x) % n).toNat, by omega, by omega⟩
theorem iend {k : IntKind} {a b : Int} (h : a = b) : Ending.returned (.int k a) = .returned (.int k b) := by rw [h]
theorem mod_any (x : Int) (n : Int) (w : World) (hn : 1 ≤ n) (hn' : n ≤ 1000000) :
    Calls Try.prog 52 #[.int .i64 x, .int .i64 n] w fun e w' => (∃ r : Nat, e = .returned (.int .i64 r) ∧ (r : Int) < n) ∧ w = w' := by
  have H := Lib.hid (mod_val x n hn hn')
  go_enter Try.func52, Try.ntmps52
  go_wp2
  go_ret
  obtain ⟨r, h1, h2⟩ := H.out
  exact ⟨⟨r, iend h1, h2⟩, rfl⟩
/-- From w to w' only blocks of T may have turned, of those that w had. -/
structure Tn (w w' : World) (T : Nat → Prop) : Prop where
  os : w'.os = w.os
  tape : w'.tape = w.tape
  output : w'.output = w.output
  size : w.heap.size ≤ w'.heap.size
  block : ∀ k, k < w.heap.size → ¬ T k → w'.heap[k]? = w.heap[k]?
theorem Tn.refl (w : World) (T : Nat → Prop) : Tn w w T := ⟨rfl, rfl, rfl, Nat.le_refl _, fun _ _ _ => rfl⟩
theorem Tn.trans {a b c : World} {T U V : Nat → Prop} (h : Tn a b T) (k : Tn b c U) (hT : ∀ i, i < a.heap.size → T i → V i) (hU : ∀ i, i < a.heap.size → U i → V i) : Tn a c V :=
  ⟨k.os.trans h.os, k.tape.trans h.tape, k.output.trans h.output, Nat.le_trans h.size k.size, fun i hi hV =>
    (k.block i (Nat.lt_of_lt_of_le hi h.size) (fun hu => hV (hU i hi hu))).trans (h.block i hi (fun ht => hV (hT i hi ht)))⟩
theorem Tn.mono {a b : World} {T U : Nat → Prop} (h : Tn a b T) (hT : ∀ i, i < a.heap.size → T i → U i) : Tn a b U := ⟨h.os, h.tape, h.output, h.size, fun i hi hU => h.block i hi (fun ht => hU (hT i hi ht))⟩
theorem Tn.of_dr {w w' : World} {T : Nat → Prop} (h : Dr w w') : Tn w w' T := by
  obtain ⟨n, rfl⟩ := h
  exact ⟨rfl, rfl, rfl, Nat.le_refl _, fun _ _ _ => rfl⟩
theorem Tn.of_below {w w' : World} {T : Nat → Prop} {B : Nat} (h : Below B w w') (hB : w.heap.size ≤ B) : Tn w w' T := ⟨h.os, h.tape, h.output, h.size, fun k hk _ => h.block k (by omega)⟩
theorem Tn.of_grown {w w' : World} {T : Nat → Prop} {r : Option Nat} (h : w.grownBy w' r) (hT : ∀ k, r = some k → T k) : Tn w w' T :=
  ⟨h.os, h.tape, h.output, h.size, fun k hk hn => h.block k hk (fun e => hn (hT k e.symm))⟩
theorem Tn.set {a w : World} {T : Nat → Prop} (h : Tn a w T) {p : Addr} (hp : p.block < a.heap.size → T p.block) (u : Value) : Tn a (w.setCell p u) T :=
  ⟨h.os, h.tape, h.output, by simpa [World.setCell] using h.size, fun k hk hn => by
    by_cases e : k = p.block
    · exact absurd (hp (by omega)) (by rw [← e]; exact hn)
    · have h2 : (w.setCell p u).heap[k]? = w.heap[k]? := (Below.refl (p.block) w |>.setCell (p := p) (Nat.le_refl _) u |> fun hb => if hk' : k < p.block then hb.block k hk' else by simp [World.setCell, Array.getElem?_modify]; omega)
      exact h2.trans (h.block k hk hn)⟩
theorem Tn.below {w w' : World} {T : Nat → Prop} {B : Nat} (h : Tn w w' T) (hT : ∀ k, T k → B ≤ k) (hB : B ≤ w.heap.size) : Below B w w' :=
  ⟨h.os, h.tape, h.output, h.size, fun k hk => h.block k (by omega) (fun ht => by have := hT k ht; omega)⟩
theorem Tn.cell {w w' : World} {T : Nat → Prop} (h : Tn w w' T) {p : Addr} {x : Value} (hx : w.cell? p = some x) (hn : ¬ T p.block) : w'.cell? p = some x :=
  (World.cell?_of_block (h.block p.block (World.block_lt_of_cell? w p hx) hn)).trans hx
theorem Tn.frozen {w w' : World} {T : Nat → Prop} (h : Tn w w' T) {p : Addr} (hl : p.block < w.heap.size) (hn : ¬ T p.block) : w'.frozen? p = w.frozen? p := World.frozen?_of_block (h.block p.block hl hn)
theorem rows_tn {w w' : World} {T : Nat → Prop} {B e s n : Nat} {v : Value} {xs : List Value} (h : w.ownsRow B e s v n xs) (k : Tn w w' T) (hn : ∀ b, v.ownBlock = some b → ¬ T b) : w'.ownsRow B e s v n xs := by
  refine ⟨h.1, ?_⟩
  rcases h.2 with h0 | ⟨g, cap, cur, rfl, hb, hgg, rest⟩
  · exact .inl h0
  · refine .inr ⟨g, cap, cur, rfl, hb, ?_, rest⟩
    rw [k.block g (Array.getElem?_eq_some_iff.1 hgg).1 (hn g rfl)]
    exact hgg
theorem Ow.tn {w w' : World} {T : Nat → Prop} {B e : Nat} {v : Value} {zs : List Int} (h : Ow w B e v zs) (k : Tn w w' T) (hn : ∀ b, v.ownBlock = some b → ¬ T b) : Ow w' B e v zs := rows_tn h k hn
theorem Ow.setBelow {w : World} {B e : Nat} {v : Value} {zs : List Int} (h : Ow w B e v zs) {a : Addr} (ha : a.block < B) (u : Value) : Ow (w.setCell a u) B e v zs := ownsRow_setCell_below h ha u
theorem grown_cell {w w' : World} {r : Option Nat} (h : w.grownBy w' r) {p : Addr} {x : Value} (hx : w.cell? p = some x) (hne : some p.block ≠ r) : w'.cell? p = some x := World.grownBy.cell h hx hne
theorem grown_frozen {w w' : World} {r : Option Nat} (h : w.grownBy w' r) {p : Addr} (hp : p.block < w.heap.size) (hne : some p.block ≠ r) : w'.frozen? p = w.frozen? p := World.frozen?_of_block (h.block p.block hp hne)
theorem push_law_at {P : Program} (w : World) {ops : Array Oper} {rest : List Oper} {o : Oper} {a : Act} {Q : Exit → Act → World → Prop} (hgd : o.guard = none) (s x : Operand) (t : TypeId)
    (ho : o.op = .call { callee := .builtin .append, args := #[s, x], argTypes := #[t, t] })
    (B : Nat) (e : TypeId) (i : TypeInfo) (ht : P.underlying t = some (.slice e)) (hI : P.info? e = some i ∧ i.zero = some (.int .i64 0) ∧ i.size = 1 ∧ i.bytes = 8)
    (v : Value) (zs : List Int) (z : Int) (p : Nat) (hp : p = w.heap.size) (hs : a.eval s = v) (hx : a.eval x = .slice (some ⟨p, 0, none⟩) 1 1) (hown : Ow w B e v zs) (hn : zs.length ≤ 1099511627776) (hB : B ≤ w.heap.size)
    (h : ∀ v' w', Ow w' B e v' (zs ++ [z]) → w.grownBy w' v.ownBlock → (v'.ownBlock = v.ownBlock ∨ ∃ g, v'.ownBlock = some g ∧ w.heap.size ≤ g) → wpList P ops Q rest (a.put o.dst v') w') :
    wpList P ops Q (o :: rest) a (w.alloc (.cells #[.int .i64 z] e)) := by
  subst hp
  exact push_law w hgd s x t ho B e i ht hI v zs z hs hx hown hn hB h
theorem eqlB_same (xs : List Int) : eqlB xs xs = true := by unfold eqlB; simp
theorem ints_same (A B : Option Addr) (xs : List Int) (n c d : Nat) (w : World) (hl : xs.length = n) (hn : n ≤ 1099511627776) (hr : Rd w A xs) (hs : Rd w B xs) :
    Calls Try.prog 20 #[.slice A n c, .slice B n d] w fun e w' => e = .returned (.bool true) ∧ Dr w w' := by
  refine (ints_any A B _ c _ d xs xs w hl hl hn hn hr hs).mono ?_
  rintro e w' ⟨rfl, hd⟩
  rw [eqlB_same]
  exact ⟨rfl, hd⟩
theorem Ow.sl_len {w : World} {B e n : Nat} {v : Value} {zs : List Int} (h : Ow w B e v zs) (hl : zs.length = n) (hn : n ≤ 1099511627776) : ∃ A c, v = .slice A n c ∧ Sl w A n c zs := by
  subst hl; exact h.sl hn
theorem lt_of_cell {w : World} {p : Addr} {v : Value} (h : w.cell? p = some v) : p.block < w.heap.size := by
  rcases Nat.lt_or_ge p.block w.heap.size with h' | h'
  · exact h'
  · exfalso
    have : w.heap[p.block]? = none := Array.getElem?_eq_none h'
    simp [World.cell?, this] at h
theorem Sl.of_row {w : World} {a : Option Addr} {len cap : Nat} {zs : List Int} (h : (a = none ∧ len = 0 ∧ cap = 0 ∧ zs = []) ∨
    ∃ x, a = some x ∧ len ≤ cap ∧ cap ≤ maxLen ∧ zs.length = cap ∧ (∀ i, i < zs.length → w.cell? (x.add i) = some (.int .i64 (zs.getD i 0))) ∧ ∀ n ∈ zs, (Lit.int .i64 n).wf = true) : Sl w a len cap (zs.take len) := by
  rcases h with ⟨rfl, rfl, rfl, rfl⟩ | ⟨x, rfl, h1, h2, h3, h4, _⟩
  · exact ⟨rfl, Nat.le_refl _, by omega, fun _ => ⟨rfl, rfl⟩, fun k hk => absurd hk (by simp), fun _ _ h _ => (by cases h)⟩
  · unfold maxLen at h2
    refine ⟨by rw [List.length_take]; omega, h1, by omega, fun h => (by cases h), fun k hk => ?_, fun b off he hl => ?_⟩
    · rw [List.length_take] at hk
      obtain ⟨b, off, rfl, hc⟩ := Go.ints_at h4 (by omega)
      refine ⟨b, off, rfl, ?_⟩
      rw [List.getElem?_take_of_lt (by omega), hc k (by omega), List.getD_eq_getElem?_getD]
    · obtain ⟨b', off', e, hc⟩ := Go.ints_at h4 (by omega)
      injection he with he
      rw [e] at he
      injection he with hb
      rw [← hb]
      exact lt_of_cell (hc 0 (by omega))
theorem Kp.fresh (w : World) (o : Obj) : Kp w (w.alloc o) := (Below.refl _ _).alloc (Nat.le_refl _) _
theorem Kp.alloc {w u : World} (h : Kp w u) (o : Obj) : Kp w (u.alloc o) := Below.alloc h h.size o
end Go.Proofs.Ytfeohcknopdamaa
