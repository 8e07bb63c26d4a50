import Derived.Test.YtkemcmeagnggeaaProg
import Derived.WalkKit
import Derived.Outline
import Derived.BigQuiet
import Derived.Deep.QuietTactic
import Derived.Lib.Hide
import Derived.RegionTactic
import Derived.BigRegion
import Derived.OwnWalk
import Derived.Laws.AppendOwnNone
import Derived.Laws.OwnMore
import Derived.Maps.AppendAt
import Derived.WalkSmall
import Derived.Deep.DeepMust
import Derived.Deep.RegionWith
import Derived.OpenShut
/- The base of every layer: slices of ints that are read (Rd, Sl), that the call owns (Ow), what stays (Dr, Below, Kp, Tn), append, make, mod, ints. -/
namespace Go.Proofs.Ytkemcmeagnggeaa
open Go.RowKit
set_option linter.unusedVariables false

/-- The slice value at A reads as the integers zs. -/
def Rd (w : World) (A : Option Addr) (zs : List Int) : Prop :=
  ∀ k, k < zs.length → ∃ b off, A = some ⟨b, off, none⟩ ∧ w.cell? ⟨b, off + k, none⟩ = some (.int .i64 (zs[k]?.getD 0))
theorem bend {b b' : Bool} (h : b = b') : Ending.returned (.bool b) = .returned (.bool b') := by rw [h]
def hasB (zs : List Int) (x : Int) : Bool := zs.contains x
theorem has_stop (zs : List Int) (x : Int) (k : Nat) (hk : k < zs.length) (hx : zs[k]?.getD 0 = x) : true = hasB zs x := by
  rw [List.getElem?_eq_getElem hk, Option.getD_some] at hx
  unfold hasB
  rw [eq_comm, List.contains_iff_mem, ← hx]
  exact List.getElem_mem _
theorem has_step (zs : List Int) (x : Int) (k : Nat) (hk : k < zs.length) (h : hasB (zs.take k) x = false) (hx : ¬ zs[k]?.getD 0 = x) : hasB (zs.take (k + 1)) x = false := by
  rw [List.take_succ_eq_append_getElem hk]
  rw [List.getElem?_eq_getElem hk, Option.getD_some] at hx
  unfold hasB at h ⊢
  rw [Bool.eq_false_iff, Ne, List.contains_iff_mem] at h ⊢
  rw [List.mem_append, List.mem_singleton]
  rintro (e | e)
  · exact h e
  · exact hx e.symm
/-- w' is w after some draws. -/
def Dr (w w' : World) : Prop := ∃ n, w' = w.drewN n
theorem Dr.refl (w : World) : Dr w w := ⟨0, rfl⟩
theorem Dr.more {w w' : World} (h : Dr w w') (n : Nat) : Dr w (w'.drewN n) := by
  obtain ⟨m, rfl⟩ := h
  exact ⟨m + n, by rw [World.drewN_drewN]⟩
theorem Dr.trans {w w' w'' : World} (h : Dr w w') (k : Dr w' w'') : Dr w w'' := by
  obtain ⟨m, rfl⟩ := k
  exact h.more m
theorem Dr.cell {w w' : World} (h : Dr w w') (p : Addr) : w'.cell? p = w.cell? p := by
  obtain ⟨m, rfl⟩ := h
  rfl
theorem Rd.dr {w w' : World} {A : Option Addr} {zs : List Int} (h : Rd w A zs) (k : Dr w w') : Rd w' A zs := fun j hj => by
  obtain ⟨b, off, e, hc⟩ := h j hj
  exact ⟨b, off, e, (k.cell _).trans hc⟩
theorem Rd.take {w : World} {A : Option Addr} {zs : List Int} (h : Rd w A zs) (k : Nat) : Rd w A (zs.take k) := fun j hj => by
  rw [List.length_take] at hj
  obtain ⟨b, off, e, hc⟩ := h j (by omega)
  refine ⟨b, off, e, ?_⟩
  rw [List.getElem?_take_of_lt (by omega)]
  exact hc
/-- A call that leaves the world alone, offered inside a region that draws. -/
theorem quiet_same {P : Program} {f : FuncId} {args : Array Value} {w : World} {n : Nat} {v : Value}
    (h : Calls P f args (w.drewN n) fun e w' => e = .returned v ∧ w.drewN n = w') : Calls P f args (w.drewN n) fun e w'' => e = .returned v ∧ ∃ m, w'' = w.drewN m :=
  h.mono fun _ _ ⟨he, hm⟩ => ⟨he, n, hm.symm⟩
theorem quiet_dr {P : Program} {f : FuncId} {args : Array Value} {w : World} {n : Nat} {v : Value}
    (h : Calls P f args (w.drewN n) fun e w' => e = .returned v ∧ Dr (w.drewN n) w') : Calls P f args (w.drewN n) fun e w'' => e = .returned v ∧ ∃ m, w'' = w.drewN m :=
  h.mono fun _ _ ⟨he, m, hm⟩ => ⟨he, n + m, by rw [hm, World.drewN_drewN]⟩
theorem ok_step {p : Nat → Bool} {k : Nat} (h : ∀ j, j < k → p j = true) (hk : p k = true) : ∀ j, j < k + 1 → p j = true := fun j hj => by
  by_cases e : j = k
  · subst e; exact hk
  · exact h j (by omega)
/-- p holds of every number below n. -/
def allB (p : Nat → Bool) (n : Nat) : Bool := (List.range n).all p
theorem allB_bad {p : Nat → Bool} {n k : Nat} (hk : k < n) (h : p k = false) : false = allB p n := by
  unfold allB
  rw [eq_comm, Bool.eq_false_iff, Ne, List.all_eq_true]
  intro hh
  have := hh k (List.mem_range.2 hk)
  rw [h] at this
  cases this
theorem allB_good {p : Nat → Bool} {n : Nat} (h : ∀ j, j < n → p j = true) : true = allB p n := by
  unfold allB
  rw [eq_comm, List.all_eq_true]
  intro j hj
  exact h j (List.mem_range.1 hj)
theorem allB_iff {p : Nat → Bool} {n : Nat} : allB p n = true ↔ ∀ j, j < n → p j = true := by
  unfold allB
  rw [List.all_eq_true]
  exact ⟨fun h j hj => h j (List.mem_range.2 hj), fun h j hj => h j (List.mem_range.1 hj)⟩
def eqlB (xs ys : List Int) : Bool := xs == ys
theorem eqlB_len {xs ys : List Int} (h : xs.length ≠ ys.length) : false = eqlB xs ys := by
  unfold eqlB
  rw [eq_comm, beq_eq_false_iff_ne]
  rintro rfl
  exact h rfl
theorem eqlB_at {xs ys : List Int} (k : Nat) (h : xs[k]?.getD 0 ≠ ys[k]?.getD 0) : false = eqlB xs ys := by
  unfold eqlB
  rw [eq_comm, beq_eq_false_iff_ne]
  rintro rfl
  exact h rfl
theorem eqlB_all {xs ys : List Int} {n : Nat} (hx : xs.length = n) (hy : ys.length = n) (h : ∀ j, j < n → decide (xs[j]?.getD 0 = ys[j]?.getD 0) = true) : true = eqlB xs ys := by
  unfold eqlB
  rw [eq_comm, beq_iff_eq]
  refine List.ext_getElem (by omega) fun i h1 h2 => ?_
  have := h i (by omega)
  rw [decide_eq_true_eq, List.getElem?_eq_getElem h1, List.getElem?_eq_getElem h2] at this
  exact this
set_option maxHeartbeats 800000 in
theorem ints_any (A B : Option Addr) (n c m d : Nat) (xs ys : List Int) (w : World) (hl : xs.length = n) (hm : ys.length = m) (hn : n ≤ 1099511627776) (hn' : m ≤ 1099511627776) (hr : Rd w A xs) (hs : Rd w B ys) :
    Calls Try.prog 24 #[.slice A n c, .slice B m d] w fun e w' => e = .returned (.bool (eqlB xs ys)) ∧ Dr w w' := by
  have HL := Lib.hid hl; clear hl
  have HM := Lib.hid hm; clear hm
  have HR := Lib.hid hr; clear hr
  have HS := Lib.hid hs; clear hs
  by_cases hnm : n = m
  · subst hnm
    have hb : ((n : Int) != n) = false := by simp
    go_enter Try.func24, Try.ntmps24
    go_wp2
    go_loopw [5] (fun i w' => ∃ k : Nat, k ≤ n ∧ i = .int .i64 k ∧ Hid (∀ j, j < k → decide (xs[j]?.getD 0 = ys[j]?.getD 0) = true) ∧ Dr w w') (fun i _ => n - (intOf i).toNat)
    case atStart => exact ⟨0, Nat.zero_le _, rfl, fun j hj => absurd hj (by omega), Dr.refl _⟩
    case round =>
      obtain ⟨k, hk, rfl, hok, hW⟩ := hrel
      by_cases hlt : k < n
      · obtain ⟨b, off, rfl, hc1⟩ := (HR.out.dr hW) k (by rw [HL.out]; exact hlt)
        obtain ⟨b2, off2, rfl, hc2⟩ := (HS.out.dr hW) k (by rw [HM.out]; exact hlt)
        obtain ⟨x, hx⟩ : ∃ x, x = xs[k]?.getD 0 := ⟨_, rfl⟩
        obtain ⟨y, hy⟩ : ∃ y, y = ys[k]?.getD 0 := ⟨_, rfl⟩
        rw [← hx] at hc1
        rw [← hy] at hc2
        have HX := Lib.hid hx; clear hx
        have HY := Lib.hid hy; clear hy
        by_cases h1 : x = y
        · have g1 : (x != y) = false := by simpa using h1
          have HB : Hid (decide (xs[k]?.getD 0 = ys[k]?.getD 0) = true) := by rw [Hid, ← HX.out, ← HY.out]; simpa using h1
          clear h1
          go_wp2
          go_quiet (fail)
          go_wp2
          go_roundw
          case rel => exact ⟨k + 1, by omega, by go_num, ok_step (p := fun j => decide (xs[j]?.getD 0 = ys[j]?.getD 0)) hok.out HB.out, hW.more _⟩
          case measure => simp [intOf]; omega
        · have g1 : (x != y) = true := by simpa using h1
          have HB : Hid (false = eqlB xs ys) := eqlB_at k (by rw [← HX.out, ← HY.out]; exact h1)
          clear h1
          go_wp2
          go_quiet (fail)
          go_wp2
          go_ret
          exact ⟨bend HB.out, hW.more _⟩
      · have HG : Hid (true = eqlB xs ys) := eqlB_all HL.out HM.out (fun j hj => hok.out j (by omega))
        go_wp2
        go_ret
        exact ⟨bend HG.out, hW⟩
  · have hb : ((n : Int) != m) = true := by simp; omega
    have HG : Hid (false = eqlB xs ys) := eqlB_len (by rw [HL.out, HM.out]; exact hnm)
    go_enter Try.func24, Try.ntmps24
    go_wp2
    go_ret
    exact ⟨bend HG.out, Dr.refl _⟩
theorem Try.infoInt : (Try.prog.info? 3).map (fun i => (i.zero, i.size, i.bytes)) = some (some (.int .i64 0), 1, 8) := by kernel_rfl
/-- The slice A, n, c holds the integers zs. -/
structure Sl (w : World) (A : Option Addr) (n c : Nat) (zs : List Int) : Prop where
  len : zs.length = n
  cap : n ≤ c
  big : n ≤ 9223372036854775807
  nil : A = none → n = 0 ∧ c = 0
  rd : Rd w A zs
  old : ∀ b off, A = some ⟨b, off, none⟩ → 0 < n → b < w.heap.size
abbrev ints (zs : List Int) : List Value := zs.map (Value.int .i64)
theorem ints_at {zs : List Int} {j : Nat} {u : Value} (h : (ints zs)[j]? = some u) : j < zs.length ∧ u = .int .i64 (zs[j]?.getD 0) := by
  rw [List.getElem?_map] at h
  rcases hz : zs[j]? with _ | z
  · rw [hz] at h; cases h
  · rw [hz] at h
    have hj : j < zs.length := by
      rcases Nat.lt_or_ge j zs.length with h' | h'
      · exact h'
      · rw [List.getElem?_eq_none h'] at hz; cases hz
    exact ⟨hj, by injection h with h; exact h.symm⟩
theorem app_any {P : Program} (w : World) {ops : Array Oper} {rest : List Oper} {o : Oper} {a : Act} {Q : Exit → Act → World → Prop} (hgd : o.guard = none) (s x : Operand) (t : TypeId)
    (ho : o.op = .call { callee := .builtin .append, args := #[s, x], argTypes := #[t, t] })
    (base : Nat) (e : TypeId) (i : TypeInfo) (ht : P.underlying t = some (.slice e)) (hi : P.info? e = some i) (hz : i.zero = some (.int .i64 0)) (hsize : i.size = 1) (hby : i.bytes = 8)
    (v : Value) (n : Nat) (xs : List Value) (hs : a.eval s = v) (hown : w.ownsRow base e 1 v n xs)
    (A : Option Addr) (m c : Nat) (ys : List Int) (hx : a.eval x = .slice A m c) (hr : Sl w A m c ys) (hsum : (n + m) * 8 ≤ 140737488355328) (hbase : base ≤ w.heap.size)
    (h : ∀ v' w', w'.ownsRow base e 1 v' (n + m) (xs ++ ints ys) → w.grownBy w' v.ownBlock → wpList P ops Q rest (a.put o.dst v') w') : wpList P ops Q (o :: rest) a w := by
  rcases A with _ | ad
  · obtain ⟨rfl, rfl⟩ := hr.nil rfl
    have hys : ys = [] := List.eq_nil_of_length_eq_zero hr.len
    subst hys
    exact wpList_append_own_none hgd s x t ho base e i 1 ht hi v n xs hs hown hx (h v w (by simpa using hown) (World.grownBy.refl w _))
  · have hcells : ∀ j u, (ints ys)[j]? = some u → w.cell? (ad.add j) = some u := by
      intro j u hu
      obtain ⟨hj, rfl⟩ := ints_at hu
      obtain ⟨b, off, he, hc⟩ := hr.rd j hj
      injection he with he
      subst he
      have : (⟨b, off, none⟩ : Addr).add j = ⟨b, off + j, none⟩ := by unfold Addr.add; split <;> simp_all
      rw [this]; exact hc
    exact wpList_append_own w hgd s x t ho base e i _ 1 8 ht hi hz hsize hby rfl (by decide) v n xs hs hown ad m c (ints ys) hx (by simp [hr.len]) hcells
      (by intro u hu; obtain ⟨z, _, rfl⟩ := List.mem_map.1 hu; rfl) (by unfold maxLen; omega) hsum hbase (fun v' w' h1 h2 _ => h v' w' h1 h2)
theorem Sl.of_own {w : World} {base e n : Nat} {v : Value} {zs : List Int} (h : w.ownsRow base e 1 v n (ints zs)) (hn : n ≤ 1099511627776) : ∃ A c, v = .slice A n c ∧ Sl w A n c zs := by
  have hl : zs.length = n := by have := h.1; simpa using this
  rcases h.2 with ⟨rfl, rfl⟩ | ⟨g, cap, cur, rfl, _, hh, hc, _⟩
  · exact ⟨none, 0, rfl, hl, Nat.le_refl _, by omega, fun _ => ⟨rfl, rfl⟩, fun k hk => absurd hk (by omega), fun _ _ h _ => (by cases h)⟩
  · refine ⟨_, cap, rfl, hl, hc, by omega, fun h => (by cases h), fun k hk => ⟨g, 0, rfl, ?_⟩, fun b off he _ => ?_⟩
    · rw [Nat.zero_add, h.cellAt k (by omega), List.getElem?_map, List.getElem?_eq_getElem hk]
      rfl
    · injection he with he
      injection he with he
      subst he
      exact (h.lt g rfl).2
theorem Sl.below {w w' : World} {B n c : Nat} {A : Option Addr} {zs : List Int} (h : Sl w A n c zs) (hb : Below B w w') (hB : w.heap.size ≤ B) : Sl w' A n c zs :=
  ⟨h.len, h.cap, h.big, h.nil, fun k hk => by
    obtain ⟨b, off, e, hc⟩ := h.rd k hk
    exact ⟨b, off, e, (hb.cell (p := ⟨b, off + k, none⟩) (Nat.lt_of_lt_of_le (h.old b off e (by rw [← h.len]; omega)) hB)).trans hc⟩,
   fun b off e hn => Nat.lt_of_lt_of_le (h.old b off e hn) hb.size⟩
theorem Sl.take {w : World} {n c : Nat} {A : Option Addr} {zs : List Int} (h : Sl w A n c zs) {k : Nat} (hk : k ≤ n) : Sl w A k c (zs.take k) :=
  ⟨by rw [List.length_take, h.len]; omega, by have := h.cap; omega, by have := h.big; omega, fun e => by have := h.nil e; omega, h.rd.take k, fun b off e hn => h.old b off e (by omega)⟩
theorem Sl.at_ {w : World} {n c : Nat} {A : Option Addr} {zs : List Int} (h : Sl w A n c zs) {k : Nat} (hk : k < n) : ∃ b off, A = some ⟨b, off, none⟩ ∧ w.cell? ⟨b, off + k, none⟩ = some (.int .i64 (zs[k]?.getD 0)) :=
  h.rd k (by rw [h.len]; exact hk)
theorem Sl.dr {w w' : World} {n c : Nat} {A : Option Addr} {zs : List Int} (h : Sl w A n c zs) (k : Dr w w') : Sl w' A n c zs :=
  ⟨h.len, h.cap, h.big, h.nil, h.rd.dr k, fun b off e hn => by
    obtain ⟨m, rfl⟩ := k
    exact h.old b off e hn⟩
/-- All cells at one address, once there is one. -/
theorem Sl.cells {w : World} {n c : Nat} {A : Option Addr} {zs : List Int} (h : Sl w A n c zs) (hn : 0 < n) : ∃ b off, A = some ⟨b, off, none⟩ ∧ ∀ k, k < n → w.cell? ⟨b, off + k, none⟩ = some (.int .i64 (zs[k]?.getD 0)) := by
  obtain ⟨b, off, e, _⟩ := h.at_ hn
  refine ⟨b, off, e, fun k hk => ?_⟩
  obtain ⟨b', off', e', hc⟩ := h.at_ hk
  rw [e] at e'
  injection e' with e'
  injection e' with h1 h2
  rw [h1, h2]; exact hc
/-- The call owns the slice v of the integers zs, in a block from B on. -/
def Ow (w : World) (B e : Nat) (v : Value) (zs : List Int) : Prop := w.ownsRow B e 1 v zs.length (ints zs)
/-- Two owned slices do not share a block. -/
def Apart (v u : Value) : Prop := v.ownBlock = none ∨ v.ownBlock ≠ u.ownBlock
theorem Ow.nil (w : World) (B e : Nat) : Ow w B e (.slice none 0 0) [] := World.ownsRow_nil _ _ _ _
theorem Ow.drewN {w : World} {B e : Nat} {v : Value} {zs : List Int} (h : Ow w B e v zs) (n : Nat) : Ow (w.drewN n) B e v zs := h
theorem Ow.alloc {w : World} {B e : Nat} {v : Value} {zs : List Int} (h : Ow w B e v zs) (o : Obj) : Ow (w.alloc o) B e v zs := World.ownsRow.alloc h o
theorem Ow.kept {w w' : World} {B e : Nat} {v u : Value} {zs : List Int} (h : Ow w B e v zs) (hg : w.grownBy w' u.ownBlock) (ha : Apart v u) : Ow w' B e v zs := World.ownsRow.kept h hg ha
theorem Ow.sl {w : World} {B e : Nat} {v : Value} {zs : List Int} (h : Ow w B e v zs) (hn : zs.length ≤ 1099511627776) : ∃ A c, v = .slice A zs.length c ∧ Sl w A zs.length c zs := Sl.of_own h hn
theorem Ow.lt {w : World} {B e : Nat} {v : Value} {zs : List Int} (h : Ow w B e v zs) {k : Nat} (hk : v.ownBlock = some k) : B ≤ k ∧ k < w.heap.size := World.ownsRow.lt h k hk
theorem Ow.form {w : World} {B e : Nat} {v : Value} {zs : List Int} (h : Ow w B e v zs) (h0 : 0 < zs.length) : ∃ g cap, v = .slice (some ⟨g, 0, none⟩) zs.length cap ∧ zs.length ≤ cap ∧ B ≤ g ∧ g < w.heap.size ∧
    ∀ k, k < zs.length → w.cell? ⟨g, k, none⟩ = some (.int .i64 (zs[k]?.getD 0)) := by
  rcases h.2 with ⟨_, e0⟩ | ⟨g, cap, cur, rfl, hb, hh, hc, _⟩
  · omega
  · refine ⟨g, cap, rfl, hc, hb, (h.lt rfl).2, fun k hk => ?_⟩
    have h' : w.ownsRow B e 1 (.slice (some ⟨g, 0, none⟩) zs.length cap) zs.length (ints zs) := h
    rw [h'.cellAt k (by omega), List.getElem?_map, List.getElem?_eq_getElem hk]
    rfl
theorem Ow.pop {w : World} {B e g cap n : Nat} {zs : List Int} {x : Int} (h : Ow w B e (.slice (some ⟨g, 0, none⟩) n cap) (zs ++ [x])) (hn : n = zs.length + 1) : Ow w B e (.slice (some ⟨g, 0, none⟩) zs.length cap) zs := by
  subst hn
  refine ownsRow_pop (last := [.int .i64 x]) (by simp) ?_
  have h' : w.ownsRow B e 1 (.slice (some ⟨g, 0, none⟩) (zs.length + 1) cap) (zs ++ [x]).length (ints (zs ++ [x])) := h
  simpa using h'
theorem grown_alloc {w w' : World} {o : Obj} {r : Option Nat} (h : (w.alloc o).grownBy w' r) : w.grownBy w' r :=
  ⟨h.os, h.tape, h.output, Nat.le_trans (by simp) h.size, fun k hk hne => (h.block k (by simp; omega) hne).trans (Below.heap_alloc w o k hk)⟩
theorem push_law {P : Program} (w : World) {ops : Array Oper} {rest : List Oper} {o : Oper} {a : Act} {Q : Exit → Act → World → Prop} (hgd : o.guard = none) (s x : Operand) (t : TypeId)
    (ho : o.op = .call { callee := .builtin .append, args := #[s, x], argTypes := #[t, t] })
    (B : Nat) (e : TypeId) (i : TypeInfo) (ht : P.underlying t = some (.slice e)) (hI : P.info? e = some i ∧ i.zero = some (.int .i64 0) ∧ i.size = 1 ∧ i.bytes = 8)
    (v : Value) (zs : List Int) (z : Int) (hs : a.eval s = v) (hx : a.eval x = .slice (some ⟨w.heap.size, 0, none⟩) 1 1) (hown : Ow w B e v zs) (hn : zs.length ≤ 1099511627776) (hB : B ≤ w.heap.size)
    (h : ∀ v' w', Ow w' B e v' (zs ++ [z]) → w.grownBy w' v.ownBlock → (v'.ownBlock = v.ownBlock ∨ ∃ g, v'.ownBlock = some g ∧ w.heap.size ≤ g) → wpList P ops Q rest (a.put o.dst v') w') :
    wpList P ops Q (o :: rest) a (w.alloc (.cells #[.int .i64 z] e)) := by
  obtain ⟨h1, h2, h3, h4⟩ := hI
  refine wpList_append_own_at _ hgd s x t ho B e i _ 1 8 ht h1 h2 h3 h4 rfl (by decide) v zs.length (ints zs) hs (hown.alloc _) ⟨w.heap.size, 0, none⟩ 1 1 [.int .i64 z] hx rfl ?_ ?_ (by unfold maxLen; omega) (by omega) (by simp; omega) ?_
  · intro j u hu
    match j, hu with
    | 0, hu =>
      simp at hu; subst hu
      simp [Addr.add]
  · intro u hu
    simp at hu; subst hu; rfl
  · intro v' w' ho' hg' _ hat
    refine h v' w' (by unfold Ow; simpa using ho') (grown_alloc hg') ?_
    rcases hat with e1 | e1
    · exact .inl e1
    · exact .inr ⟨_, e1, by simp⟩
theorem below_dn {B : Nat} {a w : World} (h : Below B a w) (n : Nat) : Below B a (w.drewN n) := ⟨h.os, h.tape, h.output, h.size, h.block⟩
theorem Apart.symm {v u : Value} (h : Apart v u) : Apart u v := by
  unfold Apart at *
  rcases h with h | h
  · rcases hu : u.ownBlock with _ | k
    · exact .inl rfl
    · right; rw [h]; simp
  · right; exact fun e => h e.symm
/-- What stands apart from v stands apart from what an append makes of v. -/
theorem Apart.pushed {w : World} {B e : Nat} {v v' u : Value} {zs : List Int} (h : Apart v u) (hu : Ow w B e u zs) (hat : v'.ownBlock = v.ownBlock ∨ ∃ g, v'.ownBlock = some g ∧ w.heap.size ≤ g) : Apart v' u := by
  unfold Apart at *
  rcases hat with e1 | ⟨g, e1, hg⟩
  · rw [e1]; exact h
  · right
    rw [e1]
    intro e2
    have := (hu.lt e2.symm).2
    omega
theorem Dr.below {w w' : World} (h : Dr w w') (B : Nat) : Below B w w' := by
  obtain ⟨n, rfl⟩ := h
  exact below_dn (Below.refl _ _) n
theorem Ow.cellAt {w : World} {B e g n cap : Nat} {zs : List Int} (h : Ow w B e (.slice (some ⟨g, 0, none⟩) n cap) zs) (hn : zs.length = n) {k : Nat} (hk : k < n) : w.cell? ⟨g, k, none⟩ = some (.int .i64 (zs[k]?.getD 0)) := by
  subst hn
  have h' : w.ownsRow B e 1 (.slice (some ⟨g, 0, none⟩) zs.length cap) zs.length (ints zs) := h
  rw [h'.cellAt k (by omega), List.getElem?_map, List.getElem?_eq_getElem hk]
  rfl
theorem Ow.free {w : World} {B e g n cap : Nat} {zs : List Int} (h : Ow w B e (.slice (some ⟨g, 0, none⟩) n cap) zs) (hn : zs.length = n) (k : Nat) : w.frozen? ⟨g, k, none⟩ = false := by
  subst hn
  have h' : w.ownsRow B e 1 (.slice (some ⟨g, 0, none⟩) zs.length cap) zs.length (ints zs) := h
  exact h'.frozenAt k
theorem Ow.put {w : World} {B e g n cap : Nat} {zs : List Int} (h : Ow w B e (.slice (some ⟨g, 0, none⟩) n cap) zs) (hn : zs.length = n) (j : Nat) (x : Int) :
    Ow (w.setCell ⟨g, j, none⟩ (.int .i64 x)) B e (.slice (some ⟨g, 0, none⟩) n cap) (zs.set j x) := by
  subst hn
  have h' : w.ownsRow B e 1 (.slice (some ⟨g, 0, none⟩) zs.length cap) zs.length (ints zs) := h
  have := (h'.stored j (.int .i64 x)).1
  unfold Ow
  rw [List.length_set, show ints (zs.set j x) = (ints zs).set j (.int .i64 x) from by simp [ints, List.map_set]]
  exact this
theorem make_law {P : Program} (w : World) {ops : Array Oper} {rest : List Oper} {o : Oper} {a : Act} {Q : Exit → Act → World → Prop}
    (hg : o.guard = none) (l c : Operand) (t : TypeId) (hop : o.op = Op.makeSlice t l c)
    (B : Nat) (e : TypeId) (i : TypeInfo) (ht : P.underlying t = some (.slice e)) (hI : P.info? e = some i ∧ i.zero = some (.int .i64 0) ∧ i.size = 1 ∧ i.bytes = 8)
    (L C : Int) (n : Nat) (hl : a.eval l = .int .i64 L) (hc : a.eval c = .int .i64 C) (hL : L = (n : Int)) (hC : C = (n : Int)) (hn : n ≤ 1099511627776) (hB : B ≤ w.heap.size)
    (hK : ∀ w', Ow w' B e (.slice (some ⟨w.heap.size, 0, none⟩) n n) (List.replicate n 0) → w.grownBy w' none → wpList P ops Q rest (a.put o.dst (.slice (some ⟨w.heap.size, 0, none⟩) n n)) w') :
    wpList P ops Q (o :: rest) a w := by
  obtain ⟨h1, h2, h3, h4⟩ := hI
  refine wpList_make_full w hg l c t hop B e i _ 1 ht h1 h2 h3 .i64 .i64 L C n hl hc hL hC (by rw [h4]; omega) (by unfold maxLen; omega) hB fun w' ho hgr => hK w' ?_ hgr
  have hcs : (Value.int .i64 0).cells = #[.int .i64 0] := rfl
  rw [hcs, Nat.mul_one, toList_madeCells_one] at ho
  unfold Ow
  rw [List.length_replicate, show ints (List.replicate n 0) = List.replicate n (.int .i64 0) from by simp [ints]]
  exact ho
theorem Ow.below {w w' : World} {B e b : Nat} {v : Value} {zs : List Int} (h : Ow w B e v zs) (hb : Below b w w') (hB : w.heap.size ≤ b) : Ow w' B e v zs :=
  World.ownsRow.kept (row := none) h ⟨hb.os, hb.tape, hb.output, hb.size, fun k hk _ => hb.block k (by omega)⟩ (by
    rcases hv : v.ownBlock with _ | k
    · exact .inl rfl
    · exact .inr (by simp))
theorem Ow.base {w : World} {B B' e : Nat} {v : Value} {zs : List Int} (h : Ow w B e v zs) (hB : B' ≤ B) : Ow w B' e v zs := by
  refine ⟨h.1, ?_⟩
  rcases h.2 with h | ⟨g, cap, cur, h1, h2, h3⟩
  · exact .inl h
  · exact .inr ⟨g, cap, cur, h1, by omega, h3⟩
theorem Ow.one (w : World) (B e : Nat) (x : Int) (hB : B ≤ w.heap.size) : Ow (w.alloc (.cells #[.int .i64 x] e)) B e (.slice (some ⟨w.heap.size, 0, none⟩) 1 1) [x] := by
  have h := World.ownsRow_lit (base := B) (e := e) (size := 1) w #[.int .i64 x] 1 hB (by unfold maxLen; omega) rfl
  simpa [Ow] using h
theorem app_law {P : Program} (w : World) {ops : Array Oper} {rest : List Oper} {o : Oper} {a : Act} {Q : Exit → Act → World → Prop} (hgd : o.guard = none) (s x : Operand) (t : TypeId)
    (ho : o.op = .call { callee := .builtin .append, args := #[s, x], argTypes := #[t, t] })
    (B : Nat) (e : TypeId) (i : TypeInfo) (ht : P.underlying t = some (.slice e)) (hI : P.info? e = some i ∧ i.zero = some (.int .i64 0) ∧ i.size = 1 ∧ i.bytes = 8)
    (v : Value) (zs : List Int) (hs : a.eval s = v) (hown : Ow w B e v zs) (u : Value) (ys : List Int) (B' : Nat) (hx : a.eval x = u) (hu : Ow w B' e u ys) (hn : zs.length + ys.length ≤ 1099511627776) (hB : B ≤ w.heap.size)
    (h : ∀ v' w', Ow w' B e v' (zs ++ ys) → w.grownBy w' v.ownBlock → wpList P ops Q rest (a.put o.dst v') w') : wpList P ops Q (o :: rest) a w := by
  obtain ⟨A, c, rfl, hsl⟩ := hu.sl (by omega)
  refine app_any w hgd s x t ho B e i ht hI.1 hI.2.1 hI.2.2.1 hI.2.2.2 v zs.length (ints zs) hs hown A ys.length c ys hx hsl (by omega) hB fun v' w' h1 h2 => h v' w' ?_ h2
  unfold Ow
  rw [List.length_append, show ints (zs ++ ys) = ints zs ++ ints ys from by simp [ints]]
  exact h1
/-- What was there when the call began is as it was. -/
def Kp (w W : World) : Prop := Below w.heap.size w W
theorem Kp.call {w W w' : World} (h : Kp w W) (hb : Below W.heap.size W w') : Kp w w' := Below.trans h (hb.mono h.size)
theorem Kp.drew {w W : World} (h : Kp w W) : Kp w W.drew := Below.drew h
theorem wrap_u64_nonneg (x : Int) : 0 ≤ IntKind.u64.wrap x := by
  simp only [IntKind.wrap]
  exact Int.emod_nonneg _ (by decide)
theorem mod_val (x n : Int) (hn : 1 ≤ n) (hn' : n ≤ 1000000) : ∃ r : Nat, wrap64 ((IntKind.u64.wrap x).tmod n) = r ∧ (r : Int) < n := by
  have h0 := wrap_u64_nonneg x
  rw [Int.tmod_eq_emod_of_nonneg h0]
  have h1 := Int.emod_nonneg (IntKind.u64.wrap x) (show n ≠ 0 by omega)
  have h2 := Int.emod_lt_of_pos (IntKind.u64.wrap x) (show 0 < n by omega)
  rw [IntWalk.wrap64_in _ ⟨by omega, by omega⟩]
  exact ⟨((IntKind.u64.wrap x) % n).toNat, by omega, by omega⟩
theorem iend {k : IntKind} {a b : Int} (h : a = b) : Ending.returned (.int k a) = .returned (.int k b) := by rw [h]
theorem mod_any (x : Int) (n : Int) (w : World) (hn : 1 ≤ n) (hn' : n ≤ 1000000) :
    Calls Try.prog 47 #[.int .i64 x, .int .i64 n] w fun e w' => (∃ r : Nat, e = .returned (.int .i64 r) ∧ (r : Int) < n) ∧ w = w' := by
  have H := Lib.hid (mod_val x n hn hn')
  go_enter Try.func47, Try.ntmps47
  go_wp2
  go_ret
  obtain ⟨r, h1, h2⟩ := H.out
  exact ⟨⟨r, iend h1, h2⟩, rfl⟩
/-- From w to w' only blocks of T may have turned, of those that w had. -/
structure Tn (w w' : World) (T : Nat → Prop) : Prop where
  os : w'.os = w.os
  tape : w'.tape = w.tape
  output : w'.output = w.output
  size : w.heap.size ≤ w'.heap.size
  block : ∀ k, k < w.heap.size → ¬ T k → w'.heap[k]? = w.heap[k]?
theorem Tn.refl (w : World) (T : Nat → Prop) : Tn w w T := ⟨rfl, rfl, rfl, Nat.le_refl _, fun _ _ _ => rfl⟩
theorem Tn.trans {a b c : World} {T U V : Nat → Prop} (h : Tn a b T) (k : Tn b c U) (hT : ∀ i, i < a.heap.size → T i → V i) (hU : ∀ i, i < a.heap.size → U i → V i) : Tn a c V :=
  ⟨k.os.trans h.os, k.tape.trans h.tape, k.output.trans h.output, Nat.le_trans h.size k.size, fun i hi hV =>
    (k.block i (Nat.lt_of_lt_of_le hi h.size) (fun hu => hV (hU i hi hu))).trans (h.block i hi (fun ht => hV (hT i hi ht)))⟩
theorem Tn.mono {a b : World} {T U : Nat → Prop} (h : Tn a b T) (hT : ∀ i, i < a.heap.size → T i → U i) : Tn a b U := ⟨h.os, h.tape, h.output, h.size, fun i hi hU => h.block i hi (fun ht => hU (hT i hi ht))⟩
theorem Tn.of_dr {w w' : World} {T : Nat → Prop} (h : Dr w w') : Tn w w' T := by
  obtain ⟨n, rfl⟩ := h
  exact ⟨rfl, rfl, rfl, Nat.le_refl _, fun _ _ _ => rfl⟩
theorem Tn.of_below {w w' : World} {T : Nat → Prop} {B : Nat} (h : Below B w w') (hB : w.heap.size ≤ B) : Tn w w' T := ⟨h.os, h.tape, h.output, h.size, fun k hk _ => h.block k (by omega)⟩
theorem Tn.of_grown {w w' : World} {T : Nat → Prop} {r : Option Nat} (h : w.grownBy w' r) (hT : ∀ k, r = some k → T k) : Tn w w' T :=
  ⟨h.os, h.tape, h.output, h.size, fun k hk hn => h.block k hk (fun e => hn (hT k e.symm))⟩
theorem Tn.set {a w : World} {T : Nat → Prop} (h : Tn a w T) {p : Addr} (hp : p.block < a.heap.size → T p.block) (u : Value) : Tn a (w.setCell p u) T :=
  ⟨h.os, h.tape, h.output, by simpa [World.setCell] using h.size, fun k hk hn => by
    by_cases e : k = p.block
    · exact absurd (hp (by omega)) (by rw [← e]; exact hn)
    · have h2 : (w.setCell p u).heap[k]? = w.heap[k]? := (Below.refl (p.block) w |>.setCell (p := p) (Nat.le_refl _) u |> fun hb => if hk' : k < p.block then hb.block k hk' else by simp [World.setCell, Array.getElem?_modify]; omega)
      exact h2.trans (h.block k hk hn)⟩
theorem Tn.below {w w' : World} {T : Nat → Prop} {B : Nat} (h : Tn w w' T) (hT : ∀ k, T k → B ≤ k) (hB : B ≤ w.heap.size) : Below B w w' :=
  ⟨h.os, h.tape, h.output, h.size, fun k hk => h.block k (by omega) (fun ht => by have := hT k ht; omega)⟩
theorem Tn.cell {w w' : World} {T : Nat → Prop} (h : Tn w w' T) {p : Addr} {x : Value} (hx : w.cell? p = some x) (hn : ¬ T p.block) : w'.cell? p = some x :=
  (World.cell?_of_block (h.block p.block (World.block_lt_of_cell? w p hx) hn)).trans hx
theorem Tn.frozen {w w' : World} {T : Nat → Prop} (h : Tn w w' T) {p : Addr} (hl : p.block < w.heap.size) (hn : ¬ T p.block) : w'.frozen? p = w.frozen? p := World.frozen?_of_block (h.block p.block hl hn)
theorem rows_tn {w w' : World} {T : Nat → Prop} {B e s n : Nat} {v : Value} {xs : List Value} (h : w.ownsRow B e s v n xs) (k : Tn w w' T) (hn : ∀ b, v.ownBlock = some b → ¬ T b) : w'.ownsRow B e s v n xs := by
  refine ⟨h.1, ?_⟩
  rcases h.2 with h0 | ⟨g, cap, cur, rfl, hb, hgg, rest⟩
  · exact .inl h0
  · refine .inr ⟨g, cap, cur, rfl, hb, ?_, rest⟩
    rw [k.block g (Array.getElem?_eq_some_iff.1 hgg).1 (hn g rfl)]
    exact hgg
theorem Ow.tn {w w' : World} {T : Nat → Prop} {B e : Nat} {v : Value} {zs : List Int} (h : Ow w B e v zs) (k : Tn w w' T) (hn : ∀ b, v.ownBlock = some b → ¬ T b) : Ow w' B e v zs := rows_tn h k hn
theorem Ow.setBelow {w : World} {B e : Nat} {v : Value} {zs : List Int} (h : Ow w B e v zs) {a : Addr} (ha : a.block < B) (u : Value) : Ow (w.setCell a u) B e v zs := ownsRow_setCell_below h ha u
theorem grown_cell {w w' : World} {r : Option Nat} (h : w.grownBy w' r) {p : Addr} {x : Value} (hx : w.cell? p = some x) (hne : some p.block ≠ r) : w'.cell? p = some x := World.grownBy.cell h hx hne
theorem grown_frozen {w w' : World} {r : Option Nat} (h : w.grownBy w' r) {p : Addr} (hp : p.block < w.heap.size) (hne : some p.block ≠ r) : w'.frozen? p = w.frozen? p := World.frozen?_of_block (h.block p.block hp hne)
theorem push_law_at {P : Program} (w : World) {ops : Array Oper} {rest : List Oper} {o : Oper} {a : Act} {Q : Exit → Act → World → Prop} (hgd : o.guard = none) (s x : Operand) (t : TypeId)
    (ho : o.op = .call { callee := .builtin .append, args := #[s, x], argTypes := #[t, t] })
    (B : Nat) (e : TypeId) (i : TypeInfo) (ht : P.underlying t = some (.slice e)) (hI : P.info? e = some i ∧ i.zero = some (.int .i64 0) ∧ i.size = 1 ∧ i.bytes = 8)
    (v : Value) (zs : List Int) (z : Int) (p : Nat) (hp : p = w.heap.size) (hs : a.eval s = v) (hx : a.eval x = .slice (some ⟨p, 0, none⟩) 1 1) (hown : Ow w B e v zs) (hn : zs.length ≤ 1099511627776) (hB : B ≤ w.heap.size)
    (h : ∀ v' w', Ow w' B e v' (zs ++ [z]) → w.grownBy w' v.ownBlock → (v'.ownBlock = v.ownBlock ∨ ∃ g, v'.ownBlock = some g ∧ w.heap.size ≤ g) → wpList P ops Q rest (a.put o.dst v') w') :
    wpList P ops Q (o :: rest) a (w.alloc (.cells #[.int .i64 z] e)) := by
  subst hp
  exact push_law w hgd s x t ho B e i ht hI v zs z hs hx hown hn hB h
theorem eqlB_same (xs : List Int) : eqlB xs xs = true := by unfold eqlB; simp
theorem ints_same (A B : Option Addr) (xs : List Int) (n c d : Nat) (w : World) (hl : xs.length = n) (hn : n ≤ 1099511627776) (hr : Rd w A xs) (hs : Rd w B xs) :
    Calls Try.prog 24 #[.slice A n c, .slice B n d] w fun e w' => e = .returned (.bool true) ∧ Dr w w' := by
  refine (ints_any A B _ c _ d xs xs w hl hl hn hn hr hs).mono ?_
  rintro e w' ⟨rfl, hd⟩
  rw [eqlB_same]
  exact ⟨rfl, hd⟩
theorem Ow.sl_len {w : World} {B e n : Nat} {v : Value} {zs : List Int} (h : Ow w B e v zs) (hl : zs.length = n) (hn : n ≤ 1099511627776) : ∃ A c, v = .slice A n c ∧ Sl w A n c zs := by
  subst hl; exact h.sl hn
theorem lt_of_cell {w : World} {p : Addr} {v : Value} (h : w.cell? p = some v) : p.block < w.heap.size := by
  rcases Nat.lt_or_ge p.block w.heap.size with h' | h'
  · exact h'
  · exfalso
    have : w.heap[p.block]? = none := Array.getElem?_eq_none h'
    simp [World.cell?, this] at h
theorem Sl.of_row {w : World} {a : Option Addr} {len cap : Nat} {zs : List Int} (h : (a = none ∧ len = 0 ∧ cap = 0 ∧ zs = []) ∨
    ∃ x, a = some x ∧ len ≤ cap ∧ cap ≤ maxLen ∧ zs.length = cap ∧ (∀ i, i < zs.length → w.cell? (x.add i) = some (.int .i64 (zs.getD i 0))) ∧ ∀ n ∈ zs, (Lit.int .i64 n).wf = true) : Sl w a len cap (zs.take len) := by
  rcases h with ⟨rfl, rfl, rfl, rfl⟩ | ⟨x, rfl, h1, h2, h3, h4, _⟩
  · exact ⟨rfl, Nat.le_refl _, by omega, fun _ => ⟨rfl, rfl⟩, fun k hk => absurd hk (by simp), fun _ _ h _ => (by cases h)⟩
  · unfold maxLen at h2
    refine ⟨by rw [List.length_take]; omega, h1, by omega, fun h => (by cases h), fun k hk => ?_, fun b off he hl => ?_⟩
    · rw [List.length_take] at hk
      obtain ⟨b, off, rfl, hc⟩ := Go.ints_at h4 (by omega)
      refine ⟨b, off, rfl, ?_⟩
      rw [List.getElem?_take_of_lt (by omega), hc k (by omega), List.getD_eq_getElem?_getD]
    · obtain ⟨b', off', e, hc⟩ := Go.ints_at h4 (by omega)
      injection he with he
      rw [e] at he
      injection he with hb
      rw [← hb]
      exact lt_of_cell (hc 0 (by omega))
theorem Kp.fresh (w : World) (o : Obj) : Kp w (w.alloc o) := (Below.refl _ _).alloc (Nat.le_refl _) _
theorem Kp.alloc {w u : World} (h : Kp w u) (o : Obj) : Kp w (u.alloc o) := Below.alloc h h.size o
end Go.Proofs.Ytkemcmeagnggeaa
/- Layer 3: words as lists of bytes; contracts: Letters, Word, Next, short. -/
namespace Go.Proofs.Ytkemcmeagnggeaa
open Go.RowKit
set_option linter.unusedVariables false

/-- The bytes of a string. -/
def bs (s : ByteArray) : List Int := s.data.toList.map fun b => (b.toNat : Int)
theorem bs_len (s : ByteArray) : (bs s).length = s.size := by simp [bs]
theorem bs_at (s : ByteArray) (k : Nat) (h : k < s.size) : (bs s)[k]?.getD 0 = (s[k].toNat : Int) := by
  unfold bs
  rw [List.getElem?_map, List.getElem?_eq_getElem (by simpa using h)]
  rfl
theorem bs_byte (s : ByteArray) (k : Nat) : 0 ≤ (bs s)[k]?.getD 0 ∧ (bs s)[k]?.getD 0 ≤ 255 := by
  by_cases h : k < s.size
  · rw [bs_at s k h]
    have := s[k].toNat_lt
    omega
  · rw [List.getElem?_eq_none (by rw [bs_len]; omega)]; decide
theorem bs_inj {s t : ByteArray} (h : bs s = bs t) : s = t := by
  unfold bs at h
  have h2 := (List.map_inj_right (fun a b hab => UInt8.toNat_inj.1 (by omega))).1 h
  exact ByteArray.ext (Array.toList_inj.1 h2)

def letB (w : List Int) (k : Int) (i : Nat) : Bool := decide (97 ≤ w[i]?.getD 0) && decide (w[i]?.getD 0 - 97 < k)
def lettersB (w : List Int) (k : Int) : Bool := allB (letB w k) w.length
def wordB (w : List Int) : Bool := decide (w.length ≤ 60) && lettersB w 4
theorem lettersB_iff {w : List Int} {k : Int} : lettersB w k = true ↔ ∀ i, i < w.length → 97 ≤ w[i]?.getD 0 ∧ w[i]?.getD 0 - 97 < k := by
  unfold lettersB
  rw [allB_iff]
  constructor
  · intro h i hi
    have := h i hi
    unfold letB at this
    simpa using this
  · intro h i hi
    have := h i hi
    unfold letB
    simpa using this

set_option maxHeartbeats 400000 in
theorem letters_any (s : ByteArray) (k : Int) (w : World) (hs : s.size ≤ 1099511627776) :
    Calls Try.prog 33 #[.string s, .int .i64 k] w fun e w' => e = .returned (.bool (lettersB (bs s) k)) ∧ w = w' := by
  go_enter Try.func33, Try.ntmps33
  go_wp2
  go_loop [5] (fun i => ∃ j : Nat, j ≤ s.size ∧ i = .int .i64 (j : Int) ∧ Hid (∀ t, t < j → letB (bs s) k t = true)) (fun i => s.size - (intOf i).toNat)
  case atStart => exact ⟨0, by omega, by go_num, fun t ht => absurd ht (by omega)⟩
  case round =>
    obtain ⟨j, hj, rfl, HOK⟩ := hrel
    by_cases hlt : j < s.size
    · have HB := Lib.hid (bs_at s j hlt)
      have hb0 : s[j].toNat < 256 := s[j].toNat_lt
      have HL : Hid (letB (bs s) k j = (decide (97 ≤ (s[j].toNat : Int)) && decide ((s[j].toNat : Int) - 97 < k))) := by
        unfold letB; rw [Hid, HB.out]
      by_cases h1 : (s[j].toNat : Int) < 97
      · have HR : Hid (false = lettersB (bs s) k) := allB_bad (k := j) (by rw [bs_len]; exact hlt) (by rw [HL.out, decide_eq_false (by omega)]; rfl)
        go_wp2
        go_ret
        exact ⟨bend HR.out, rfl⟩
      · by_cases h2 : k ≤ (s[j].toNat : Int) - 97
        · have HR : Hid (false = lettersB (bs s) k) := allB_bad (k := j) (by rw [bs_len]; exact hlt) (by rw [HL.out, decide_eq_false (p := _ < k) (by omega), Bool.and_false])
          go_wp2
          go_ret
          exact ⟨bend HR.out, rfl⟩
        · have HN : Hid (∀ t, t < j + 1 → letB (bs s) k t = true) := ok_step HOK.out (by rw [HL.out, decide_eq_true (by omega), decide_eq_true (p := _ < k) (by omega)]; rfl)
          go_wp2
          go_round
          case rel => exact ⟨j + 1, by omega, by go_num, HN⟩
          case measure => simp [intOf]; omega
    · obtain rfl : j = s.size := by omega
      have HR : Hid (true = lettersB (bs s) k) := by
        unfold lettersB; rw [Hid, bs_len]; exact allB_good HOK.out
      go_wp2
      go_ret
      exact ⟨bend HR.out, rfl⟩

/-- The position behind the first letter c from position i on, or -1; t: how many positions are left. -/
def nextT (w : List Int) (c : Int) : Nat → Nat → Int
  | 0, _ => -1
  | t + 1, i => if w[i]?.getD 0 = c then (i : Int) + 1 else nextT w c t (i + 1)
def nextF (w : List Int) (f : Nat) (c : Int) : Int := nextT w c (w.length - f) f
theorem nextT_hit {w : List Int} {c : Int} (t : Nat) : ∀ {f i : Nat}, f ≤ i → i < f + t → w[i]?.getD 0 = c → (∀ j, f ≤ j → j < i → w[j]?.getD 0 ≠ c) → nextT w c t f = (i : Int) + 1 := by
  induction t with
  | zero => intro f i h1 h2; omega
  | succ t ih =>
    intro f i h1 h2 h3 h4
    rw [nextT]
    by_cases e : f = i
    · subst e; rw [if_pos h3]
    · rw [if_neg (h4 f (Nat.le_refl _) (by omega)), ih (f := f + 1) (by omega) (by omega) h3 (fun j hj hji => h4 j (by omega) hji)]
theorem nextT_miss {w : List Int} {c : Int} (t : Nat) : ∀ {f : Nat}, (∀ j, f ≤ j → j < f + t → w[j]?.getD 0 ≠ c) → nextT w c t f = -1 := by
  induction t with
  | zero => intro f _; rfl
  | succ t ih =>
    intro f h
    rw [nextT, if_neg (h f (Nat.le_refl _) (by omega)), ih (fun j h1 h2 => h j (by omega) (by omega))]
theorem nextF_hit {w : List Int} {c : Int} {f i : Nat} (h1 : f ≤ i) (h2 : i < w.length) (h3 : w[i]?.getD 0 = c) (h4 : ∀ j, f ≤ j → j < i → w[j]?.getD 0 ≠ c) : nextF w f c = (i : Int) + 1 := nextT_hit _ h1 (by omega) h3 h4
theorem nextF_miss {w : List Int} {c : Int} {f : Nat} (h : ∀ j, f ≤ j → j < w.length → w[j]?.getD 0 ≠ c) : nextF w f c = -1 := nextT_miss _ fun j h1 h2 => h j h1 (by omega)
/-- What Next gives. -/
theorem nextF_cases (w : List Int) (f : Nat) (c : Int) : (∃ i : Nat, f ≤ i ∧ i < w.length ∧ w[i]?.getD 0 = c ∧ (∀ j, f ≤ j → j < i → w[j]?.getD 0 ≠ c) ∧ nextF w f c = (i : Int) + 1) ∨ ((∀ j, f ≤ j → j < w.length → w[j]?.getD 0 ≠ c) ∧ nextF w f c = -1) := by
  have key : ∀ (t f : Nat), (∃ i : Nat, f ≤ i ∧ i < f + t ∧ w[i]?.getD 0 = c ∧ (∀ j, f ≤ j → j < i → w[j]?.getD 0 ≠ c)) ∨ (∀ j, f ≤ j → j < f + t → w[j]?.getD 0 ≠ c) := by
    intro t
    induction t with
    | zero => intro f; exact .inr fun j h1 h2 => by omega
    | succ t ih =>
      intro f
      by_cases e : w[f]?.getD 0 = c
      · exact .inl ⟨f, Nat.le_refl _, by omega, e, fun j h1 h2 => by omega⟩
      · rcases ih (f + 1) with ⟨i, h1, h2, h3, h4⟩ | h
        · refine .inl ⟨i, by omega, by omega, h3, fun j h5 h6 => ?_⟩
          by_cases hj : j = f
          · subst hj; exact e
          · exact h4 j (by omega) h6
        · refine .inr fun j h5 h6 => ?_
          by_cases hj : j = f
          · subst hj; exact e
          · exact h j (by omega) (by omega)
  rcases key (w.length - f) f with ⟨i, h1, h2, h3, h4⟩ | h
  · exact .inl ⟨i, h1, by omega, h3, h4, nextF_hit h1 (by omega) h3 h4⟩
  · exact .inr ⟨fun j h1 h2 => h j h1 (by omega), nextF_miss fun j h1 h2 => h j h1 (by omega)⟩
theorem nextF_rng (w : List Int) (f : Nat) (c : Int) : nextF w f c = -1 ∨ ((f : Int) < nextF w f c ∧ nextF w f c ≤ w.length) := by
  rcases nextF_cases w f c with ⟨i, h1, h2, _, _, h5⟩ | ⟨_, h⟩
  · right; rw [h5]; omega
  · exact .inl h

set_option maxHeartbeats 400000 in
theorem next_any (s : ByteArray) (f : Nat) (c : Int) (w : World) (hs : s.size ≤ 1099511627776) (hf : f ≤ 1099511627776) :
    Calls Try.prog 54 #[.string s, .int .i64 f, .int .u8 c] w fun e w' => e = .returned (.int .i64 (nextF (bs s) f c)) ∧ w = w' := by
  go_enter Try.func54, Try.ntmps54
  go_wp2
  go_loop [7] (fun i => ∃ j : Nat, f ≤ j ∧ j ≤ max f s.size ∧ i = .int .i64 (j : Int) ∧ Hid (∀ t, f ≤ t → t < j → (bs s)[t]?.getD 0 ≠ c)) (fun i => s.size - (intOf i).toNat)
  case atStart => exact ⟨f, by omega, by omega, rfl, fun t h1 h2 => by omega⟩
  case round =>
    obtain ⟨j, hfj, hj, rfl, HOK⟩ := hrel
    by_cases hlt : j < s.size
    · have HB := Lib.hid (bs_at s j hlt)
      have hb0 : s[j].toNat < 256 := s[j].toNat_lt
      by_cases h1 : (s[j].toNat : Int) = c
      · have g1 : ((s[j].toNat : Int) == c) = true := by simpa using h1
        have HR : Hid ((j : Int) + 1 = nextF (bs s) f c) := (nextF_hit hfj (by rw [bs_len]; exact hlt) (by rw [HB.out]; exact h1) HOK.out).symm
        clear h1
        go_wp2
        go_ret
        exact ⟨iend HR.out, rfl⟩
      · have g1 : ((s[j].toNat : Int) == c) = false := by simpa using h1
        have HN : Hid (∀ t, f ≤ t → t < j + 1 → (bs s)[t]?.getD 0 ≠ c) := fun t h2 h3 => by
          by_cases e : t = j
          · subst e; rw [HB.out]; exact h1
          · exact HOK.out t h2 (by omega)
        clear h1
        go_wp2
        go_round
        case rel => exact ⟨j + 1, by omega, by omega, by go_num, HN⟩
        case measure => simp [intOf]; omega
    · have HR : Hid (-1 = nextF (bs s) f c) := (nextF_miss fun t h1 h2 => HOK.out t h1 (by rw [bs_len] at h2; omega)).symm
      go_wp2
      go_ret
      exact ⟨iend HR.out, rfl⟩

set_option maxHeartbeats 400000 in
theorem word_any (s : ByteArray) (w : World) (hs : s.size ≤ 1099511627776) :
    Calls Try.prog 20 #[.string s] w fun e w' => e = .returned (.bool (wordB (bs s))) ∧ w = w' := by
  have HL := Lib.hid (fun W => letters_any s 4 W hs)
  have HW : Hid (wordB (bs s) = (decide (s.size ≤ 60) && lettersB (bs s) 4)) := by unfold wordB; rw [Hid, bs_len]
  by_cases h : s.size ≤ 60
  · have HR : Hid (lettersB (bs s) 4 = wordB (bs s)) := by rw [Hid, HW.out, decide_eq_true h]; simp
    go_enter Try.func20, Try.ntmps20
    go_wp2_with (go_at_call 33; refine (HL.out _).mono ?_; rintro e w1 ⟨rfl, rfl⟩)
    go_ret
    exact ⟨bend HR.out, rfl⟩
  · have HR : Hid (false = wordB (bs s)) := by rw [Hid, HW.out, decide_eq_false h]; rfl
    go_enter Try.func20, Try.ntmps20
    go_wp2
    go_ret
    exact ⟨bend HR.out, rfl⟩
end Go.Proofs.Ytkemcmeagnggeaa
/- Layer 3: contracts: Within, Counts. -/
namespace Go.Proofs.Ytkemcmeagnggeaa
open Go.RowKit
set_option linter.unusedVariables false

/-- What Within has after k letters of u: the positions, and where it is in w. -/
def withinTo (u w : List Int) : Nat → Option (List Int × Nat)
  | 0 => some ([], 0)
  | k + 1 => match withinTo u w k with
    | none => none
    | some p => if nextF w p.2 (u[k]?.getD 0) < 0 then none else some (p.1 ++ [nextF w p.2 (u[k]?.getD 0) - 1], (nextF w p.2 (u[k]?.getD 0)).toNat)
def withinF (u w : List Int) : Option (List Int) := (withinTo u w u.length).map Prod.fst
theorem withinTo_none {u w : List Int} {k j : Nat} (h : k ≤ j) (hn : withinTo u w k = none) : withinTo u w j = none := by
  induction j with
  | zero => rw [show k = 0 from by omega] at hn; exact hn
  | succ j ih =>
    by_cases e : k = j + 1
    · rw [← e]; exact hn
    · rw [withinTo, ih (by omega)]
theorem withinTo_len {u w : List Int} {k : Nat} {p : List Int × Nat} (h : withinTo u w k = some p) : p.1.length = k ∧ p.2 ≤ w.length := by
  induction k generalizing p with
  | zero => rw [withinTo] at h; injection h with h; subst h; exact ⟨rfl, Nat.zero_le _⟩
  | succ k ih =>
    rw [withinTo] at h
    split at h
    · cases h
    · rename_i q hq
      split at h
      · cases h
      · rename_i hr
        injection h with h
        subst h
        have h1 := ih hq
        have h2 := nextF_rng w q.2 (u[k]?.getD 0)
        refine ⟨by simp [h1.1], ?_⟩
        show (nextF w q.2 (u[k]?.getD 0)).toNat ≤ w.length
        omega

set_option maxHeartbeats 800000 in
theorem within_any (u s : ByteArray) (w : World) (hu : u.size ≤ 1000000) (hs : s.size ≤ 1000000) :
    Calls Try.prog 23 #[.string u, .string s] w fun e w' => ∃ v, e = .returned (.tuple #[v, .bool (withinF (bs u) (bs s)).isSome]) ∧ Ow w' w.heap.size 3 v ((withinF (bs u) (bs s)).getD []) ∧ Below w.heap.size w w' := by
  obtain ⟨i0, hi, hz0, hz1, hz2⟩ := info_parts Try.infoInt
  have HI : Hid (Try.prog.info? 3 = some i0 ∧ i0.zero = some (.int .i64 0) ∧ i0.size = 1 ∧ i0.bytes = 8) := ⟨hi, hz0, hz1, hz2⟩
  clear hi hz0 hz1 hz2
  have HBL := Lib.hid (bs_len u)
  have HSL := Lib.hid (bs_len s)
  go_enter Try.func23, Try.ntmps23
  go_wp2
  go_loopw [6, 7, 8] (fun v a i w' => ∃ (k : Nat) (p : List Int × Nat), k ≤ u.size ∧ i = .int .i64 (k : Int) ∧ a = .int .i64 (p.2 : Int) ∧ Hid (withinTo (bs u) (bs s) k = some p) ∧ Hid (Ow w' w.heap.size 3 v p.1) ∧ Below w.heap.size w w') (fun _ _ i _ => u.size - (intOf i).toNat)
  case atStart => exact ⟨0, ([], 0), by omega, by go_num, rfl, rfl, Ow.nil _ _ _, Below.refl _ _⟩
  case round =>
    obtain ⟨k, ⟨l, a⟩, hk, rfl, rfl, HW, HO, hW⟩ := hrel
    have hsz := hW.size
    have hlen := withinTo_len HW.out
    dsimp only at hlen HO
    by_cases hlt : k < u.size
    · have HB := Lib.hid (bs_at u k hlt)
      have ha : a ≤ s.size := by have := hlen.2; rw [HSL.out] at this; exact this
      have HN := Lib.hid (fun W => next_any s a (u[k].toNat : Int) W (by omega) (by omega))
      have hr := nextF_rng (bs s) a (u[k].toNat : Int)
      have HST : Hid (withinTo (bs u) (bs s) (k + 1) = if nextF (bs s) a (u[k].toNat : Int) < 0 then none else some (l ++ [nextF (bs s) a (u[k].toNat : Int) - 1], (nextF (bs s) a (u[k].toNat : Int)).toNat)) := by
        rw [Hid, withinTo, HW.out, HB.out]
      rw [HSL.out] at hr
      obtain ⟨r, hre⟩ : ∃ r, r = nextF (bs s) a (u[k].toNat : Int) := ⟨_, rfl⟩
      rw [← hre] at HN HST hr
      clear hre
      have HLL : Hid (l.length ≤ 1099511627776) := by rw [Hid]; omega
      by_cases hneg : r < 0
      · have HF : Hid (withinF (bs u) (bs s) = none) := by
          unfold withinF
          rw [Hid, withinTo_none (k := k + 1) (by rw [HBL.out]; omega) (by rw [HST.out, if_pos hneg])]; rfl
        go_wp2_with (go_at_call 54; refine (HN.out _).mono ?_; rintro e w1 ⟨rfl, rfl⟩)
        go_ret2
        exact ⟨_, by rw [HF.out]; rfl, by rw [HF.out]; exact Ow.nil _ _ _, hW⟩
      · have HS2 : Hid (withinTo (bs u) (bs s) (k + 1) = some (l ++ [r - 1], r.toNat)) := by rw [Hid, HST.out, if_neg hneg]
        go_wp2_with (first | (go_at_call 54; refine (HN.out _).mono ?_; rintro e w1 ⟨rfl, rfl⟩) | (at_builtin; go_must (refine push_law _ rfl (.tmp 23) (.tmp 26) 23 rfl w.heap.size 3 i0 Try.underlying23 HI.out _ l (r - 1) rfl rfl HO.out HLL.out hsz ?_); intro v2 w2 hv2 hg2 hat2; clear hat2; have HV2 := Lib.hid hv2; clear hv2; have HG2 := Lib.hid hg2; clear hg2))
        go_roundw
        case rel => exact ⟨k + 1, (l ++ [r - 1], r.toNat), by omega, by go_num, (by show Value.int _ _ = Value.int _ ((r.toNat : Nat) : Int); rw [Int.toNat_of_nonneg (by omega)]), HS2, HV2, hW.grown HG2.out hsz (fun j e => (HO.out.lt e).1)⟩
        case measure => simp [intOf]; omega
    · obtain rfl : k = u.size := by omega
      have HF : Hid (withinF (bs u) (bs s) = some l) := by
        unfold withinF
        rw [Hid, HBL.out, HW.out]; rfl
      go_wp2
      go_ret2
      exact ⟨_, by rw [HF.out]; rfl, by rw [HF.out]; exact HO.out, hW⟩
end Go.Proofs.Ytkemcmeagnggeaa
