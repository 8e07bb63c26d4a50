import Derived.Test.YtfeohcknopdamaaT28
import Derived.Test.YtfeohcknopdamaaT32
import Derived.Test.YtfeohcknopdamaaT37
/- Layer 10: lists of lists that a law owns; item, kind by kind. -/
namespace Go.Proofs.Ytfeohcknopdamaa
open Go.RowKit
set_option linter.unusedVariables false

/-- The call owns the slice v of slices. -/
def Owv (w : World) (B : Nat) (v : Value) (vs : List Value) : Prop := w.ownsRow B 22 1 v vs.length vs
theorem Try.infoRowS : (Try.prog.info? 22).map (fun i => (i.zero, i.size, i.bytes)) = some (some (.slice none 0 0), 1, 24) := by kernel_rfl
theorem pushv_law {P : Program} (w : World) {ops : Array Oper} {rest : List Oper} {o : Oper} {a : Act} {Q : Exit → Act → World → Prop} (hgd : o.guard = none) (s x : Operand) (t : TypeId)
    (ho : o.op = .call { callee := .builtin .append, args := #[s, x], argTypes := #[t, t] })
    (B : Nat) (i : TypeInfo) (ht : P.underlying t = some (.slice 22)) (hI : P.info? 22 = some i ∧ i.zero = some (.slice none 0 0) ∧ i.size = 1 ∧ i.bytes = 24)
    (v : Value) (vs : List Value) (A : Option Addr) (n c : Nat) (hs : a.eval s = v) (hx : a.eval x = .slice (some ⟨w.heap.size, 0, none⟩) 1 1) (hown : Owv w B v vs) (hn : vs.length ≤ 1000000) (hB : B ≤ w.heap.size)
    (h : ∀ v' w', Owv w' B v' (vs ++ [.slice A n c]) → w.grownBy w' v.ownBlock → wpList P ops Q rest (a.put o.dst v') w') :
    wpList P ops Q (o :: rest) a (w.alloc (.cells #[.slice A n c] 22)) := by
  obtain ⟨h1, h2, h3, h4⟩ := hI
  refine wpList_append_own_at _ hgd s x t ho B 22 i _ 1 24 ht h1 h2 h3 h4 rfl (by decide) v vs.length vs hs (hown.alloc _) ⟨w.heap.size, 0, none⟩ 1 1 [.slice A n c] hx rfl ?_ ?_ (by unfold maxLen; omega) (by omega) (by simp; omega) ?_
  · intro j u hu
    match j, hu with
    | 0, hu => simp at hu; subst hu; simp [Addr.add]
  · intro u hu
    simp at hu
    subst hu
    rfl
  · intro v' w' ho' hg' _ hat
    refine h v' w' ?_ (grown_alloc hg')
    unfold Owv
    rw [List.length_append]
    exact ho'
theorem own_ty {V : World} {B : Nat} {t : TypeId} {size n : Nat} {v : Value} {xs : List Value} (h : V.ownsRow B t size v n xs) {k : Nat} (hk : v.ownBlock = some k) : ∃ cur, V.heap[k]? = some (.cells cur t (0, 0)) := by
  rcases h.2 with ⟨e, _⟩ | ⟨g, cap, cur, e1, e2, e3, _⟩
  · rw [e] at hk; cases hk
  · rw [e1] at hk
    have hk := Option.some.inj hk
    subst hk
    exact ⟨cur, e3⟩
theorem own_same {V V' : World} {B : Nat} {t : TypeId} {size n : Nat} {v : Value} {xs : List Value} (h : V.ownsRow B t size v n xs) (hk : ∀ k cur, V.heap[k]? = some (.cells cur t (0, 0)) → v.ownBlock = some k → V'.heap[k]? = V.heap[k]?) : V'.ownsRow B t size v n xs := by
  refine ⟨h.1, ?_⟩
  rcases h.2 with h1 | ⟨g, cap, cur, e1, e2, e3, e4⟩
  · exact .inl h1
  · exact .inr ⟨g, cap, cur, e1, e2, (hk g cur e3 (by rw [e1]; rfl)).trans e3, e4⟩
theorem ty_ne {V : World} {j k : Nat} {c1 c2 : Array Value} {t1 t2 : TypeId} {f1 f2 : Nat × Nat} (h1 : V.heap[j]? = some (.cells c1 t1 f1)) (h2 : V.heap[k]? = some (.cells c2 t2 f2)) (h : t1 ≠ t2) : j ≠ k := fun e => by
  subst e
  rw [h1] at h2
  injection h2 with h2
  injection h2 with _ h2 _
  exact h h2
theorem Owv.form {V : World} {B : Nat} {v : Value} {vs : List Value} (h : Owv V B v vs) : ∃ A c, v = .slice A vs.length c := by
  rcases h.2 with ⟨h0, h1⟩ | ⟨g, cap, cur, h1, _⟩
  · have : vs.length = 0 := by omega
    exact ⟨none, 0, by rw [h0, this]⟩
  · exact ⟨_, _, h1⟩
theorem Owv.below {w w' : World} {B b : Nat} {v : Value} {vs : List Value} (h : Owv w B v vs) (hb : Below b w w') (hs : w.heap.size ≤ b) : Owv w' B v vs := own_same h fun k cur e _ => hb.block k (by have := (Array.getElem?_eq_some_iff.1 e).1; omega)
theorem Owv.at_ {V : World} {B n c : Nat} {A : Option Addr} {vs : List Value} (h : Owv V B (.slice A n c) vs) {j : Nat} {u : Value} (hj : vs[j]? = some u) : ∃ g, A = some ⟨g, 0, none⟩ ∧ V.cell? ⟨g, j, none⟩ = some u := by
  have hk : j < vs.length := (List.getElem?_eq_some_iff.1 hj).1
  have h' : V.ownsRow B 22 1 (.slice A n c) vs.length vs := h
  rcases h.2 with ⟨_, h1⟩ | ⟨g, cap, cur, h1, h2, h3, h4⟩
  · omega
  · injection h1 with h1 h5 h6
    subst h1 h5 h6
    exact ⟨g, rfl, (World.ownsRow.cellAt h' j (by omega)).trans hj⟩
theorem Ow.byv {w w' : World} {B B2 : Nat} {v u : Value} {zs : List Int} {vs : List Value} (h : Ow w B 3 v zs) (hu : Owv w B2 u vs) (hg : w.grownBy w' u.ownBlock) : Ow w' B 3 v zs :=
  own_same h fun k cur e _ => hg.block k (Array.getElem?_eq_some_iff.1 e).1 (fun e2 => by
    obtain ⟨c2, h2⟩ := own_ty hu e2.symm
    exact ty_ne e h2 (by decide) rfl)
/-- How long the sequence of a kind is, and what it holds. -/
def itL (N K : Nat) (ds : List Int) : Nat → Nat
  | 0 => 2 ^ N
  | 1 => chs N K
  | 2 => fac N
  | 3 => wy N 0
  | _ + 4 => prodL ds
def itI (N K : Nat) (ds : List Int) : Nat → Nat → List Int
  | 0, a => pL expL N N a
  | 1, a => pL chs N K a
  | 2, a => oN N a
  | 3, a => gF N 0 a
  | _ + 4, a => setF ds a
theorem it_inj (N K : Nat) (ds : List Int) (hd : allD ds = true) : ∀ κ a b, a < itL N K ds κ → b < itL N K ds κ → itI N K ds κ a = itI N K ds κ b → a = b
  | 0, a, b, ha, hb, h => (set_back N N a ha).symm.trans ((congrArg (fun z => plF expL z z.length) h).trans (set_back N N b hb))
  | 1, a, b, ha, hb, h => (choice_back N K a ha).2.symm.trans ((congrArg (fun z => plF chs z K) h).trans (choice_back N K b hb).2)
  | 2, a, b, ha, hb, h => (rkO_oN N a ha).symm.trans ((congrArg (fun z => rkO N z) h).trans (rkO_oN N b hb))
  | 3, a, b, ha, hb, h => (gP_gF N 0 a ha).symm.trans ((congrArg (fun z => gP 0 z) h).trans (gP_gF N 0 b hb))
  | _ + 4, a, b, ha, hb, h => (stP_setF ds a hd ha).symm.trans ((congrArg (fun z => stP ds z) h).trans (stP_setF ds b hd hb))
theorem it_len (N K : Nat) (ds : List Int) (hN : N ≤ 5) (hl : ds.length ≤ 4) : ∀ κ a, (itI N K ds κ a).length ≤ 5
  | 0, a => Nat.le_trans (pL_len expL N N a) hN
  | 1, a => Nat.le_trans (pL_len chs N K a) hN
  | 2, a => by show (oN N a).length ≤ 5; rw [oN_len]; exact hN
  | 3, a => by show (gF N 0 a).length ≤ 5; rw [gF_len]; exact hN
  | _ + 4, a => by show (setF ds a).length ≤ 5; rw [setF_len]; omega
theorem it_le (N K : Nat) (ds : List Int) (hN : N ≤ 5) (hd : allD ds = true) (hl : ds.length ≤ 4) : ∀ κ, itL N K ds κ ≤ 10000
  | 0 => by
    show 2 ^ N ≤ 10000
    have : 2 ^ N ≤ 2 ^ 5 := Nat.pow_le_pow_right (by decide) hN
    omega
  | 1 => by
    show chs N K ≤ 10000
    have h1 := chs_le N K
    have : 2 ^ N ≤ 2 ^ 5 := Nat.pow_le_pow_right (by decide) hN
    omega
  | 2 => by
    show fac N ≤ 10000
    have : ∀ N, N ≤ 5 → fac N ≤ 10000 := by decide +kernel
    exact this N hN
  | 3 => by
    show wy N 0 ≤ 10000
    have : ∀ N, N ≤ 5 → wy N 0 ≤ 10000 := by decide +kernel
    exact this N hN
  | _ + 4 => by
    show prodL ds ≤ 10000
    have h := (prodL_pos hd ds.length 0 (by omega)).2
    rw [List.drop_zero] at h
    have : 10 ^ ds.length ≤ 10 ^ 4 := Nat.pow_le_pow_right (by decide) hl
    omega
theorem it_row (N K : Nat) (ds : List Int) : #[.int .i64 ((2 ^ N : Nat) : Int), .int .i64 ((chs N K : Nat) : Int), .int .i64 ((fac N : Nat) : Int), .int .i64 ((wy N 0 : Nat) : Int), .int .i64 ((prodL ds : Nat) : Int)] = rowV 5 (fun j => ((itL N K ds j : Nat) : Int)) := by
  rfl
theorem set_ow (N a : Nat) (V : World) (hN : N ≤ 40) (ha : a < 2 ^ N) : Calls Try.prog 17 #[.int .i64 (N : Int), .int .i64 (a : Int)] V fun e w' =>
    ∃ v x, e = .returned (.tuple #[v, .int .i64 x]) ∧ (x = 0 ∧ Ow w' V.heap.size 3 v (pL expL N N a)) ∧ Below V.heap.size V w' := by
  refine (setP_any N a V).mono ?_
  rintro e w' hh
  have h : (in40 (N : Int) && posB (a : Int) ((2 ^ (N : Int).toNat : Nat) : Int)) = true := by
    rw [Int.toNat_natCast, in40, posB, decide_eq_true (by omega), decide_eq_true (by omega), decide_eq_true (by omega), decide_eq_true (by omega)]; rfl
  rw [if_pos h, Int.toNat_natCast, Int.toNat_natCast] at hh
  obtain ⟨⟨v, rfl, hv⟩, hb⟩ := hh
  exact ⟨v, 0, rfl, ⟨rfl, hv⟩, hb⟩
theorem set_end (N : Nat) (V : World) : Calls Try.prog 17 #[.int .i64 (N : Int), .int .i64 ((2 ^ N : Nat) : Int)] V fun e w' =>
    ∃ v x, e = .returned (.tuple #[v, .int .i64 x]) ∧ x = 2 ∧ Below V.heap.size V w' := by
  refine (setP_any N ((2 ^ N : Nat) : Int) V).mono ?_
  rintro e w' hh
  rw [Int.toNat_natCast, show posB ((2 ^ N : Nat) : Int) ((2 ^ N : Nat) : Int) = false from by rw [posB, decide_eq_false (p := ((2 ^ N : Nat) : Int) < ((2 ^ N : Nat) : Int)) (by omega), Bool.and_false], Bool.and_false, if_neg (by decide)] at hh
  obtain ⟨rfl, hb⟩ := hh
  exact ⟨_, 2, rfl, rfl, hb⟩
theorem choice_ow (N K a : Nat) (V : World) (hN : N ≤ 40) (hK : K ≤ N) (ha : a < chs N K) : Calls Try.prog 24 #[.int .i64 (N : Int), .int .i64 (K : Int), .int .i64 (a : Int)] V fun e w' =>
    ∃ v x, e = .returned (.tuple #[v, .int .i64 x]) ∧ (x = 0 ∧ Ow w' V.heap.size 3 v (pL chs N K a)) ∧ Below V.heap.size V w' := by
  refine (choiceP_any N K a V).mono ?_
  rintro e w' hh
  have h : ((in40 (N : Int) && upB (K : Int) (N : Int)) && posB (a : Int) ((chs (N : Int).toNat (K : Int).toNat : Nat) : Int)) = true := by
    rw [Int.toNat_natCast, Int.toNat_natCast, in40, upB, posB, decide_eq_true (by omega), decide_eq_true (by omega), decide_eq_true (by omega), decide_eq_true (by omega), decide_eq_true (by omega), decide_eq_true (by omega)]; rfl
  rw [if_pos h, Int.toNat_natCast, Int.toNat_natCast, Int.toNat_natCast] at hh
  obtain ⟨⟨v, rfl, hv⟩, hb⟩ := hh
  exact ⟨v, 0, rfl, ⟨rfl, hv⟩, hb⟩
theorem choice_end (N K : Nat) (V : World) : Calls Try.prog 24 #[.int .i64 (N : Int), .int .i64 (K : Int), .int .i64 ((chs N K : Nat) : Int)] V fun e w' =>
    ∃ v x, e = .returned (.tuple #[v, .int .i64 x]) ∧ x = 2 ∧ Below V.heap.size V w' := by
  refine (choice_bad N K ((chs N K : Nat) : Int) V ?_).mono ?_
  · rw [Int.toNat_natCast, Int.toNat_natCast, posB, decide_eq_false (p := ((chs N K : Nat) : Int) < ((chs N K : Nat) : Int)) (by omega), Bool.and_false, Bool.and_false]
  · rintro e w' ⟨rfl, hb⟩
    exact ⟨_, 2, rfl, rfl, hb⟩
theorem order_ow2 (N a : Nat) (V : World) (hN : N ≤ 18) (ha : a < fac N) : Calls Try.prog 30 #[.int .i64 (N : Int), .int .i64 (a : Int)] V fun e w' =>
    ∃ v x, e = .returned (.tuple #[v, .int .i64 x]) ∧ (x = 0 ∧ Ow w' V.heap.size 3 v (oN N a)) ∧ Below V.heap.size V w' := by
  refine (orderP_any N a V).mono ?_
  rintro e w' hh
  rw [Int.toNat_natCast, if_pos (by rw [in18, posB, decide_eq_true (by omega), decide_eq_true (by omega), decide_eq_true (by omega), decide_eq_true (by omega)]; rfl), Int.toNat_natCast] at hh
  obtain ⟨⟨v, rfl, hv⟩, hb⟩ := hh
  exact ⟨v, 0, rfl, ⟨rfl, hv⟩, hb⟩
theorem order_end (N : Nat) (V : World) : Calls Try.prog 30 #[.int .i64 (N : Int), .int .i64 ((fac N : Nat) : Int)] V fun e w' =>
    ∃ v x, e = .returned (.tuple #[v, .int .i64 x]) ∧ x = 2 ∧ Below V.heap.size V w' := by
  refine (order_bad N ((fac N : Nat) : Int) V ?_).mono ?_
  · rw [Int.toNat_natCast, posB, decide_eq_false (p := ((fac N : Nat) : Int) < ((fac N : Nat) : Int)) (by omega), Bool.and_false, Bool.and_false]
  · rintro e w' ⟨rfl, hb⟩
    exact ⟨_, 2, rfl, rfl, hb⟩
theorem grouping_ow (N a : Nat) (w : World) (hN : N ≤ 20) (ha : a < wy N 0) : Calls Try.prog 38 #[.int .i64 (N : Int), .int .i64 (a : Int)] w fun e w' =>
    ∃ v x, e = .returned (.tuple #[v, .int .i64 x]) ∧ (x = 0 ∧ Ow w' w.heap.size 3 v (gF N 0 a)) ∧ Below w.heap.size w w' := by
  have HG := Lib.hid (groupings_ok N w hN)
  have HP := Lib.hid (fun w => isPosition_any (a : Int) ((wy N 0 : Nat) : Int) w)
  rw [show (decide (0 ≤ (a : Int)) && decide ((a : Int) < ((wy N 0 : Nat) : Int))) = true from by rw [decide_eq_true (by omega), decide_eq_true (by omega)]; rfl] at HP
  have HI := Lib.hid (fun V => groupingIn_any N a V hN ha)
  clear ha
  generalize wy N 0 = q at *
  go_enter Try.func38, Try.ntmps38
  go_wp2_with (first | (go_at_call 40; (with_reducible refine HG.out.mono ?_); rintro e w1 ⟨rfl, hb⟩; have HB := Lib.hid hb; clear hb) | (go_at_call 56; (with_reducible refine (HP.out _).mono ?_); rintro e w1' ⟨rfl, rfl⟩) | (go_at_call 67; (with_reducible refine (HI.out _).mono ?_); rintro e w2 ⟨⟨v, rfl, hv⟩, hb⟩; have HV := Lib.hid (hv.base HB.out.size); have HB2 := Lib.hid (HB.out.trans (hb.mono HB.out.size)); clear hv hb))
  go_ret2
  exact ⟨_, 0, rfl, ⟨rfl, HV.out⟩, HB2.out⟩
theorem grouping_end (N : Nat) (V : World) : Calls Try.prog 38 #[.int .i64 (N : Int), .int .i64 ((wy N 0 : Nat) : Int)] V fun e w' =>
    ∃ v x, e = .returned (.tuple #[v, .int .i64 x]) ∧ x = 2 ∧ Below V.heap.size V w' := by
  refine (grouping_bad N ((wy N 0 : Nat) : Int) V ?_).mono ?_
  · rw [Int.toNat_natCast, posB, decide_eq_false (p := ((wy N 0 : Nat) : Int) < ((wy N 0 : Nat) : Int)) (by omega), Bool.and_false, Bool.and_false]
  · rintro e w' ⟨rfl, hb⟩
    exact ⟨_, 2, rfl, rfl, hb⟩
theorem setting_ow (zs : List Int) (a : Nat) (A : Option Addr) (n c : Nat) (w : World) (h : Sl w A n c zs) (h0 : sizesB zs = true) (ha : a < prodL zs) : Calls Try.prog 45 #[.slice A n c, .int .i64 (a : Int)] w fun e w' =>
    ∃ v x, e = .returned (.tuple #[v, .int .i64 x]) ∧ (x = 0 ∧ Ow w' w.heap.size 3 v (setF zs a)) ∧ Below w.heap.size w w' := by
  refine (settingP_any zs a A n c w h).mono ?_
  rintro e w' hh
  rw [if_pos (by rw [h0, posB, decide_eq_true (by omega), decide_eq_true (by omega)]; rfl), Int.toNat_natCast] at hh
  obtain ⟨⟨v, rfl, hv⟩, hb⟩ := hh
  exact ⟨v, 0, rfl, ⟨rfl, hv⟩, hb⟩
theorem setting_end (zs : List Int) (A : Option Addr) (n c : Nat) (w : World) (h : Sl w A n c zs) : Calls Try.prog 45 #[.slice A n c, .int .i64 ((prodL zs : Nat) : Int)] w fun e w' =>
    ∃ v x, e = .returned (.tuple #[v, .int .i64 x]) ∧ x = 2 ∧ Below w.heap.size w w' := by
  refine (setting_bad zs ((prodL zs : Nat) : Int) A n c w h ?_).mono ?_
  · rw [posB, decide_eq_false (p := ((prodL zs : Nat) : Int) < ((prodL zs : Nat) : Int)) (by omega), Bool.and_false, Bool.and_false]
  · rintro e w' ⟨rfl, hb⟩
    exact ⟨_, 2, rfl, rfl, hb⟩
section
variable (n k a : Int) (A : Option Addr) (m c : Nat) (w : World) (p : World → Value → Int → Prop)
theorem item_0 (h : Calls Try.prog 17 #[.int .i64 n, .int .i64 a] w fun e w' => ∃ v x, e = .returned (.tuple #[v, .int .i64 x]) ∧ p w' v x) : Calls Try.prog 54 #[.int .i64 0, .int .i64 n, .int .i64 k, .slice A m c, .int .i64 a] w fun e w' => ∃ v x, e = .returned (.tuple #[v, .int .i64 x]) ∧ p w' v x := by
  have HC := Lib.hid h
  clear h
  go_enter Try.func54, Try.ntmps54
  go_wp2_with (go_at_call 17; (with_reducible refine HC.out.mono ?_); rintro e w1 ⟨v, x, rfl, hp⟩; have HP := Lib.hid hp; clear hp)
  go_ret2
  exact ⟨_, _, rfl, HP.out⟩
theorem item_1 (h : Calls Try.prog 24 #[.int .i64 n, .int .i64 k, .int .i64 a] w fun e w' => ∃ v x, e = .returned (.tuple #[v, .int .i64 x]) ∧ p w' v x) : Calls Try.prog 54 #[.int .i64 1, .int .i64 n, .int .i64 k, .slice A m c, .int .i64 a] w fun e w' => ∃ v x, e = .returned (.tuple #[v, .int .i64 x]) ∧ p w' v x := by
  have HC := Lib.hid h
  clear h
  go_enter Try.func54, Try.ntmps54
  go_wp2_with (go_at_call 24; (with_reducible refine HC.out.mono ?_); rintro e w1 ⟨v, x, rfl, hp⟩; have HP := Lib.hid hp; clear hp)
  go_ret2
  exact ⟨_, _, rfl, HP.out⟩
theorem item_2 (h : Calls Try.prog 30 #[.int .i64 n, .int .i64 a] w fun e w' => ∃ v x, e = .returned (.tuple #[v, .int .i64 x]) ∧ p w' v x) : Calls Try.prog 54 #[.int .i64 2, .int .i64 n, .int .i64 k, .slice A m c, .int .i64 a] w fun e w' => ∃ v x, e = .returned (.tuple #[v, .int .i64 x]) ∧ p w' v x := by
  have HC := Lib.hid h
  clear h
  go_enter Try.func54, Try.ntmps54
  go_wp2_with (go_at_call 30; (with_reducible refine HC.out.mono ?_); rintro e w1 ⟨v, x, rfl, hp⟩; have HP := Lib.hid hp; clear hp)
  go_ret2
  exact ⟨_, _, rfl, HP.out⟩
theorem item_3 (h : Calls Try.prog 38 #[.int .i64 n, .int .i64 a] w fun e w' => ∃ v x, e = .returned (.tuple #[v, .int .i64 x]) ∧ p w' v x) : Calls Try.prog 54 #[.int .i64 3, .int .i64 n, .int .i64 k, .slice A m c, .int .i64 a] w fun e w' => ∃ v x, e = .returned (.tuple #[v, .int .i64 x]) ∧ p w' v x := by
  have HC := Lib.hid h
  clear h
  go_enter Try.func54, Try.ntmps54
  go_wp2_with (go_at_call 38; (with_reducible refine HC.out.mono ?_); rintro e w1 ⟨v, x, rfl, hp⟩; have HP := Lib.hid hp; clear hp)
  go_ret2
  exact ⟨_, _, rfl, HP.out⟩
theorem item_4 (h : Calls Try.prog 45 #[.slice A m c, .int .i64 a] w fun e w' => ∃ v x, e = .returned (.tuple #[v, .int .i64 x]) ∧ p w' v x) : Calls Try.prog 54 #[.int .i64 4, .int .i64 n, .int .i64 k, .slice A m c, .int .i64 a] w fun e w' => ∃ v x, e = .returned (.tuple #[v, .int .i64 x]) ∧ p w' v x := by
  have HC := Lib.hid h
  clear h
  go_enter Try.func54, Try.ntmps54
  go_wp2_with (go_at_call 45; (with_reducible refine HC.out.mono ?_); rintro e w1 ⟨v, x, rfl, hp⟩; have HP := Lib.hid hp; clear hp)
  go_ret2
  exact ⟨_, _, rfl, HP.out⟩
end
theorem item_ok (N K κ a : Nat) (ds : List Int) (A : Option Addr) (n c : Nat) (w : World) (hs : Sl w A n c ds) (hN : N ≤ 5) (hK : K ≤ N) (h0 : sizesB ds = true) (hκ : κ < 5) (ha : a < itL N K ds κ) :
    Calls Try.prog 54 #[.int .i64 (κ : Int), .int .i64 (N : Int), .int .i64 (K : Int), .slice A n c, .int .i64 (a : Int)] w fun e w' => ∃ v x, e = .returned (.tuple #[v, .int .i64 x]) ∧ (x = 0 ∧ Ow w' w.heap.size 3 v (itI N K ds κ a)) ∧ Below w.heap.size w w' := by
  match κ, hκ, ha with
  | 0, _, ha => exact item_0 N K a A n c w (fun w' v x => (x = 0 ∧ Ow w' w.heap.size 3 v (pL expL N N a)) ∧ Below w.heap.size w w') (set_ow N a w (by omega) ha)
  | 1, _, ha => exact item_1 N K a A n c w (fun w' v x => (x = 0 ∧ Ow w' w.heap.size 3 v (pL chs N K a)) ∧ Below w.heap.size w w') (choice_ow N K a w (by omega) hK ha)
  | 2, _, ha => exact item_2 N K a A n c w (fun w' v x => (x = 0 ∧ Ow w' w.heap.size 3 v (oN N a)) ∧ Below w.heap.size w w') (order_ow2 N a w (by omega) ha)
  | 3, _, ha => exact item_3 N K a A n c w (fun w' v x => (x = 0 ∧ Ow w' w.heap.size 3 v (gF N 0 a)) ∧ Below w.heap.size w w') (grouping_ow N a w (by omega) ha)
  | 4, _, ha => exact item_4 N K a A n c w (fun w' v x => (x = 0 ∧ Ow w' w.heap.size 3 v (setF ds a)) ∧ Below w.heap.size w w') (setting_ow ds a A n c w hs h0 ha)
theorem item_end (N K κ : Nat) (ds : List Int) (A : Option Addr) (n c : Nat) (w : World) (hs : Sl w A n c ds) (hκ : κ < 5) :
    Calls Try.prog 54 #[.int .i64 (κ : Int), .int .i64 (N : Int), .int .i64 (K : Int), .slice A n c, .int .i64 ((itL N K ds κ : Nat) : Int)] w fun e w' => ∃ v x, e = .returned (.tuple #[v, .int .i64 x]) ∧ x = 2 ∧ Below w.heap.size w w' := by
  match κ, hκ with
  | 0, _ => exact item_0 N K _ A n c w (fun w' v x => x = 2 ∧ Below w.heap.size w w') (set_end N w)
  | 1, _ => exact item_1 N K _ A n c w (fun w' v x => x = 2 ∧ Below w.heap.size w w') (choice_end N K w)
  | 2, _ => exact item_2 N K _ A n c w (fun w' v x => x = 2 ∧ Below w.heap.size w w') (order_end N w)
  | 3, _ => exact item_3 N K _ A n c w (fun w' v x => x = 2 ∧ Below w.heap.size w w') (grouping_end N w)
  | 4, _ => exact item_4 N K _ A n c w (fun w' v x => x = 2 ∧ Below w.heap.size w w') (setting_end ds A n c w hs)
end Go.Proofs.Ytfeohcknopdamaa
