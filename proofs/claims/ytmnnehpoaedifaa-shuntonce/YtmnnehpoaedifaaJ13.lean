import Derived.Test.YtmnnehpoaedifaaJ12
import Derived.Test.YtmnnehpoaedifaaJ11
import Derived.Laws.BytesArg
import Derived.Test.YtmnnehpoaedifaaJ10
import Derived.WalkSpells
/- Contracts of package shunt: the pile behind a pointer: top, pop, push. -/
namespace Go.Proofs.Ytmnnehpoaedifaa
open Go.RowKit

/-- From w to w' only blocks of T may have turned, of those that w had. -/
structure Tn (w w' : World) (T : Nat → Prop) : Prop where
  os : w'.os = w.os
  tape : w'.tape = w.tape
  output : w'.output = w.output
  size : w.heap.size ≤ w'.heap.size
  block : ∀ k, k < w.heap.size → ¬ T k → w'.heap[k]? = w.heap[k]?
theorem Tn.refl (w : World) (T : Nat → Prop) : Tn w w T := ⟨rfl, rfl, rfl, Nat.le_refl _, fun _ _ _ => rfl⟩
theorem Tn.trans {a b c : World} {T U V : Nat → Prop} (h : Tn a b T) (k : Tn b c U) (hT : ∀ i, i < a.heap.size → T i → V i) (hU : ∀ i, i < a.heap.size → U i → V i) : Tn a c V :=
  ⟨k.os.trans h.os, k.tape.trans h.tape, k.output.trans h.output, Nat.le_trans h.size k.size, fun i hi hV =>
    (k.block i (Nat.lt_of_lt_of_le hi h.size) (fun hu => hV (hU i hi hu))).trans (h.block i hi (fun ht => hV (hT i hi ht)))⟩
theorem Tn.mono {a b : World} {T U : Nat → Prop} (h : Tn a b T) (hT : ∀ i, i < a.heap.size → T i → U i) : Tn a b U := ⟨h.os, h.tape, h.output, h.size, fun i hi hU => h.block i hi (fun ht => hU (hT i hi ht))⟩
theorem Tn.of_dr {w w' : World} {T : Nat → Prop} (h : Dr w w') : Tn w w' T := by
  obtain ⟨n, rfl⟩ := h
  exact ⟨rfl, rfl, rfl, Nat.le_refl _, fun _ _ _ => rfl⟩
theorem Tn.of_below {w w' : World} {T : Nat → Prop} {B : Nat} (h : Below B w w') (hB : w.heap.size ≤ B) : Tn w w' T := ⟨h.os, h.tape, h.output, h.size, fun k hk _ => h.block k (by omega)⟩
theorem Tn.of_grown {w w' : World} {T : Nat → Prop} {r : Option Nat} (h : w.grownBy w' r) (hT : ∀ k, r = some k → T k) : Tn w w' T :=
  ⟨h.os, h.tape, h.output, h.size, fun k hk hn => h.block k hk (fun e => hn (hT k e.symm))⟩
theorem Tn.set {a w : World} {T : Nat → Prop} (h : Tn a w T) {p : Addr} (hp : p.block < a.heap.size → T p.block) (u : Value) : Tn a (w.setCell p u) T :=
  ⟨h.os, h.tape, h.output, by simpa [World.setCell] using h.size, fun k hk hn => by
    by_cases e : k = p.block
    · exact absurd (hp (by omega)) (by rw [← e]; exact hn)
    · have h2 : (w.setCell p u).heap[k]? = w.heap[k]? := (Below.refl (p.block) w |>.setCell (p := p) (Nat.le_refl _) u |> fun hb => if hk' : k < p.block then hb.block k hk' else by simp [World.setCell, Array.getElem?_modify]; omega)
      exact h2.trans (h.block k hk hn)⟩
theorem Tn.below {w w' : World} {T : Nat → Prop} {B : Nat} (h : Tn w w' T) (hT : ∀ k, T k → B ≤ k) (hB : B ≤ w.heap.size) : Below B w w' :=
  ⟨h.os, h.tape, h.output, h.size, fun k hk => h.block k (by omega) (fun ht => by have := hT k ht; omega)⟩
theorem Tn.cell {w w' : World} {T : Nat → Prop} (h : Tn w w' T) {p : Addr} {x : Value} (hx : w.cell? p = some x) (hn : ¬ T p.block) : w'.cell? p = some x :=
  (World.cell?_of_block (h.block p.block (World.block_lt_of_cell? w p hx) hn)).trans hx
theorem Tn.frozen {w w' : World} {T : Nat → Prop} (h : Tn w w' T) {p : Addr} (hl : p.block < w.heap.size) (hn : ¬ T p.block) : w'.frozen? p = w.frozen? p := World.frozen?_of_block (h.block p.block hl hn)
theorem rows_tn {w w' : World} {T : Nat → Prop} {B e s n : Nat} {v : Value} {xs : List Value} (h : w.ownsRow B e s v n xs) (k : Tn w w' T) (hn : ∀ b, v.ownBlock = some b → ¬ T b) : w'.ownsRow B e s v n xs := by
  refine ⟨h.1, ?_⟩
  rcases h.2 with h0 | ⟨g, cap, cur, rfl, hb, hgg, rest⟩
  · exact .inl h0
  · refine .inr ⟨g, cap, cur, rfl, hb, ?_, rest⟩
    rw [k.block g (Array.getElem?_eq_some_iff.1 hgg).1 (hn g rfl)]
    exact hgg
theorem Ow.tn {w w' : World} {T : Nat → Prop} {B e : Nat} {v : Value} {zs : List Int} (h : Ow w B e v zs) (k : Tn w w' T) (hn : ∀ b, v.ownBlock = some b → ¬ T b) : Ow w' B e v zs := rows_tn h k hn

/-- Block g holds a slice of ints that the call owns, in a block from B on: a pile, its top first. -/
structure Pile (w : World) (g B e : Nat) (v : Value) (r : List Int) : Prop where
  cell : w.cell? ⟨g, 0, none⟩ = some v
  free : w.frozen? ⟨g, 0, none⟩ = false
  own : Ow w B e v r.reverse
  low : g < B
  base : B ≤ w.heap.size
/-- What a pile's blocks are. -/
def PB (g : Nat) (v : Value) : Nat → Prop := fun k => k = g ∨ v.ownBlock = some k
theorem Pile.drewN {w : World} {g B e : Nat} {v : Value} {r : List Int} (h : Pile w g B e v r) (n : Nat) : Pile (w.drewN n) g B e v r := ⟨h.cell, h.free, h.own, h.low, h.base⟩
theorem Pile.glt {w : World} {g B e : Nat} {v : Value} {r : List Int} (h : Pile w g B e v r) : g < w.heap.size := Nat.lt_of_lt_of_le h.low h.base
theorem Pile.tn {w w' : World} {T : Nat → Prop} {g B e : Nat} {v : Value} {r : List Int} (h : Pile w g B e v r) (k : Tn w w' T) (hn : ∀ b, PB g v b → ¬ T b) : Pile w' g B e v r :=
  ⟨k.cell h.cell (hn g (.inl rfl)), (k.frozen (p := ⟨g, 0, none⟩) h.glt (hn g (.inl rfl))).trans h.free, h.own.tn k (fun b hb => hn b (.inr hb)), h.low, Nat.le_trans h.base k.size⟩
theorem Pile.val {w : World} {g B e : Nat} {v : Value} {r : List Int} (h : Pile w g B e v r) (hr : r.length ≤ 1099511627776) : ∃ A c, v = .slice A r.length c := by
  obtain ⟨A, c, hv, _⟩ := h.own.sl (by rw [List.length_reverse]; exact hr)
  rw [List.length_reverse] at hv
  exact ⟨A, c, hv⟩
theorem Pile.form {w : World} {g B e : Nat} {v : Value} {x : Int} {r : List Int} (h : Pile w g B e v (x :: r)) :
    ∃ b cap, v = .slice (some ⟨b, 0, none⟩) (r.length + 1) cap ∧ r.length + 1 ≤ cap ∧ B ≤ b ∧ b < w.heap.size ∧ w.cell? ⟨b, r.length, none⟩ = some (.int .i64 x) := by
  obtain ⟨b, cap, hv, hc, hb, hl, hcell⟩ := h.own.form (by simp)
  have hlen : (x :: r).reverse.length = r.length + 1 := by simp
  rw [hlen] at hv hc hcell
  have hx := hcell r.length (by omega)
  rw [last_rev] at hx
  exact ⟨b, cap, hv, hc, hb, hl, hx⟩

theorem top_nil {w : World} {g B e : Nat} {v : Value} (h : Pile w g B e v []) :
    Calls Try.prog 74 #[.pointer (some ⟨g, 0, none⟩)] w fun e w' => e = .returned (.tuple #[.int .i64 0, .bool false]) ∧ Dr w w' := by
  obtain ⟨A, c, rfl⟩ := h.val (by simp)
  have hc := h.cell
  have H := Lib.hid h; clear h
  go_enter Try.func74, Try.ntmps74
  go_wp2
  go_ret2
  exact ⟨rfl, Dr.refl _⟩
theorem top_cons {w : World} {g B e : Nat} {v : Value} {x : Int} {r : List Int} (h : Pile w g B e v (x :: r)) (hr : r.length ≤ 1000000) :
    Calls Try.prog 74 #[.pointer (some ⟨g, 0, none⟩)] w fun e w' => e = .returned (.tuple #[.int .i64 x, .bool true]) ∧ Dr w w' := by
  obtain ⟨b, cap, rfl, hcap, hb, hl, hx⟩ := h.form
  have hc := h.cell
  have H := Lib.hid h; clear h
  generalize r.length = m at *
  have g1 : ((m : Int) + 1 == 0) = false := by simp; omega
  go_enter Try.func74, Try.ntmps74
  go_wp2
  have ht0 : (0 : Int) ≤ (m : Int) := by omega
  have ht1 : (m : Int) < (m : Int) + 1 := by omega
  have hw1 : IntKind.i64.wrap (m : Int) = m := IntWalk.i64_in _ (by omega)
  go_quiet (fail)
  go_wp2
  go_ret2
  exact ⟨rfl, (Dr.refl _).more _⟩
theorem push_any {w : World} {g B : Nat} {v : Value} {r : List Int} (x : Int) (h : Pile w g B 3 v r) (hr : r.length ≤ 1000000) :
    Calls Try.prog 76 #[.pointer (some ⟨g, 0, none⟩), .int .i64 x] w fun e w' => e = .returned (.tuple #[]) ∧ ∃ v', Pile w' g B 3 v' (x :: r) ∧ Tn w w' (PB g v) ∧
      (v'.ownBlock = v.ownBlock ∨ ∃ b, v'.ownBlock = some b ∧ w.heap.size ≤ b) := by
  obtain ⟨A, c, hv⟩ := h.val (by omega)
  obtain ⟨i0, hi, hz0, hz1, hz2⟩ := info_parts Try.infoInt
  have HI : Hid (Try.prog.info? 3 = some i0 ∧ i0.zero = some (.int .i64 0) ∧ i0.size = 1 ∧ i0.bytes = 8) := ⟨hi, hz0, hz1, hz2⟩
  clear hi hz0 hz1 hz2
  have hc := h.cell
  have hgl := h.glt
  have hfz := h.free
  have hlow := h.low
  have hbase := h.base
  have hne : some g ≠ v.ownBlock := fun e => by have := (h.own.lt e.symm).1; omega
  have HO := Lib.hid h.own
  have HRL : Hid (r.reverse.length ≤ 1099511627776) := by rw [Hid, List.length_reverse]; omega
  clear h hr
  have HV := Lib.hid hv
  rw [hv] at hc
  clear hv
  generalize r.length = m at *
  go_enter Try.func76, Try.ntmps76
  go_wp2_with (at_builtin; go_must (refine push_law _ rfl (.tmp 7) (.tmp 9) 80 rfl B 3 i0 Try.underlying80 HI.out (.slice A m c) r.reverse x rfl rfl (by rw [← HV.out]; exact HO.out) HRL.out hbase ?_); intro u w1 hv1 hg1 hat1; obtain ⟨g1, cap1, hu, hu1⟩ := hv1.form (by simp); clear hu1; rw [List.length_append, List.length_reverse, List.length_singleton] at hu; subst hu; have hc1 := grown_cell hg1 hc (by rw [← HV.out]; exact hne); have hf1 := (grown_frozen (p := ⟨g, 0, none⟩) hg1 hgl (by rw [← HV.out]; exact hne)).trans hfz; have HV1 := Lib.hid hv1; clear hv1; have HG1 := Lib.hid hg1; clear hg1; have HAT := Lib.hid hat1; clear hat1)
  go_end0
  have hP : Pile (w1.setCell ⟨g, 0, none⟩ (.slice (some ⟨g1, 0, none⟩) (r.length + 1) cap1)) g B 3 (.slice (some ⟨g1, 0, none⟩) (r.length + 1) cap1) (x :: r) :=
    ⟨World.cell?_setCell_same' _ _ _ (by rw [hc1]; rfl), by rw [World.frozen?_setCell]; exact hf1, by rw [List.reverse_cons]; exact HV1.out.setBelow hlow _, hlow, by simpa [World.setCell] using Nat.le_trans hbase HG1.out.size⟩
  refine ⟨rfl, _, hP, ?_, ?_⟩
  · refine (Tn.of_grown HG1.out fun k e => .inr ?_).set (fun _ => .inl rfl) _
    rw [HV.out]; exact e
  · rw [HV.out]; exact HAT.out
theorem pop_nil {w : World} {g B e : Nat} {v : Value} (h : Pile w g B e v []) :
    Calls Try.prog 75 #[.pointer (some ⟨g, 0, none⟩)] w fun e w' => e = .returned (.tuple #[.int .i64 0, .bool false]) ∧ Dr w w' := by
  have H := Lib.hid h; clear h
  go_enter Try.func75, Try.ntmps75
  go_wp2_with (go_at_call 74; go_must (refine (top_nil H.out).mono ?_); rintro e w1 ⟨rfl, hd⟩)
  go_ret2
  exact ⟨rfl, hd⟩
theorem pop_cons {w : World} {g B e : Nat} {v : Value} {x : Int} {r : List Int} (h : Pile w g B e v (x :: r)) (hr : r.length ≤ 1000000) :
    Calls Try.prog 75 #[.pointer (some ⟨g, 0, none⟩)] w fun e' w' => e' = .returned (.tuple #[.int .i64 x, .bool true]) ∧ ∃ v', Pile w' g B e v' r ∧ Tn w w' (fun k => k = g) ∧ v'.ownBlock = v.ownBlock := by
  obtain ⟨b, cap, rfl, hcap, hb, hl, hx⟩ := h.form
  have H := Lib.hid h; clear h
  have HRR : Hid (r.length ≤ 1000000) := hr
  obtain ⟨m, hm⟩ : ∃ m, m = r.length := ⟨_, rfl⟩
  rw [← hm] at H hcap hx hr
  rw [← hm]
  have HM := Lib.hid hm; clear hm
  go_enter Try.func75, Try.ntmps75
  go_wp2_with (go_at_call 74; go_must (refine (top_cons H.out HRR.out).mono ?_); rintro e w1 ⟨rfl, hd⟩; have hc := (hd.cell _).trans H.out.cell; have hf := (World.frozen?_of_block (a := ⟨g, 0, none⟩) (by obtain ⟨q, rfl⟩ := hd; rfl) : w1.frozen? ⟨g, 0, none⟩ = w.frozen? ⟨g, 0, none⟩).trans H.out.free)
  have hw1 : IntKind.i64.wrap (m : Int) = m := IntWalk.i64_in _ (by omega)
  have hs0 : (0 : Int) ≤ (m : Int) := by omega
  have hs1 : (m : Int) ≤ (cap : Int) := by omega
  go_region
  go_wp2
  go_ret2
  have ho := H.out.own
  rw [List.reverse_cons] at ho
  have hp := (ho.tn (Tn.of_dr (T := fun _ => False) hd) (fun _ _ h => h)).pop (by rw [List.length_reverse, HM.out])
  rw [List.length_reverse, ← HM.out] at hp
  have hP : Pile (w1.setCell ⟨g, 0, none⟩ (.slice (some ⟨b, 0, none⟩) m cap)) g B e (.slice (some ⟨b, 0, none⟩) m cap) r :=
    ⟨World.cell?_setCell_same' _ _ _ (by rw [hc]; rfl), by rw [World.frozen?_setCell]; exact hf, hp.setBelow H.out.low _, H.out.low, by obtain ⟨q, rfl⟩ := hd; simpa [World.setCell] using H.out.base⟩
  have hT := (Tn.of_dr (T := fun k => k = g) hd).set (p := ⟨g, 0, none⟩) (fun _ => rfl) (.slice (some ⟨b, 0, none⟩) m cap)
  exact ⟨rfl, _, ⟨hP.cell, hP.free, hP.own, hP.low, hP.base⟩, ⟨hT.os, hT.tape, hT.output, hT.size, hT.block⟩, rfl⟩
end Go.Proofs.Ytmnnehpoaedifaa
/- Contract of package shunt: eagerPlan. -/
namespace Go.Proofs.Ytmnnehpoaedifaa
open Go.RowKit

theorem Try.infoByte : (Try.prog.info? 5).map (fun i => (i.zero, i.size, i.bytes)) = some (some (.int .u8 0), 1, 1) := by kernel_rfl

abbrev bytesV (p : List UInt8) : List Value := p.map fun b => .int .u8 (b.toNat : Int)
/-- The call owns the slice v of the bytes p. -/
def Owb (w : World) (B e : Nat) (v : Value) (p : List UInt8) : Prop := w.ownsRow B e 1 v p.length (bytesV p)
theorem Owb.nil (w : World) (B e : Nat) : Owb w B e (.slice none 0 0) [] := World.ownsRow_nil _ _ _ _
theorem Owb.lt {w : World} {B e : Nat} {v : Value} {p : List UInt8} (h : Owb w B e v p) {k : Nat} (hk : v.ownBlock = some k) : B ≤ k ∧ k < w.heap.size := World.ownsRow.lt h k hk
theorem Owb.tn {w w' : World} {T : Nat → Prop} {B e : Nat} {v : Value} {p : List UInt8} (h : Owb w B e v p) (k : Tn w w' T) (hn : ∀ b, v.ownBlock = some b → ¬ T b) : Owb w' B e v p := rows_tn h k hn
theorem Owb.drewN {w : World} {B e : Nat} {v : Value} {p : List UInt8} (h : Owb w B e v p) (n : Nat) : Owb (w.drewN n) B e v p := h
theorem Apart.new {w : World} {v v' u : Value} (h : Apart v u) (hu : ∀ b, u.ownBlock = some b → b < w.heap.size) (hat : v'.ownBlock = v.ownBlock ∨ ∃ g, v'.ownBlock = some g ∧ w.heap.size ≤ g) : Apart v' u := by
  unfold Apart at *
  rcases hat with e1 | ⟨g, e1, hg⟩
  · rw [e1]; exact h
  · right
    rw [e1]
    intro e2
    have := hu g e2.symm
    omega
theorem Apart.not {v u : Value} (h : Apart v u) {b : Nat} (hv : v.ownBlock = some b) : ¬ u.ownBlock = some b := by
  unfold Apart at h
  rcases h with h | h
  · rw [h] at hv; cases hv
  · intro hu; exact h (by rw [hv, hu])
theorem pushb_law {P : Program} (w : World) {ops : Array Oper} {rest : List Oper} {o : Oper} {a : Act} {Q : Exit → Act → World → Prop} (hgd : o.guard = none) (s x : Operand) (t : TypeId)
    (ho : o.op = .call { callee := .builtin .append, args := #[s, x], argTypes := #[t, t] })
    (B : Nat) (e : TypeId) (i : TypeInfo) (ht : P.underlying t = some (.slice e)) (hI : P.info? e = some i ∧ i.zero = some (.int .u8 0) ∧ i.size = 1 ∧ i.bytes = 1)
    (v : Value) (zs : List UInt8) (z : UInt8) (hs : a.eval s = v) (hx : a.eval x = .slice (some ⟨w.heap.size, 0, none⟩) 1 1) (hown : Owb w B e v zs) (hn : zs.length ≤ 1099511627776) (hB : B ≤ w.heap.size)
    (h : ∀ v' w', Owb w' B e v' (zs ++ [z]) → w.grownBy w' v.ownBlock → (v'.ownBlock = v.ownBlock ∨ ∃ g, v'.ownBlock = some g ∧ w.heap.size ≤ g) → wpList P ops Q rest (a.put o.dst v') w') :
    wpList P ops Q (o :: rest) a (w.alloc (.cells #[.int .u8 (z.toNat : Int)] e)) := by
  obtain ⟨h1, h2, h3, h4⟩ := hI
  have hown' : (w.alloc (.cells #[.int .u8 (z.toNat : Int)] e)).ownsRow B e 1 v zs.length (bytesV zs) := World.ownsRow.alloc hown _
  refine wpList_append_own_at _ hgd s x t ho B e i _ 1 1 ht h1 h2 h3 h4 rfl (by decide) v zs.length (bytesV zs) hs hown' ⟨w.heap.size, 0, none⟩ 1 1 [.int .u8 (z.toNat : Int)] hx rfl ?_ ?_ (by unfold maxLen; omega) (by omega) (by simp; omega) ?_
  · intro j u hu
    match j, hu with
    | 0, hu =>
      simp at hu; subst hu
      simp [Addr.add]
  · intro u hu
    simp at hu; subst hu; rfl
  · intro v' w' ho' hg' _ hat
    refine h v' w' (by unfold Owb; simpa [bytesV] using ho') (grown_alloc hg') ?_
    rcases hat with e1 | e1
    · exact .inl e1
    · exact .inr ⟨_, e1, by simp⟩
/-- The string of a slice of bytes. -/
theorem string_of {w : World} {B e b len cap : Nat} {p : List UInt8} (src dst : TypeId) (hs : Try.prog.underlying src = some (.slice e)) (he : Try.prog.underlying e = some (.int .u8)) (hd : Try.prog.underlying dst = some .string)
    (h : Owb w B e (.slice (some ⟨b, 0, none⟩) len cap) p) (hl : p.length = len) : (convert src dst (.slice (some ⟨b, 0, none⟩) len cap)).run Try.prog w = .ok (.string ⟨p.toArray⟩) w := by
  have hc : w.ownsRow B e 1 (.slice (some ⟨b, 0, none⟩) p.length cap) p.length (bytesV p) := by rw [hl]; have := h; unfold Owb at this; rw [hl] at this; exact this
  have h := run_convert_bytes_arg (P := Try.prog) w src e hs he b 0 len cap (p.map fun x => (x.toNat : Int)) (by simp [hl]) (fun i hi => by
    rw [Nat.zero_add, hc.cellAt i (by omega), List.getElem?_map, List.getElem?_eq_getElem (by omega)]
    simp [List.getD, List.getElem?_map, List.getElem?_eq_getElem (show i < p.length by omega)]) dst hd
  rw [h]
  congr 2
  apply ByteArray.ext
  apply Array.toList_inj.1
  rw [strOfNums_data, List.map_map]
  conv => rhs; rw [← List.map_id p]
  apply List.map_congr_left
  intro x _
  simp
end Go.Proofs.Ytmnnehpoaedifaa
/- Contract of package shunt: eagerPlan. -/
namespace Go.Proofs.Ytmnnehpoaedifaa
open Go.RowKit

theorem top_any {w : World} {g B e : Nat} {v : Value} {r : List Int} (h : Pile w g B e v r) (hr : r.length ≤ 1000000) :
    Calls Try.prog 74 #[.pointer (some ⟨g, 0, none⟩)] w fun e w' => e = .returned (.tuple #[.int .i64 (r.headD 0), .bool (!r.isEmpty)]) ∧ Dr w w' := by
  cases r with
  | nil => exact top_nil h
  | cons x r => exact top_cons h (by simp at hr; omega)

/-- What the two loops of eagerPlan keep. -/
structure Eager (w w' : World) (vp vs : Value) (p : List UInt8) (r : List Int) : Prop where
  plan : Owb w' (w.heap.size + 1) 5 vp p
  pile : Pile w' w.heap.size (w.heap.size + 1) 3 vs r
  apart : Apart vp vs
  below : Below w.heap.size w w'
theorem Eager.dr {w w1 w2 : World} {vp vs : Value} {p : List UInt8} {r : List Int} (h : Eager w w1 vp vs p r) (k : Dr w1 w2) : Eager w w2 vp vs p r := by
  obtain ⟨q, rfl⟩ := k
  exact ⟨h.plan.drewN q, h.pile.drewN q, h.apart, below_dn h.below q⟩
theorem Eager.add {w w1 w2 : World} {vp vp' vs : Value} {p p' : List UInt8} {r : List Int} (h : Eager w w1 vp vs p r) (hp : Owb w2 (w.heap.size + 1) 5 vp' p') (hg : w1.grownBy w2 vp.ownBlock)
    (hat : vp'.ownBlock = vp.ownBlock ∨ ∃ g, vp'.ownBlock = some g ∧ w1.heap.size ≤ g) : Eager w w2 vp' vs p' r :=
  ⟨hp, h.pile.tn (Tn.of_grown (T := fun k => vp.ownBlock = some k) hg fun _ e => e) (fun b hb hv => by
      rcases hb with rfl | hb
      · have := (h.plan.lt hv).1; omega
      · exact h.apart.not hv hb), h.apart.new (fun b hb => (h.pile.own.lt hb).2) hat, h.below.grown hg h.below.size (fun k e => by have := (h.plan.lt e).1; omega)⟩
theorem Eager.turn {w w1 w2 : World} {vp vs vs' : Value} {p : List UInt8} {r r' : List Int} (h : Eager w w1 vp vs p r) (hp : Pile w2 w.heap.size (w.heap.size + 1) 3 vs' r') (hg : Tn w1 w2 (PB w.heap.size vs))
    (hat : vs'.ownBlock = vs.ownBlock ∨ ∃ g, vs'.ownBlock = some g ∧ w1.heap.size ≤ g) : Eager w w2 vp vs' p r' :=
  ⟨h.plan.tn hg (fun b hb hv => by
      rcases hv with rfl | hv
      · have := (h.plan.lt hb).1; omega
      · exact h.apart.not hb hv), hp, (Apart.new h.apart.symm (fun b hb => (h.plan.lt hb).2) hat).symm,
   h.below.trans (hg.below (fun k hk => by
      rcases hk with rfl | hk
      · omega
      · have := (h.pile.own.lt hk).1; omega) h.below.size)⟩

set_option maxHeartbeats 1600000 in
theorem eagerPlan_any (A : Option Addr) (n c : Nat) (zs : List Int) (w : World) (hs : Sl w A n c zs) (hn : n ≤ 1000) :
    Calls Try.prog 54 #[.slice A n c] w fun e w' => e = .returned (.string ⟨(eagerOf zs).toArray⟩) ∧ Below w.heap.size w w' := by
  have HS := Lib.hid hs; clear hs
  obtain ⟨i0, hi, hz0, hz1, hz2⟩ := info_parts Try.infoByte
  have HI : Hid (Try.prog.info? 5 = some i0 ∧ i0.zero = some (.int .u8 0) ∧ i0.size = 1 ∧ i0.bytes = 1) := ⟨hi, hz0, hz1, hz2⟩
  clear hi hz0 hz1 hz2
  go_enter Try.func54, Try.ntmps54
  go_wp2
  have HE0 : Hid (Eager w (w.alloc (.cells #[.slice none 0 0] 80)) (.slice none 0 0) (.slice none 0 0) [] []) :=
    ⟨Owb.nil _ _ _, ⟨by simp, by simp, Ow.nil _ _ _, Nat.lt_succ_self _, by simp⟩, .inl rfl, (Below.refl _ _).alloc (Nat.le_refl _) _⟩
  go_loopw [3, 5, 7, 8, 9, 12] (fun pl nx _ _ _ i w' => ∃ (k m : Nat) (vs : Value), k ≤ n ∧ i = .int .i64 k ∧ nx = .int .i64 m ∧ m ≤ k + 1 ∧ Hid (m = (eagerTo zs k).2.1) ∧ Hid (Eager w w' pl vs (eagerTo zs k).2.2 (eagerTo zs k).1)) (fun _ _ _ _ _ i _ => n - (intOf i).toNat)
  case atStart => exact ⟨0, 1, _, by omega, by go_num, rfl, by omega, rfl, HE0⟩
  case round =>
    obtain ⟨k, m, vs, hk, rfl, rfl, hm, HM, HE⟩ := hrel
    have hlen := eager_len zs k (by rw [HS.out.len]; exact hk)
    by_cases hlt : k < n
    · have HN : Hid (eagerTo zs (k + 1) = eagerStep (eagerTo zs k) (zs[k]?.getD 0)) := eagerTo_succ zs k (by rw [HS.out.len]; exact hlt)
      obtain ⟨b0, off0, rfl, hcx⟩ := HS.out.at_ hlt
      have hb0 := HS.out.old b0 off0 rfl (by omega)
      have hcxr := (HE.out.below.cell (p := ⟨b0, off0 + k, none⟩) hb0).trans hcx
      clear hcx
      obtain ⟨x, hx⟩ : ∃ x, x = zs[k]?.getD 0 := ⟨_, rfl⟩
      rw [← hx] at hcxr HN
      have HX := Lib.hid hx; clear hx
      obtain ⟨r, hr⟩ : ∃ r, r = (eagerTo zs k).1 := ⟨_, rfl⟩
      obtain ⟨p, hp⟩ : ∃ p, p = (eagerTo zs k).2.2 := ⟨_, rfl⟩
      have HN2 : Hid (eagerTo zs (k + 1) = popE (x :: r) m (p ++ [105])) := by rw [Hid, HN.out, hr, hp, HM.out]; rfl
      rw [← hr, ← hp] at HE
      rw [← hr, ← hp, ← HM.out] at hlen
      have HR := Lib.hid hr; clear hr
      have HP := Lib.hid hp; clear hp
      have hpl : p.length ≤ 1099511627776 := by omega
      have hrl : r.length + 1 ≤ 1000000 := by omega
      have HPL := Lib.hid hpl; clear hpl
      have HRL := Lib.hid hrl; clear hrl
      have HLEN := Lib.hid hlen; clear hlen
      have hbs : w.heap.size + 1 ≤ wr.heap.size := HE.out.pile.base
      obtain ⟨wo, rfl⟩ : ∃ wo : World, wo = wr := ⟨_, rfl⟩
      go_wp2_with (at_builtin; go_must (refine pushb_law _ rfl (.tmp 16) (.tmp 17) 85 rfl (w.heap.size + 1) 5 i0 Try.underlying85 HI.out _ p 105 rfl rfl HE.out.plan HPL.out hbs ?_); intro v1 w1 hv1 hg1 hat1; have HE1 := Lib.hid (HE.out.add hv1 hg1 hat1); clear hv1 hg1 hat1)
      have H1 := Lib.hid (push_any x HE1.out.pile (Nat.le_of_succ_le HRL.out))
      go_wp2_with (go_at_call 76; refine H1.out.mono ?_; clear H1; rintro e w2 ⟨rfl, vs2, hp2, ht2, hat2⟩; have HE2 := Lib.hid (HE1.out.turn hp2 ht2 hat2); clear hp2 ht2 hat2)
      have H2 := Lib.hid (top_any HE2.out.pile HRL.out)
      go_wp2_with (go_at_call 74; refine H2.out.mono ?_; clear H2; rintro e w3 ⟨rfl, hd3⟩)
      have HE3 := Lib.hid (HE2.out.dr hd3)
      go_loopw [3, 5, 8, 9] (fun pl nx tp ok w' => ∃ (m' : Nat) (r' : List Int) (p' : List UInt8) (vs : Value), nx = .int .i64 m' ∧ tp = .int .i64 (r'.headD 0) ∧ ok = .bool (!r'.isEmpty) ∧ r'.length + m' = k + 2 ∧ p'.length = k + m' ∧ Hid (popE r' m' p' = eagerTo zs (k + 1)) ∧ Hid (Eager w w' pl vs p' r')) (fun _ nx _ _ _ => k + 2 - (intOf nx).toNat)
      case atStart => exact ⟨m, x :: r, p ++ [105], vs2, rfl, rfl, rfl, by have := HLEN.out; simp; omega, by have := HLEN.out; simp; omega, HN2.out.symm, HE3⟩
      case round =>
        obtain ⟨m', r', p', vs', rfl, rfl, rfl, hl1, hl2, HF, HQ⟩ := hrel
        obtain ⟨wi, rfl⟩ : ∃ wo : World, wo = wr := ⟨_, rfl⟩
        cases r' with
        | nil =>
          have h1 : m' ≤ k + 2 := by simp at hl1; omega
          have HFF : Hid (eagerTo zs (k + 1) = ([], m', p')) := HF.out.symm
          clear HF
          simp only [List.headD_nil, List.isEmpty_nil, Bool.not_true]
          go_wp2
          go_roundw
          case rel => exact ⟨k + 1, m', vs', by omega, by go_num, rfl, by omega, by rw [HFF.out]; rfl, by rw [HFF.out]; exact HQ⟩
          case measure => simp [intOf]; omega
        | cons t r' =>
          simp only [List.headD_cons, List.isEmpty_cons, Bool.not_false]
          simp only [List.length_cons] at hl1
          by_cases ht : t = (m' : Int)
          · have g1 : (t == (m' : Int)) = true := by simpa using ht
            have HF2 : Hid (popE r' (m' + 1) (p' ++ [111]) = eagerTo zs (k + 1)) := by rw [Hid, ← HF.out, popE, if_pos ht]
            clear HF
            have HT := Lib.hid ht; clear ht
            have hbi : w.heap.size + 1 ≤ wi.heap.size := HQ.out.pile.base
            have hpl : p'.length ≤ 1099511627776 := by omega
            have HPL' := Lib.hid hpl; clear hpl
            have HRL' : Hid (r'.length ≤ 1000000) := by rw [Hid]; omega
            have HL1 := Lib.hid hl1
            have HL2 := Lib.hid hl2
            clear hl2
            go_wp2_with (at_builtin; go_must (refine pushb_law _ rfl (.tmp 35) (.tmp 36) 85 rfl (w.heap.size + 1) 5 i0 Try.underlying85 HI.out _ p' 111 rfl rfl HQ.out.plan HPL'.out hbi ?_); intro v4 w4 hv4 hg4 hat4; have HE4 := Lib.hid (HQ.out.add hv4 hg4 hat4); clear hv4 hg4 hat4)
            have H4 := Lib.hid (pop_cons HE4.out.pile HRL'.out)
            go_wp2_with (go_at_call 75; refine H4.out.mono ?_; clear H4; rintro e w5 ⟨rfl, vs5, hp5, ht5, hat5⟩; have HE5 := Lib.hid (HE4.out.turn hp5 (ht5.mono fun _ _ h => .inl h) (.inl hat5)); clear hp5 ht5 hat5)
            have H5 := Lib.hid (top_any HE5.out.pile HRL'.out)
            go_wp2_with (go_at_call 74; refine H5.out.mono ?_; clear H5; rintro e w6 ⟨rfl, hd6⟩)
            have HE6 := Lib.hid (HE5.out.dr hd6)
            go_roundw
            case rel => exact ⟨m' + 1, r', p' ++ [111], vs5, by go_num, by cases r' <;> rfl, by cases r' <;> rfl, by have := HL1.out; omega, by have := HL2.out; simp; omega, HF2, HE6⟩
            case measure => simp [intOf]; omega
          · have g1 : (t == (m' : Int)) = false := by simpa using ht
            have HFF : Hid (eagerTo zs (k + 1) = (t :: r', m', p')) := by rw [Hid, ← HF.out, popE, if_neg ht]
            clear HF ht
            go_wp2
            go_roundw
            case rel => exact ⟨k + 1, m', vs', by omega, by go_num, rfl, by omega, by rw [HFF.out]; rfl, by rw [HFF.out]; exact HQ⟩
            case measure => simp [intOf]; omega
    · have hkn : k = n := by omega
      subst hkn
      have HOF : Hid (eagerOf zs = (eagerTo zs k).2.2) := by rw [Hid, eagerOf, HS.out.len]
      generalize (eagerTo zs k).2.2 = p at *
      obtain ⟨pl, hpl⟩ : ∃ l, p.length = l := ⟨_, rfl⟩
      rcases HE.out.plan.2 with ⟨he, h0⟩ | ⟨g, cap, cur, he, _, _, hcap, _⟩
      · have hcv : (convert 85 9 (.slice none 0 0)).run Try.prog wr = .ok (.string ByteArray.empty) wr := run_convert_bytes_nil wr _ _ Try.underlying85 Try.underlying5 0 0 _ Try.underlying9
        have hp0 : p = [] := List.eq_nil_of_length_eq_zero h0
        have HB := Lib.hid HE.out.below
        clear hpl h0
        rw [he]
        clear he HE
        go_wp2
        go_ret
        exact ⟨by rw [HOF.out, hp0]; rfl, HB.out⟩
      · have hcv : (convert 85 9 (.slice (some ⟨g, 0, none⟩) p.length cap)).run Try.prog wr = .ok (.string ⟨p.toArray⟩) wr := string_of _ _ Try.underlying85 Try.underlying5 Try.underlying9 (he ▸ HE.out.plan) rfl
        have HB := Lib.hid HE.out.below
        rw [he]
        clear he HE
        rw [hpl] at hcv hcap
        rw [hpl]
        clear hpl
        go_wp2
        go_ret
        exact ⟨by rw [HOF.out]; first | rfl | simp, HB.out⟩
end Go.Proofs.Ytmnnehpoaedifaa
/- Promise of package shunt: Stack. -/
namespace Go.Proofs.Ytmnnehpoaedifaa
open Go.RowKit

theorem Ord.rng {o : List Int} (h : Ord o) : ∀ i, i < o.length → 1 ≤ at0 o i ∧ at0 o i ≤ o.length := fun i hi => ⟨h.lo i hi, h.hi i hi⟩

theorem stack_ok : StackOk := by
  intro A n c o w hs
  have H1 := Lib.hid (isOrder_any A n c o w hs)
  have HS := Lib.hid hs
  cases ho : ordB o 60 with
  | false =>
    rw [ho] at H1
    have HO := Lib.hid ho; clear ho hs
    go_enter Try.func19, Try.ntmps19
    go_wp2_with (go_at_call 52; refine H1.out.mono ?_; clear H1; rintro e w1 ⟨rfl, hb1⟩)
    go_ret3
    exact ⟨_, _, _, [], rfl, Ow.nil _ _ _, by decide, by decide, fun _ => ⟨rfl, rfl, rfl⟩, fun h => (by cases h), fun h => (by cases h), hb1⟩
  | true =>
    rw [ho] at H1
    obtain ⟨hord, h60⟩ := ordB_iff.1 ho
    have hn : n ≤ 60 := by rw [hs.len] at h60; omega
    have HORD := Lib.hid hord
    clear h60
    have HO := Lib.hid ho; clear ho
    have HN := Lib.hid hn; clear hn
    clear hs
    by_cases hg : Good o
    · have hasc : ascB (passOf o) = true := (oneStack_iff hord.diff).2 hg
      have HP : Hid (planB o (eagerOf o) = true ∧ (eagerOf o).length ≤ 120) := ⟨eager_sorts o hord.diff hord.rng hg, by have := eagerOf_len o; rw [HS.out.len] at this; have := HN.out; omega⟩
      have HASC := Lib.hid hasc; clear hasc
      have HG := Lib.hid hg
      clear hg hord
      go_enter Try.func19, Try.ntmps19
      go_wp2_with (go_at_call 52; refine H1.out.mono ?_; clear H1; rintro e w1 ⟨rfl, hb1⟩)
      have H2 := Lib.hid (findBlock_any A n c o w1 (HS.out.below hb1 (Nat.le_refl _)) (Nat.le_trans HN.out (by decide)))
      go_wp2_with (go_at_call 53; refine H2.out.mono ?_; clear H2; rintro e w2 ⟨v, rfl, hv, hb2⟩; (rcases hv with ⟨rfl, _⟩ | ⟨g, a, b, d, _, _, hbad⟩; rotate_left; exact absurd hbad (HG.out a b d)); have hq := run_neq_slice_nil_any (P := Try.prog) w2 22 3 none 0 0 0 0 Try.underlying22)
      have hb12 := hb1.trans (hb2.mono hb1.size)
      have H3 := Lib.hid (eagerPlan_any A n c o w2 (HS.out.below hb12 (Nat.le_refl _)) (Nat.le_trans HN.out (by decide)))
      go_wp2_with (go_at_call 54; refine H3.out.mono ?_; clear H3; rintro e w3 ⟨rfl, hb3⟩)
      go_ret3
      exact ⟨_, _, _, [], rfl, Ow.nil _ _ _, HP.out.2, by decide, fun h => (by cases h), fun _ _ => ⟨by simpa using HP.out.1, rfl, rfl⟩, fun _ h => (by rw [HASC.out] at h; cases h), hb12.trans (hb3.mono hb12.size)⟩
    · have hasc : ascB (passOf o) = false := by
        cases h : ascB (passOf o) with
        | false => rfl
        | true => exact absurd ((oneStack_iff hord.diff).1 h) hg
      have HASC := Lib.hid hasc; clear hasc
      have HG := Lib.hid hg
      clear hg hord
      go_enter Try.func19, Try.ntmps19
      go_wp2_with (go_at_call 52; refine H1.out.mono ?_; clear H1; rintro e w1 ⟨rfl, hb1⟩)
      have H2 := Lib.hid (findBlock_any A n c o w1 (HS.out.below hb1 (Nat.le_refl _)) (Nat.le_trans HN.out (by decide)))
      go_wp2_with (go_at_call 53; refine H2.out.mono ?_; clear H2; rintro e w2 ⟨v, rfl, hv, hb2⟩; (rcases hv with ⟨_, hgood⟩ | ⟨g, a, b, d, rfl, hown, hbad⟩; exact absurd hgood HG.out); have HOWN := Lib.hid hown; clear hown; have hq := run_neq_slice_nil_any (P := Try.prog) w2 22 3 (some ⟨g, 0, none⟩) 3 3 0 0 Try.underlying22)
      have hb12 := hb1.trans (hb2.mono hb1.size)
      go_ret3
      exact ⟨_, _, _, [(a : Int), b, d], rfl, HOWN.out.base hb1.size, by decide, by simp, fun h => (by cases h), fun _ h => (by rw [HASC.out] at h; cases h), fun _ _ => ⟨rfl, sblock_of_bad hbad, rfl⟩, hb12⟩
end Go.Proofs.Ytmnnehpoaedifaa
