import Derived.Test.YtkemcmeagnggeaaT15
import Derived.Test.YtkemcmeagnggeaaT14
import Derived.Deep.RegionHeldLaw
/- Layer 3: the program's longer: one letter more for every state. -/
namespace Go.Proofs.Ytkemcmeagnggeaa
open Go.RowKit Go.Maps Go.ChangeShapes Go.WideMaps
set_option linter.unusedVariables false

theorem rds_below {w w' : World} {A : Option Addr} {ss : List ByteArray} (h : Rds w A ss) (hA : ∀ a, A = some a → a.block < w.heap.size) (hb : Below w.heap.size w w') : Rds w' A ss := fun j hj => by
  obtain ⟨b, off, e, hc⟩ := h j hj
  exact ⟨b, off, e, (World.cell?_of_block (a := ⟨b, off + j, none⟩) (hb.block b (hA _ e))).trans hc⟩
/-- Between two states: what the new map holds, and what is still to come. -/
structure LgI (ss : List ByteArray) (k b n : Nat) (L : List (St4 × Nat)) (D : DataW Unit) (w wr : World) (left : Lit → Bool) (cnt n' : Nat) (L' : List (St4 × Nat)) : Prop where
  rng : wr.ranges Try.prog 100 (plainElem Try.prog 3) b (w.heap.size + 1) n D left cnt
  new : KL encProg wr w.heap.size n' L'
  num : n' + k * cnt ≤ k * L.length
  sum : ∀ g, sumL g L' + sumL (outS ss k g) (leftL left L encProg) = sumL (outS ss k g) L
  ok : ∀ p ∈ L', okS ss p.1
  below : Below w.heap.size w wr
/-- Between two letters. -/
structure LgJ (ss : List ByteArray) (b n n0 g8 : Nat) (s : St4) (x : Nat) (L0 : List (St4 × Nat)) (D : DataW Unit) (w : World) (left : Lit → Bool) (cnt : Nat) (c : Nat) (wr : World) (n' : Nat) (L' : List (St4 × Nat)) : Prop where
  rng : wr.ranges Try.prog 100 (plainElem Try.prog 3) b (w.heap.size + 1) n D left cnt
  row : wr.heap[g8]? = some (.cells #[.int .i64 (getS s 0 : Nat), .int .i64 (getS s 1 : Nat), .int .i64 (getS s 2 : Nat), .int .i64 (getS s 3 : Nat)] 100 (0, 0))
  new : KL encProg wr w.heap.size n' L'
  num : n' ≤ n0 + c
  sum : ∀ g, sumL g L' = sumL g L0 + x * outTo ss g s c
  ok : ∀ p ∈ L', okS ss p.1
  below : Below w.heap.size w wr
theorem LgJ.cells {ss : List ByteArray} {b n n0 g8 : Nat} {s : St4} {x : Nat} {L0 : List (St4 × Nat)} {D : DataW Unit} {w : World} {left : Lit → Bool} {cnt : Nat} {c : Nat} {wr : World} {n' : Nat} {L' : List (St4 × Nat)} (h : LgJ ss b n n0 g8 s x L0 D w left cnt c wr n' L') :
    wr.cell? ⟨g8, 0, none⟩ = some (.int .i64 (getS s 0 : Nat)) ∧ wr.cell? ⟨g8, 1, none⟩ = some (.int .i64 (getS s 1 : Nat)) ∧ wr.cell? ⟨g8, 2, none⟩ = some (.int .i64 (getS s 2 : Nat)) ∧ wr.cell? ⟨g8, 3, none⟩ = some (.int .i64 (getS s 3 : Nat)) := by
  refine ⟨?_, ?_, ?_, ?_⟩ <;> (rw [cell_of_row _ _ _ _ _ _ h.row]; rfl)
theorem Below.toGrown {w w' : World} (h : Below w.heap.size w w') : w.grownBy w' none := ⟨h.os, h.tape, h.output, h.size, fun i hi _ => h.block i hi⟩
theorem LgI.next {ss : List ByteArray} {k b n n0 g8 : Nat} {p : St4 × Nat} {L L0 : List (St4 × Nat)} {D : DataW Unit} {w w0 : World} {left left1 : Lit → Bool} {cnt cnt1 : Nat} {wr : World} {n' : Nat} {L' : List (St4 × Nat)} (hI : LgI ss k b n L D w w0 left cnt n0 L0)
    (h : LgJ ss b n n0 g8 p.1 p.2 L0 D w left1 cnt1 k wr n' L') (hs : ∀ g, sumL g (leftL left L encProg) = p.2 * g p.1 + sumL g (leftL left1 L encProg)) (hc : cnt1 < cnt) : LgI ss k b n L D w wr left1 cnt1 n' L' := by
  refine ⟨h.rng, h.new, ?_, fun g => ?_, h.ok, h.below⟩
  · have h1 := h.num
    have h2 := hI.num
    have h3 : k * (cnt1 + 1) ≤ k * cnt := Nat.mul_le_mul_left _ hc
    rw [Nat.mul_add, Nat.mul_one] at h3
    omega
  · have h1 := h.sum g
    have h2 := hI.sum g
    rw [hs] at h2
    unfold outS at h2
    unfold outS
    omega
section
variable {ss : List ByteArray} {b n n0 g8 : Nat} {s : St4} {x : Nat} {L0 : List (St4 × Nat)} {D : DataW Unit} {w : World} {left : Lit → Bool} {cnt : Nat} {c : Nat} {wr : World} {n' : Nat} {L' : List (St4 × Nat)}
theorem LgJ.keep (h : LgJ ss b n n0 g8 s x L0 D w left cnt c wr n' L') {W : World} (hb : Below wr.heap.size wr W) : LgJ ss b n n0 g8 s x L0 D w left cnt c W n' L' :=
  ⟨h.rng.kept (Below.toGrown hb) (by simp) (by simp), (hb.block g8 (Array.getElem?_eq_some_iff.1 h.row).1).trans h.row, h.new.grown (Below.toGrown hb) (by simp), h.num, h.sum, h.ok, h.below.trans (hb.mono h.below.size)⟩
theorem LgJ.skip (h : LgJ ss b n n0 g8 s x L0 D w left cnt c wr n' L') (hq : stepS ss s c = none) : LgJ ss b n n0 g8 s x L0 D w left cnt (c + 1) wr n' L' :=
  ⟨h.rng, h.row, h.new, by have := h.num; omega, fun g => by rw [h.sum g, outTo, hq]; rfl, h.ok, h.below⟩
theorem LgJ.put (h : LgJ ss b n n0 g8 s x L0 D w left cnt c wr n' L') {z : St4} (hq : stepS ss s c = some z) (hz : okS ss z) (hb : b < w.heap.size) (h8 : w.heap.size + 2 ≤ g8) {W : World} (hg : wr.grownBy W (some w.heap.size)) (hK : KL encProg W w.heap.size (n' + 1) (addL L' z x)) :
    LgJ ss b n n0 g8 s x L0 D w left cnt (c + 1) W (n' + 1) (addL L' z x) := by
  obtain ⟨D', hD', hR'⟩ := h.new
  refine ⟨h.rng.kept hg (by simp; omega) (by simp), (hg.block g8 (Array.getElem?_eq_some_iff.1 h.row).1 (by simp; omega)).trans h.row, hK, by have := h.num; omega, fun g => ?_, fun p hp => ?_, h.below.grown hg h.below.size (fun j e => by injection e with e; omega)⟩
  · rw [sumL_add g hR'.nodup, h.sum g, outTo, hq, Nat.mul_add, Nat.add_assoc]
  · rcases addL_mem hp with e | ⟨q, hq2, e⟩
    · rw [e]; exact hz
    · rw [← e]; exact h.ok q hq2
end
theorem wp_then_mono {P : Program} {c : Code} {K K' : Act → World → Prop} {Q : Exit → Act → World → Prop} {a : Act} {w : World} (h : ∀ a w, K a w → K' a w) (hc : c.wp P (Exit.then K Q) a w) : c.wp P (Exit.then K' Q) a w :=
  Code.wp_mono (fun e a w hq => by
    cases e
    case normal => exact h a w hq
    all_goals exact hq) hc
theorem grown_tr {a b c : World} {r : Option Nat} (h : a.grownBy b r) (k : b.grownBy c r) : a.grownBy c r :=
  ⟨k.os.trans h.os, k.tape.trans h.tape, k.output.trans h.output, Nat.le_trans h.size k.size, fun i hi hr => (k.block i (Nat.lt_of_lt_of_le hi h.size) hr).trans (h.block i hi hr)⟩
/-- The row that was made ahead of the call. -/
theorem new_row {wr w2 : World} (hb : Below (wr.alloc (.cells #[.int .i64 0, .int .i64 0, .int .i64 0, .int .i64 0] 100)).drew.heap.size (wr.alloc (.cells #[.int .i64 0, .int .i64 0, .int .i64 0, .int .i64 0] 100)).drew w2) :
    w2.heap[wr.heap.size]? = some (.cells #[.int .i64 0, .int .i64 0, .int .i64 0, .int .i64 0] 100 (0, 0)) ∧
    w2.cell? ⟨wr.heap.size, 0, none⟩ = some (.int .i64 0) ∧ w2.cell? ⟨wr.heap.size, 1, none⟩ = some (.int .i64 0) ∧ w2.cell? ⟨wr.heap.size, 2, none⟩ = some (.int .i64 0) ∧ w2.cell? ⟨wr.heap.size, 3, none⟩ = some (.int .i64 0) ∧
    w2.frozen? ⟨wr.heap.size, 0, none⟩ = false ∧ w2.frozen? ⟨wr.heap.size, 1, none⟩ = false ∧ w2.frozen? ⟨wr.heap.size, 2, none⟩ = false ∧ w2.frozen? ⟨wr.heap.size, 3, none⟩ = false := by
  have h : w2.heap[wr.heap.size]? = some (.cells #[.int .i64 0, .int .i64 0, .int .i64 0, .int .i64 0] 100 (0, 0)) := (hb.block wr.heap.size (by simp [World.drew])).trans (heap_alloc_new wr _)
  refine ⟨h, ?_, ?_, ?_, ?_, ?_, ?_, ?_, ?_⟩
  all_goals first | (rw [cell_of_row _ _ _ _ _ _ h]; rfl) | simp [World.frozen?, h]
theorem row_set {W : World} {g : Nat} {t : TypeId} {a0 a1 a2 a3 : Value} (h : W.heap[g]? = some (.cells #[a0, a1, a2, a3] t (0, 0))) (z0 z1 z2 z3 : Value) :
    ((((W.setCell ⟨g, 0, none⟩ z0).setCell ⟨g, 1, none⟩ z1).setCell ⟨g, 2, none⟩ z2).setCell ⟨g, 3, none⟩ z3).heap[g]? = some (.cells #[z0, z1, z2, z3] t (0, 0)) := by
  rw [heap_setCell_same _ g 3 _ t _ (heap_setCell_same _ g 2 _ t _ (heap_setCell_same _ g 1 _ t _ (heap_setCell_same _ g 0 _ t _ h)))]
  rfl
/-- What with gives at a state and a letter, by stepS. -/
theorem with_step {A : Option Addr} {m cp : Nat} {ss : List ByteArray} {w : World} {s : St4} (hl : ss.length = m) (ho : okS ss s) (c : Nat)
    (hw : ∀ (W : World) (f : Nat → Nat) (c : Int), Below w.heap.size w W → (∀ i, i < m → f i < memN ss i) → (∀ i, f i ≤ 8) →
      Calls Try.prog 78 #[.agg #[.int .i64 (f 0 : Nat), .int .i64 (f 1 : Nat), .int .i64 (f 2 : Nat), .int .i64 (f 3 : Nat)], .slice A m cp, .int .u8 c] W fun e w' =>
      ((advF ss f c = none ∧ e = .returned (.tuple #[.agg #[.int .i64 0, .int .i64 0, .int .i64 0, .int .i64 0], .bool false])) ∨ (∃ h, advF ss f c = some h ∧ e = .returned (.tuple #[.agg #[.int .i64 (h 0 : Nat), .int .i64 (h 1 : Nat), .int .i64 (h 2 : Nat), .int .i64 (h 3 : Nat)], .bool true]))) ∧ Below W.heap.size W w') :
    ∃ (z : St4) (ok : Bool), ((stepS ss s c = none ∧ ok = false) ∨ (stepS ss s c = some z ∧ ok = true)) ∧ ∀ W : World, Below w.heap.size w W →
      Calls Try.prog 78 #[.agg #[.int .i64 (getS s 0 : Nat), .int .i64 (getS s 1 : Nat), .int .i64 (getS s 2 : Nat), .int .i64 (getS s 3 : Nat)], .slice A m cp, .int .u8 (97 + (c : Int))] W fun e w' =>
        e = .returned (.tuple #[.agg #[.int .i64 (z.1.1 : Nat), .int .i64 (z.1.2 : Nat), .int .i64 (z.2.1 : Nat), .int .i64 (z.2.2 : Nat)], .bool ok]) ∧ Below W.heap.size W w' := by
  have h1 : ∀ i, i < m → getS s i < memN ss i := fun i hi => ho.1 i (by rw [hl]; exact hi)
  cases hq : advF ss (getS s) (97 + (c : Int)) with
  | none =>
    refine ⟨((0, 0), (0, 0)), false, .inl ⟨by rw [stepS, hq]; rfl, rfl⟩, fun W hW => (hw W (getS s) _ hW h1 ho.2).mono ?_⟩
    rintro e w' ⟨⟨_, rfl⟩ | ⟨h, h2, rfl⟩, hb⟩
    · exact ⟨rfl, hb⟩
    · rw [hq] at h2; cases h2
  | some h =>
    refine ⟨mkS h, true, .inr ⟨by rw [stepS, hq]; rfl, rfl⟩, fun W hW => (hw W (getS s) _ hW h1 ho.2).mono ?_⟩
    rintro e w' ⟨⟨h2, rfl⟩ | ⟨h3, h2, rfl⟩, hb⟩
    · rw [hq] at h2; cases h2
    · rw [hq] at h2; injection h2 with h2; subst h2; exact ⟨rfl, hb⟩
set_option maxRecDepth 100000 in
set_option maxHeartbeats 12800000 in
theorem longer_any (A : Option Addr) (m cp k : Nat) (ss : List ByteArray) (b n : Nat) (L : List (St4 × Nat)) (w : World) (hl : ss.length = m) (hm : m ≤ 4) (hk : k ≤ 4) (hr : Rds w A ss) (hA : ∀ a, A = some a → a.block < w.heap.size) (hz : ∀ i, memN ss i ≤ 8)
    (h : KL encProg w b n L) (hok : ∀ p ∈ L, okS ss p.1) (hLn : L.length ≤ 100000) (hs : sumL (fun _ => 1) L * k ≤ 1152921504606846976) :
    Calls Try.prog 67 #[.slice A m cp, .int .i64 k, .map (some b)] w fun e w' => (∃ nb n' L', e = .returned (.map (some nb)) ∧ KL encProg w' nb n' L' ∧ (∀ p ∈ L', okS ss p.1) ∧ (∀ g, sumL g L' = sumL (outS ss k g) L)) ∧ Below w.heap.size w w' := by
  obtain ⟨R, hR⟩ : ∃ R : Ending → World → Prop, R = fun e w' => (∃ nb n' L', e = .returned (.map (some nb)) ∧ KL encProg w' nb n' L' ∧ (∀ p ∈ L', okS ss p.1) ∧ (∀ g, sumL g L' = sumL (outS ss k g) L)) ∧ Below w.heap.size w w' := ⟨_, rfl⟩
  rw [← hR]
  have HRR := Lib.hid hR
  have HL := Lib.hid hl
  have HZ := Lib.hid hz
  have HOK := Lib.hid hok
  have HLN := Lib.hid hLn
  have HSUM := Lib.hid hs
  have hbl := h.lt
  have HK := Lib.hid h
  have HWITH : Hid (∀ (W : World) (f : Nat → Nat) (c : Int), Below w.heap.size w W → (∀ i, i < m → f i < memN ss i) → (∀ i, f i ≤ 8) →
      Calls Try.prog 78 #[.agg #[.int .i64 (f 0 : Nat), .int .i64 (f 1 : Nat), .int .i64 (f 2 : Nat), .int .i64 (f 3 : Nat)], .slice A m cp, .int .u8 c] W fun e w' =>
      ((advF ss f c = none ∧ e = .returned (.tuple #[.agg #[.int .i64 0, .int .i64 0, .int .i64 0, .int .i64 0], .bool false])) ∨ (∃ h, advF ss f c = some h ∧ e = .returned (.tuple #[.agg #[.int .i64 (h 0 : Nat), .int .i64 (h 1 : Nat), .int .i64 (h 2 : Nat), .int .i64 (h 3 : Nat)], .bool true]))) ∧ Below W.heap.size W w') :=
    fun W f c hB hf hf8 => with_any A m cp ss f c W hl hm (rds_below hr hA hB) (fun a e => Nat.lt_of_lt_of_le (hA a e) hB.size) hz hf hf8
  have hmm := @run_makeMap Try.prog
  clear hR hl hr hz hok hs hLn h
  go_enter Try.func67, Try.ntmps67
  have HM0 : Hid (KL encProg (w.alloc (.map #[] 0)) w.heap.size 0 []) := KL.made encProg w
  have HB0 : Hid (Below w.heap.size w (w.alloc (.map #[] 0))) := (Below.refl _ _).alloc (Nat.le_refl _) _
  obtain ⟨D, hD, hRD⟩ := HK.out
  have HRD := Lib.hid hRD
  have hsz := size_le hD hRD
  have HLE : Hid (∀ g, sumL g (leftL (Maps.has D) L encProg) = sumL g L) := fun g => by rw [leftL_all hRD]
  have hD1 := hD.alloc (Obj.map #[] 0)
  clear hRD hD
  go_wp2_with (first | (at_range; refine wpList_range_own _ rfl _ 99 rfl 100 3 keyProg Try.underlying99 _ b n _ rfl hD1 ?_; intro w0 hrg0 hg0 hs0))
  try go_frame
  have e1 : (w.alloc (Obj.map #[] 0)).heap.size = w.heap.size + 1 := by simp
  rw [e1] at hrg0 hs0 ⊢
  go_loopw [] (fun wr => ∃ left cnt n' L', Hid (LgI ss k b n L D w wr left cnt n' L')) (fun wr => wr.rangeLeft b (w.heap.size + 1))
  case atStart =>
    refine ⟨_, _, 0, [], ⟨hrg0, HM0.out.grown hg0 (by simp), ?_, fun g => by rw [HLE.out]; simp [sumL], by simp, HB0.out.grown hg0 HB0.out.size (fun j hj => by cases hj)⟩⟩
    rw [Nat.zero_add]
    exact Nat.mul_le_mul_left _ hsz
  case round =>
    obtain ⟨left, cnt, n0, L0, HI⟩ := hrel
    clear hrg0 hg0 hs0 hD1 HM0 HB0 hmm
    have hrg := HI.out.rng
    go_wp2_with (first | (at_next; refine wpList_next_ranges _ rfl _ rfl 100 keyProg _ (fun v : Value => v) (fun c : Int => Value.int .i64 c) (fun key kl _ => ⟨key, rfl⟩) (fun v y hv => by obtain ⟨c, rfl, _⟩ := plainElem_int_inv Try.underlying3 hv; exact ⟨c, rfl⟩) b (w.heap.size + 1) n _ _ _ rfl hrg ?_ ?_))
    · intro hc0 hl0
      clear hrg
      have HF : Hid (∀ g, sumL g L0 = sumL (outS ss k g) L) := fun g => by
        have := HI.out.sum g
        rw [leftL_none hl0] at this
        exact this
      go_wp2
      rw [HRR.out]
      exact ⟨⟨_, _, _, rfl, HI.out.new, HI.out.ok, HF.out⟩, HI.out.below⟩
    · intro x c kl y1 y2 w1 cnt1 hkey hlk hy hat hrg1 hlt hg1 hs1 hen
      obtain ⟨p, hp, rfl⟩ : ∃ p ∈ L, kl = encProg.kl p.1 := HRD.out.only kl (has_true_of_atKey hat)
      have hcp : c = (p.2 : Int) := by
        obtain ⟨a, hca, hy1, _⟩ := plainElem_int_inv (H := Unit) Try.underlying3 hy
        injection hca with _ hca
        injection hy1 with hy1 _
        have h1 := (HRD.out.at_ p hp).2 .nil
        rw [hat, hy1] at h1
        injection h1 with h1
        injection h1 with _ h1
        omega
      subst hcp
      have hx : x = stV p.1 := keyProg.inj hkey (encProg.key p.1 (HOK.out p hp).st)
      subst hx
      have hst := fun g => leftL_step HRD.out.nodup (fun q hq => HRD.out.ok q hq) (left := left) g hp hlk
      have HSTP : Hid (∀ g, sumL g (leftL left L encProg) = p.2 * g p.1 + sumL g (leftL (fun z => left z && !z.sameKey (encProg.kl p.1)) L encProg)) := hst
      have HOKP := Lib.hid (HOK.out p hp)
      have HRG1 := Lib.hid hrg1
      have HLT := Lib.hid hlt
      have HRG0 := Lib.hid hrg
      have HG1 := Lib.hid hg1
      have HINF : Hid ((Try.prog.info? 100).map (·.size) = some (#[.int .i64 (getS p.1 0 : Nat), .int .i64 (getS p.1 1 : Nat), .int .i64 (getS p.1 2 : Nat), .int .i64 (getS p.1 3 : Nat)] : Array Value).size) := Try.sizeProg
      have HZR : Hid ((#[.int .i64 0, .int .i64 0, .int .i64 0, .int .i64 0] : Array Value).size = (#[.int .i64 (getS p.1 0 : Nat), .int .i64 (getS p.1 1 : Nat), .int .i64 (getS p.1 2 : Nat), .int .i64 (getS p.1 3 : Nat)] : Array Value).size) := rfl
      have HJ0 : Hid (LgJ ss b n n0 w1.heap.size p.1 p.2 L0 D w (fun z => left z && !z.sameKey (encProg.kl p.1)) cnt1 0 (w1.alloc (.cells #[.int .i64 (getS p.1 0 : Nat), .int .i64 (getS p.1 1 : Nat), .int .i64 (getS p.1 2 : Nat), .int .i64 (getS p.1 3 : Nat)] 100)) n0 L0) :=
        ⟨hrg1.alloc _, heap_alloc_new w1 _, (HI.out.new.grown hg1 (by simp)).grown (World.grownBy_alloc _ _ none) (by simp), by omega, fun g => by simp [outTo], HI.out.ok, (HI.out.below.grown hg1 (by have := HI.out.below.size; omega) (fun j e => by cases e; omega)).alloc (by have := HI.out.below.size; have := hg1.size; omega) _⟩
      clear hst hat hkey hlk hy hrg1 hg1 hlt hs1 hrg
      go_wp2_with (first | (refine wpList_store_new (by rfl) 100 (.tmp 8) (.tmp 19) (by rfl) w1 _ _ (by rfl) (by rfl) HINF.out HZR.out (by simp [Value.oneCell']) ?_))
      have hg8 : w.heap.size + 2 ≤ w1.heap.size := by
        have := HRG1.out.lt
        omega
      generalize w1.heap.size = g8 at HJ0 hg8 ⊢
      go_loopw [22] (fun i wr => ∃ (c n' : Nat) (L' : List (St4 × Nat)), c ≤ k ∧ i = .int .i64 (c : Int) ∧ Hid (LgJ ss b n n0 g8 p.1 p.2 L0 D w (fun z => left z && !z.sameKey (encProg.kl p.1)) cnt1 c wr n' L')) (fun i _ => k - (intOf i).toNat)
      case atStart => exact ⟨0, _, _, by omega, by go_num, HJ0⟩
      case round =>
        obtain ⟨c, n', L', hck, rfl, HJ⟩ := hrel
        by_cases hlt : c < k
        · obtain ⟨z, ok, hzo, hwi⟩ := with_step (w := w) HL.out HOKP.out c HWITH.out
          have HZO := Lib.hid hzo
          have HWI := Lib.hid hwi
          obtain ⟨h0, h1, h2, h3⟩ := HJ.out.cells
          have HBY : Hid (∀ W : World, Calls Try.prog 53 #[.int .i64 (c : Int)] W fun e w' => e = .returned (.int .u8 (97 + (c : Int))) ∧ W = w') := fun W => byteOf_any c W (by omega)
          have hlc : (c : Int) < (k : Int) := by omega
          clear hzo hwi HWITH HJ0
          have HCE : Hid (∀ W : World, Below wr.heap.size wr W → W.cell? ⟨g8, 0, none⟩ = some (.int .i64 (getS p.1 0 : Nat)) ∧ W.cell? ⟨g8, 1, none⟩ = some (.int .i64 (getS p.1 1 : Nat)) ∧ W.cell? ⟨g8, 2, none⟩ = some (.int .i64 (getS p.1 2 : Nat)) ∧ W.cell? ⟨g8, 3, none⟩ = some (.int .i64 (getS p.1 3 : Nat))) := fun W hW => by
            have hlt8 : g8 < wr.heap.size := (Array.getElem?_eq_some_iff.1 HJ.out.row).1
            exact ⟨(hW.cell (p := ⟨g8, 0, none⟩) hlt8).trans h0, (hW.cell (p := ⟨g8, 1, none⟩) hlt8).trans h1, (hW.cell (p := ⟨g8, 2, none⟩) hlt8).trans h2, (hW.cell (p := ⟨g8, 3, none⟩) hlt8).trans h3⟩
          have HB0 : Hid (∀ o : Obj, Below wr.heap.size wr wr ∧ Below wr.heap.size wr (wr.alloc o)) := fun o => ⟨Below.refl _ _, (Below.refl _ _).alloc (Nat.le_refl _) _⟩
          have HBW : Hid (∀ o : Obj, Below w.heap.size w wr ∧ Below w.heap.size w (wr.alloc o)) := fun o => ⟨HJ.out.below, HJ.out.below.alloc HJ.out.below.size _⟩
          go_wp2
          obtain ⟨MM, hMM⟩ : ∃ MM : Act → World → Prop, MM = fun a W => ∃ g11 : Nat, a = { tmps := #[.slice A m cp, .int .i64 k, .map (some b), undef, undef, undef, .map none, .map (some w.heap.size), .pointer (some ⟨g8, 0, none⟩), .int .i64 (p.2 : Nat), .int .i64 c, .pointer (some ⟨g11, 0, none⟩), .bool ok,
            .map (some w.heap.size), .map (some b), .pointer (some ⟨w.heap.size + 1, 0, none⟩), .tuple #[.bool true, stV p.1, .int .i64 (p.2 : Nat)], .bool true, .tuple #[stV p.1, .int .i64 (p.2 : Nat)], stV p.1, .int .i64 (p.2 : Nat), .int .i64 k, .int .i64 c, .bool true, .int .i64 c,
            .tuple #[.agg #[.int .i64 (z.1.1 : Nat), .int .i64 (z.1.2 : Nat), .int .i64 (z.2.1 : Nat), .int .i64 (z.2.2 : Nat)], .bool ok], .agg #[.int .i64 (getS p.1 0 : Nat), .int .i64 (getS p.1 1 : Nat), .int .i64 (getS p.1 2 : Nat), .int .i64 (getS p.1 3 : Nat)], .slice A m cp, .int .i64 c, .int .u8 (97 + (c : Int)), .tuple #[.agg #[.int .i64 (z.1.1 : Nat), .int .i64 (z.1.2 : Nat), .int .i64 (z.2.1 : Nat), .int .i64 (z.2.2 : Nat)], .bool ok], .agg #[.int .i64 (z.1.1 : Nat), .int .i64 (z.1.2 : Nat), .int .i64 (z.2.1 : Nat), .int .i64 (z.2.2 : Nat)], .bool ok, u33, u34, u35, u36, u37, u38, u39, u40, u41, undef], defers := [] } ∧
            W.heap[g11]? = some (.cells #[.int .i64 (z.1.1 : Nat), .int .i64 (z.1.2 : Nat), .int .i64 (z.2.1 : Nat), .int .i64 (z.2.2 : Nat)] 100 (0, 0)) ∧ Below wr.heap.size wr W := ⟨_, rfl⟩
          have HMM := Lib.hid hMM
          clear hMM
          refine wp_then_mono (K := MM) ?_ ?_
          rotate_left
          · go_region_held_law (fun W => W.cell? ⟨g8, 0, none⟩ = some (.int .i64 (getS p.1 0 : Nat)) ∧ W.cell? ⟨g8, 1, none⟩ = some (.int .i64 (getS p.1 1 : Nat)) ∧ W.cell? ⟨g8, 2, none⟩ = some (.int .i64 (getS p.1 2 : Nat)) ∧ W.cell? ⟨g8, 3, none⟩ = some (.int .i64 (getS p.1 3 : Nat)))
              (first | assumption | exact HCE.out _ (HB0.out (.map #[] 0)).1.drew | exact HCE.out _ (HB0.out _).2.drew | exact HCE.out _ HB3.out | exact HCE.out _ (HB3.out.alloc HB3.out.size _) | exact HCE.out _ ((((HB3.out.setCell (Nat.le_refl _) _).setCell (Nat.le_refl _) _).setCell (Nat.le_refl _) _).setCell (Nat.le_refl _) _))
              (first
                | (go_at_call 53; refine (HBY.out _).mono ?_; rintro e w2 ⟨rfl, rfl⟩)
                | (go_at_call 78; refine (HWI.out _ (HBW.out _).2.drew).mono ?_; rintro e w2 ⟨rfl, hb2⟩; have HB3 : Hid (Below wr.heap.size wr w2) := (HB0.out _).2.drew.trans (hb2.mono (by simp)); have hnr := @new_row wr w2 hb2; have HRN := Lib.hid hnr.1; replace hnr := hnr.2; obtain ⟨x0, x1, x2, x3, y0, y1, y2, y3⟩ := hnr)
                | (go_at_call 78; refine (HWI.out _ (HBW.out (.map #[] 0)).1.drew).mono ?_; rintro e w2 ⟨rfl, hb2⟩; have HB3 : Hid (Below wr.heap.size wr w2) := (HB0.out (.map #[] 0)).1.drew.trans hb2))
            all_goals (show MM _ _; rw [HMM.out])
            all_goals first
              | exact ⟨wr.heap.size, rfl, row_set HRN.out _ _ _ _, (((HB3.out.setCell (Nat.le_refl _) _).setCell (Nat.le_refl _) _).setCell (Nat.le_refl _) _).setCell (Nat.le_refl _) _⟩
              | exact ⟨w2.heap.size, rfl, heap_alloc_new w2 _, HB3.out.alloc HB3.out.size _⟩
          · intro a3 W3 hm3
            rw [HMM.out] at hm3
            obtain ⟨g11, rfl, hrow, hb3⟩ := hm3
            clear HMM HCE HB0 HBW HWI HBY h0 h1 h2 h3
            rcases HZO.out with ⟨hz1, rfl⟩ | ⟨hz1, rfl⟩
            · have HN := Lib.hid ((HJ.out.keep hb3).skip hz1)
              clear hrow hb3
              go_wp2
              go_roundw
              case rel => exact ⟨c + 1, _, _, by omega, by go_num, HN⟩
              case measure => (simp [intOf]; try omega)
            · have hJ3 := HJ.out.keep (W := W3.drew) hb3.drew
              have hzok : okS ss z := by
                unfold stepS at hz1
                cases hq : advF ss (getS p.1) (97 + (c : Int)) with
                | none => rw [hq] at hz1; cases hz1
                | some f => rw [hq] at hz1; injection hz1 with hz1; rw [← hz1]; exact HOKP.out.step (by rw [HL.out]; exact hm) HZ.out hq
              obtain ⟨D', hD', hR'⟩ := hJ3.new
              have hone : cntL L' z + p.2 ≤ 1152921504606846976 := by
                have e1 := cntL_le L' hR'.nodup z
                have e2 := hJ3.sum (fun _ => 1)
                have e3 := HI.out.sum (fun _ => 1)
                have e4 := HSTP.out (outS ss k fun _ => 1)
                have e5 := sum_out ss k L
                have e6 := HSUM.out
                have e7 := outTo_mono ss (fun _ => 1) p.1 (c := c + 1) (d := k) (by omega)
                rw [outTo, hz1] at e7
                have e8 := Nat.mul_le_mul_left p.2 e7
                have e9 : outS ss k (fun _ => 1) p.1 = outTo ss (fun _ => 1) p.1 k := rfl
                rw [e9] at e4
                simp only [Nat.mul_add, Nat.mul_one] at e8
                omega
              have hn40 : n' ≤ 1099511627776 := by
                have e1 := hJ3.num
                have e2 := HI.out.num
                have e3 := HLN.out
                have e4 : k * L.length ≤ 4 * 100000 := Nat.mul_le_mul hk e3
                omega
              obtain ⟨st, w4, r1, r2, r3, r4⟩ := hJ3.new.entry hn40 hzok.st 99 Try.underlying99 (by omega)
              obtain ⟨w5, r5, r6, r7⟩ := r4 w4 p.2 rfl hone
              have hg35 : W3.drew.grownBy w5 (some w.heap.size) := grown_tr r2 r7
              have HN := Lib.hid (hJ3.put hz1 hzok hbl hg8 hg35 r6)
              have hl0 := hJ3.new.look hzok.st 99 Try.underlying99
              have hl1 := r3 w4 rfl
              obtain ⟨cn, hcn⟩ : ∃ cn, cn = cntL L' z := ⟨_, rfl⟩
              rw [← hcn] at r1 hl0 hl1 r5 hone
              rw [show ((cn + p.2 : Nat) : Int) = (cn : Int) + (p.2 : Int) from by omega] at r5
              have q0 : (Instr.lookup 99 (.map (some w.heap.size)) (.agg #[.int .i64 (z.1.1 : Nat), .int .i64 (z.1.2 : Nat), .int .i64 (z.2.1 : Nat), .int .i64 (z.2.2 : Nat)]) false).run Try.prog W3.drew = .ok (.int .i64 (cn : Int)) W3.drew := hl0
              have q1 : (Instr.mapEntry 99 (.map (some w.heap.size)) (.agg #[.int .i64 (z.1.1 : Nat), .int .i64 (z.1.2 : Nat), .int .i64 (z.2.1 : Nat), .int .i64 (z.2.2 : Nat)])).run Try.prog W3.drew = .ok (.tuple #[.int .i64 (cn : Int), .int .i64 (st : Int)]) w4 := r1
              have q2 : (Instr.lookup 99 (.map (some w.heap.size)) (.agg #[.int .i64 (z.1.1 : Nat), .int .i64 (z.1.2 : Nat), .int .i64 (z.2.1 : Nat), .int .i64 (z.2.2 : Nat)]) false).run Try.prog w4 = .ok (.int .i64 (cn : Int)) w4 := hl1
              have q3 : (Instr.entryStore 99 (.map (some w.heap.size)) (.int .i64 (st : Int)) (.int .i64 ((cn : Int) + (p.2 : Int)))).run Try.prog w4 = .ok () w5 := r5
              have f0 : W3.cell? ⟨g11, 0, none⟩ = some (.int .i64 (z.1.1 : Nat)) := by rw [cell_of_row _ _ _ _ _ _ hrow]; rfl
              have f1 : W3.cell? ⟨g11, 1, none⟩ = some (.int .i64 (z.1.2 : Nat)) := by rw [cell_of_row _ _ _ _ _ _ hrow]; rfl
              have f2 : W3.cell? ⟨g11, 2, none⟩ = some (.int .i64 (z.2.1 : Nat)) := by rw [cell_of_row _ _ _ _ _ _ hrow]; rfl
              have f3 : W3.cell? ⟨g11, 3, none⟩ = some (.int .i64 (z.2.2 : Nat)) := by rw [cell_of_row _ _ _ _ _ _ hrow]; rfl
              have hw1 : IntKind.i64.wrap ((cn : Int) + (p.2 : Int)) = (cn : Int) + (p.2 : Int) := IntWalk.i64_in _ (by omega)
              clear hJ3 hzok hR' hD' hn40 r1 r2 r3 r4 r5 r6 r7 hg35 hl0 hl1 hrow hb3 hcn hz1 hone
              go_wp2
              go_region
              all_goals
                clear q0 q1 q2 q3 f0 f1 f2 f3 hw1
                go_wp2
                go_roundw
                case rel => exact ⟨c + 1, _, _, by omega, by go_num, HN⟩
                case measure => (simp [intOf]; try omega)
        · obtain rfl : c = k := by omega
          have HNX := Lib.hid (HI.out.next HJ.out HSTP.out HLT.out)
          clear HJ0 hlt
          go_wp2
          go_roundw
          case rel => exact ⟨_, cnt1, n', L', HNX⟩
          case measure => rw [HNX.out.rng.left_eq, HRG0.out.left_eq]; exact HLT.out
end Go.Proofs.Ytkemcmeagnggeaa
