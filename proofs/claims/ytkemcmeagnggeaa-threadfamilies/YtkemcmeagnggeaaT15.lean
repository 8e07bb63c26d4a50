import Derived.Test.YtkemcmeagnggeaaT14
import Derived.WideKeyEntry
/- Layer 3: the program's with: one letter more. -/
namespace Go.Proofs.Ytkemcmeagnggeaa
open Go.RowKit
set_option linter.unusedVariables false

def getS (s : St4) (i : Nat) : Nat := if i = 0 then s.1.1 else if i = 1 then s.1.2 else if i = 2 then s.2.1 else s.2.2
def mkS (f : Nat → Nat) : St4 := ((f 0, f 1), (f 2, f 3))
def updN (f : Nat → Nat) (k x : Nat) : Nat → Nat := fun i => if i = k then x else f i
/-- The member's letter that comes next. -/
def memB (ss : List ByteArray) (i p : Nat) : Int := (bs (ss[i]?.getD ByteArray.empty))[p]?.getD 0
def memN (ss : List ByteArray) (i : Nat) : Nat := (ss[i]?.getD ByteArray.empty).size
/-- What has been met of the first i members, after one letter more; none: one of them is complete. -/
def advTo (ss : List ByteArray) (f : Nat → Nat) (c : Int) : Nat → Option (Nat → Nat)
  | 0 => some f
  | i + 1 => match advTo ss f c i with
    | none => none
    | some h => if memB ss i (h i) = c then (if h i + 1 = memN ss i then none else some (updN h i (h i + 1))) else some h
def advF (ss : List ByteArray) (f : Nat → Nat) (c : Int) : Option (Nat → Nat) := advTo ss f c ss.length
theorem advTo_none {ss : List ByteArray} {f : Nat → Nat} {c : Int} {i j : Nat} (h : i ≤ j) (hn : advTo ss f c i = none) : advTo ss f c j = none := by
  induction j with
  | zero => rw [show i = 0 from by omega] at hn; exact hn
  | succ j ih =>
    by_cases e : i = j + 1
    · rw [← e]; exact hn
    · rw [advTo, ih (by omega)]
theorem advTo_lt {ss : List ByteArray} {f : Nat → Nat} {c : Int} (hf : ∀ i, i < ss.length → f i < memN ss i) : ∀ {j : Nat} {h : Nat → Nat}, j ≤ ss.length → advTo ss f c j = some h → ∀ i, i < ss.length → h i < memN ss i
  | 0, h, _, he, i, hi => by rw [advTo] at he; injection he with he; subst he; exact hf i hi
  | j + 1, h, hj, he, i, hi => by
    rw [advTo] at he
    split at he
    · cases he
    · rename_i h1 he1
      have ih := advTo_lt hf (by omega) he1
      split at he
      · split at he
        · cases he
        · rename_i hne
          injection he with he
          subst he
          unfold updN
          split
          · rename_i e; subst e; have := ih i hi; omega
          · exact ih i hi
      · injection he with he; subst he; exact ih i hi
theorem results_cell_tmp {P : Program} {fn : Func} {p q : Tmp} {ty : TypeId} (h : fn.results = #[.cell p ty, .tmp q]) (tmps : Array Value) (w : World) (g : Nat) (t : TypeId) (cs : Array Value) (fr : Nat × Nat) (d : TypeDesc) (v : Value)
    (hp : tmps.getD p undef = .pointer (some ⟨g, 0, none⟩)) (hq : tmps.getD q undef = v) (hg : w.heap[g]? = some (.cells cs t fr))
    (hu : P.underlying ty = some d) (hd : (match d with | .struct _ | .array _ _ => true | _ => false) = true) (hi : (P.info? ty).map (·.size) = some cs.size) :
    (results fn tmps).run P w = .ok (.tuple #[.agg cs, v]) w := by
  have hp' : tmps[p]?.getD undef = .pointer (some ⟨g, 0, none⟩) := by simpa using hp
  have hq' : tmps[q]?.getD undef = v := by simpa using hq
  simp [results, h, hp', hq', asAddr, run_loadVar_row w g t ty cs fr d hg hu hd hi]
theorem Try.sizeProg : (Try.prog.info? 100).map (·.size) = some 4 := by kernel_rfl
theorem rowV_four (f : Nat → Int) : rowV 4 f = #[.int .i64 (f 0), .int .i64 (f 1), .int .i64 (f 2), .int .i64 (f 3)] := rfl

/-- The two rows of with. -/
structure WtW (w w' : World) (h : Nat → Nat) : Prop where
  row : Rw w' w.heap.size 100 4 (fun i => (h i : Int))
  res : w'.heap[w.heap.size + 1]? = some (.cells #[.int .i64 0, .int .i64 0, .int .i64 0, .int .i64 0] 100 (0, 0))
  below : Below w.heap.size w w'
theorem WtW.put {w w' : World} {h : Nat → Nat} (k : WtW w w' h) (i x : Nat) : WtW w (w'.setCell ⟨w.heap.size, i, none⟩ (.int .i64 (x : Int))) (updN h i x) :=
  ⟨(k.row.set (i := i) (x : Int)).congr fun j _ => by unfold upd updN; split <;> rfl, (Below.heap_setCell _ _ _ _ (by show w.heap.size + 1 ≠ w.heap.size; omega)).trans k.res, k.below.setCell (p := ⟨w.heap.size, i, none⟩) (Nat.le_refl _) _⟩
set_option maxRecDepth 100000 in
set_option maxHeartbeats 1600000 in
theorem with_any (A : Option Addr) (n cp : Nat) (ss : List ByteArray) (f : Nat → Nat) (c : Int) (w : World) (hl : ss.length = n) (hn : n ≤ 4) (hr : Rds w A ss) (hA : ∀ a, A = some a → a.block < w.heap.size) (hz : ∀ i, memN ss i ≤ 8) (hf : ∀ i, i < n → f i < memN ss i) (hf8 : ∀ i, f i ≤ 8) :
    Calls Try.prog 78 #[.agg #[.int .i64 (f 0 : Nat), .int .i64 (f 1 : Nat), .int .i64 (f 2 : Nat), .int .i64 (f 3 : Nat)], .slice A n cp, .int .u8 c] w fun e w' =>
      ((advF ss f c = none ∧ e = .returned (.tuple #[.agg #[.int .i64 0, .int .i64 0, .int .i64 0, .int .i64 0], .bool false])) ∨ (∃ h, advF ss f c = some h ∧ e = .returned (.tuple #[.agg #[.int .i64 (h 0 : Nat), .int .i64 (h 1 : Nat), .int .i64 (h 2 : Nat), .int .i64 (h 3 : Nat)], .bool true]))) ∧ Below w.heap.size w w' := by
  obtain ⟨R, hR⟩ : ∃ R : Ending → World → Prop, R = fun e w' => ((advF ss f c = none ∧ e = .returned (.tuple #[.agg #[.int .i64 0, .int .i64 0, .int .i64 0, .int .i64 0], .bool false])) ∨ (∃ h, advF ss f c = some h ∧ e = .returned (.tuple #[.agg #[.int .i64 (h 0 : Nat), .int .i64 (h 1 : Nat), .int .i64 (h 2 : Nat), .int .i64 (h 3 : Nat)], .bool true]))) ∧ Below w.heap.size w w' := ⟨_, rfl⟩
  rw [← hR]
  have HRR := Lib.hid hR
  have HL := Lib.hid hl
  have HR := Lib.hid hr
  have HA := Lib.hid hA
  have HZ := Lib.hid hz
  have HF := Lib.hid hf
  have HF8 := Lib.hid hf8
  clear hR hl hr hA hz hf hf8
  go_enter Try.func78, Try.ntmps78
  go_wp2
  have HW0 : Hid (WtW w ((w.alloc (.cells #[.int .i64 (f 0 : Nat), .int .i64 (f 1 : Nat), .int .i64 (f 2 : Nat), .int .i64 (f 3 : Nat)] 100)).alloc (.cells #[.int .i64 0, .int .i64 0, .int .i64 0, .int .i64 0] 100)) f) := by
    refine ⟨?_, ?_, ((Below.refl _ w).alloc (Nat.le_refl _) _).alloc (by simp) _⟩
    · unfold Rw
      rw [rowV_four]
      show ((w.heap.push _).push _)[w.heap.size]? = _
      rw [Array.getElem?_push, if_neg (by simp), Array.getElem?_push, if_pos rfl]
    · show ((w.heap.push _).push _)[w.heap.size + 1]? = _
      rw [Array.getElem?_push, if_pos (by simp)]
  generalize (w.alloc (.cells #[.int .i64 (f 0 : Nat), .int .i64 (f 1 : Nat), .int .i64 (f 2 : Nat), .int .i64 (f 3 : Nat)] 100)).alloc (.cells #[.int .i64 0, .int .i64 0, .int .i64 0, .int .i64 0] 100) = W0 at HW0 ⊢
  go_loopw [12] (fun i w' => ∃ (k : Nat) (h : Nat → Nat), k ≤ n ∧ i = .int .i64 (k : Int) ∧ Hid (advTo ss f c k = some h) ∧ Hid (WtW w w' h)) (fun i _ => n - (intOf i).toNat)
  case atStart => exact ⟨0, f, by omega, by go_num, rfl, HW0⟩
  case round =>
    obtain ⟨k, h, hk, rfl, HAD, HW⟩ := hrel
    clear HW0
    have hlts := advTo_lt (fun i hi => HF.out i (by rw [← HL.out]; exact hi)) (by rw [HL.out]; exact hk) HAD.out
    by_cases hlt : k < n
    · obtain ⟨b, off, rfl, hc1⟩ := HR.out k (by rw [HL.out]; exact hlt)
      have hc1 := (World.cell?_of_block (a := ⟨b, off + k, none⟩) (HW.out.below.block b (HA.out _ rfl))).trans hc1
      have hm : memN ss k = (ss[k]?.getD ByteArray.empty).size := rfl
      have hb : ∀ p, memB ss k p = (bs (ss[k]?.getD ByteArray.empty))[p]?.getD 0 := fun _ => rfl
      obtain ⟨x, hx⟩ : ∃ x, x = ss[k]?.getD ByteArray.empty := ⟨_, rfl⟩
      rw [← hx] at hc1 hm
      rw [← hx] at hb
      have hlk := hlts k (by rw [HL.out]; exact hlt)
      rw [hm] at hlk
      have hx8 : x.size ≤ 8 := by rw [← hm]; exact HZ.out k
      have hby := hb (h k)
      rw [bs_at x (h k) hlk] at hby
      have HST : Hid (advTo ss f c (k + 1) = if memB ss k (h k) = c then (if h k + 1 = memN ss k then none else some (updN h k (h k + 1))) else some h) := by rw [Hid, advTo, HAD.out]
      rw [hby, hm] at HST
      have hcell := HW.out.row.cell (i := k) (by omega)
      have hfr := HW.out.row.free k
      obtain ⟨y, hy⟩ : ∃ y : Nat, y = x[h k].toNat := ⟨_, rfl⟩
      rw [← hy] at HST
      obtain ⟨q, hq⟩ : ∃ q, q = h k := ⟨_, rfl⟩
      have HQ := Lib.hid hq
      simp only [← hq] at hcell hlk HST
      have hyq : (x[q]'hlk).toNat = y := by subst hq; exact hy.symm
      have hb0 : y < 256 := by rw [hy]; exact x[h k].toNat_lt
      have hxn := hm.symm
      clear hm hb hby hx hq hy hxn hlts
      have hq0 : (q : Int) < (x.size : Int) := by omega
      have hk4 : (k : Int) < 4 := by omega
      by_cases e : (y : Int) = c
      · have g1 : ((x[q].toNat : Int) == c) = true := by rw [hyq]; simpa using e
        have g2 : (c == (x[q].toNat : Int)) = true := by rw [hyq]; simpa using e.symm
        have g4 : (c != (x[q].toNat : Int)) = false := by rw [hyq]; simpa using e.symm
        rw [if_pos e] at HST
        have HN2 : Hid (WtW w (wr.setCell ⟨w.heap.size, k, none⟩ (.int .i64 ((q : Int) + 1))) (updN h k (q + 1))) := HW.out.put k (q + 1)
        have hcell2 : (wr.setCell ⟨w.heap.size, k, none⟩ (.int .i64 ((q : Int) + 1))).cell? ⟨w.heap.size, k, none⟩ = some (.int .i64 ((q : Int) + 1)) := by
          have := HN2.out.row.cell (i := k) (by omega)
          rw [this]
          simp [updN]
        by_cases e2 : q + 1 = x.size
        · rw [if_pos e2] at HST
          have HNO : Hid (advF ss f c = none) := advTo_none (i := k + 1) (by rw [HL.out]; omega) HST.out
          have g3 : ((q : Int) + 1 == (x.size : Int)) = true := by simp; omega
          have HINF : Hid ((Try.prog.info? 100).map (·.size) = some (#[Value.int .i64 0, .int .i64 0, .int .i64 0, .int .i64 0] : Array Value).size) := Try.sizeProg
          clear e e2
          go_wp2_with (refine wpList_store_row (by rfl) 100 (.tmp 6) (.tmp 35) (by rfl) (w.heap.size + 1) _ (by rfl) (by rfl) 100 _ HN2.out.res HINF.out (by rfl) (by simp [Value.oneCell']) ?_)
          refine bodyPost_ret (results_cell_tmp (by rfl) _ _ (w.heap.size + 1) 100 _ (0, 0) _ _ (by rfl) (by rfl) (setRow_heap _ _ _ _ _ _ HN2.out.res) Try.underlying100 (by rfl) HINF.out) (by rfl) ?_
          rw [HRR.out]
          refine ⟨Or.inl ⟨HNO.out, rfl⟩, ?_⟩
          have HBL := HN2.out.below
          exact ⟨HBL.os, HBL.tape, HBL.output, by simpa [World.setRow] using HBL.size, fun k hk => (setRow_other _ _ _ _ (by omega)).trans (HBL.block k hk)⟩
        · rw [if_neg e2] at HST
          have g3 : ((q : Int) + 1 == (x.size : Int)) = false := by simp; omega
          clear e e2
          go_wp2
          go_roundw
          case rel => exact ⟨k + 1, _, by omega, by go_num, HST, HN2⟩
          case measure => (simp [intOf]; try omega)
      · have g1 : ((x[q].toNat : Int) == c) = false := by rw [hyq]; simpa using e
        have g2 : (c == (x[q].toNat : Int)) = false := by rw [hyq]; simpa using fun z => e z.symm
        have g4 : (c != (x[q].toNat : Int)) = true := by rw [hyq]; simpa using fun z => e z.symm
        rw [if_neg e] at HST
        clear e
        go_wp2
        go_roundw
        case rel => exact ⟨k + 1, _, by omega, by go_num, HST, HW⟩
        case measure => (simp [intOf]; try omega)
    · have hkn : k = n := by omega
      subst hkn
      have HYES : Hid (advF ss f c = some h) := by rw [Hid, advF, HL.out]; exact HAD.out
      have HR1 := Lib.hid HW.out.row
      have HR2 := Lib.hid HW.out.res
      have HBL := Lib.hid HW.out.below
      have HINF : Hid ((Try.prog.info? 100).map (·.size) = some (rowV 4 fun i => (h i : Int)).size) := Try.sizeProg
      have HZ : Hid ((#[.int .i64 0, .int .i64 0, .int .i64 0, .int .i64 0] : Array Value).size = (rowV 4 fun i => (h i : Int)).size) := rfl
      have HONE := Lib.hid (rowV_one 4 fun i => (h i : Int))
      clear hlts
      go_wp2_with (first | (refine wpList_load_row (by rfl) 100 (.tmp 3) (by rfl) w.heap.size (by rfl) 100 _ (0, 0) _ HR1.out Try.underlying100 (by rfl) HINF.out ?_) | (refine wpList_store_row (by rfl) 100 (.tmp 6) (.tmp 37) (by rfl) (w.heap.size + 1) _ (by rfl) (by rfl) 100 _ HR2.out HINF.out HZ.out HONE.out ?_))
      refine bodyPost_ret (results_cell_tmp (by rfl) _ _ (w.heap.size + 1) 100 _ (0, 0) _ _ (by rfl) (by rfl) (setRow_heap _ _ _ _ _ _ HR2.out) Try.underlying100 (by rfl) HINF.out) (by rfl) ?_
      rw [HRR.out]
      refine ⟨Or.inr ⟨h, HYES.out, by rw [rowV_four]; rfl⟩, ?_⟩
      exact ⟨HBL.out.os, HBL.out.tape, HBL.out.output, by simpa [World.setRow] using HBL.out.size, fun k hk => (setRow_other _ _ _ _ (by omega)).trans (HBL.out.block k hk)⟩
end Go.Proofs.Ytkemcmeagnggeaa
/- Layer 3: m[k] += n at a map of counts: the look-up, the entry, the store into it. -/
namespace Go.Proofs.Ytkemcmeagnggeaa
open Go.RowKit Go.Maps Go.ChangeShapes Go.MapKept
open Go.WideMaps (KeyLaw)
open Go.ChangeMaps (setBlock heap_setBlock_same heap_setBlock_other modify_eq_set)
open Go.WideElems (Fit rd rg pl rd_val elemAt entry_then_store set_self)
set_option linter.unusedVariables false

theorem key_one {l : List MapEntry} (h : l.Pairwise (fun x y => x.key ≠ y.key)) {a b : MapEntry} (ha : a ∈ l) (hb : b ∈ l) (e : a.key = b.key) : a = b := by
  induction l with
  | nil => cases ha
  | cons c l ih =>
    obtain ⟨h1, h2⟩ := List.pairwise_cons.1 h
    rcases List.mem_cons.1 ha with rfl | ha'
    · rcases List.mem_cons.1 hb with rfl | hb
      · rfl
      · exact absurd e (h1 b hb)
    · rcases List.mem_cons.1 hb with rfl | hb
      · exact absurd e.symm (h1 a ha')
      · exact ih h2 ha' hb
section
variable {H : Type} {P : Program} {w : World} {t k e : TypeId} {R : Value → Option (DataW H × List MemPlace)} {b : Nat} {es : Array MapEntry} {clock : Nat}
/-- An entry that is asked for stands in the map as a store of what it gave would have left it. -/
theorem entry_is_update (K : KeyLaw P k) (ht : P.underlying t = some (.map k e)) {z : Value} (hz : ∀ u : World, (zeroValue e).run P u = .ok z u) (hb : w.heap[b]? = some (.map es clock)) (F : Fit P k R es clock)
    {key : Value} {kl : Lit} (hkey : keyOf P k key = some kl) {v0 : Value} {st : Nat} {w1 : World} (h : (Instr.mapEntry t (.map (some b)) key).run P w = .ok (.tuple #[v0, goInt st]) w1) :
    (Instr.mapUpdate t (.map (some b)) key v0).run P w = .ok () w1 := by
  rcases K.find w hkey es.toList F.keys with ⟨h1, h2⟩ | ⟨j, e0, h1, h2, h3⟩
  · simp [Instr.mapEntry, run_underlying ht, MapKept.run_getObj_map hb, K.check w false hkey, h1, hz, MapKept.run_setObj_map _ hb, Result.andThen] at h
    obtain ⟨⟨rfl, _⟩, rfl⟩ := h
    simp [Instr.mapUpdate, run_underlying ht, MapKept.run_getObj_map hb, K.check w false hkey, h1, MapKept.run_setObj_map _ hb, Result.andThen]
  · have hj : es[j]? = some e0 := by simpa using h2
    have hsame : es.modify j (fun e => { e with key := key }) = es := by
      apply Array.ext'
      rw [Array.toList_modify, modify_eq_set _ _ _ _ h2]
      have : ({ e0 with key := key } : MapEntry) = e0 := by rw [← h3]
      rw [this]
      exact set_self _ _ _ h2
    have hsame2 : es.modify j (fun e => { e with key := key, val := e0.val }) = es := by
      apply Array.ext'
      rw [Array.toList_modify, modify_eq_set _ _ _ _ h2]
      have : ({ e0 with key := key, val := e0.val } : MapEntry) = e0 := by rw [← h3]
      rw [this]
      exact set_self _ _ _ h2
    simp [Instr.mapEntry, run_underlying ht, MapKept.run_getObj_map hb, K.check w false hkey, h1, hj, h3, K.stays w hkey, hsame, MapKept.run_setObj_map _ hb, Result.andThen] at h
    obtain ⟨⟨rfl, _⟩, rfl⟩ := h
    simp [Instr.mapUpdate, run_underlying ht, MapKept.run_getObj_map hb, K.check w false hkey, h1, hj, h3, K.stays w hkey, hsame2, MapKept.run_setObj_map _ hb, Result.andThen]
end

set_option maxRecDepth 100000 in
/-- A count, looked up. -/
theorem KL.look {w : World} {b n : Nat} {L : List (St4 × Nat)} (h : KL encProg w b n L) {s : St4} (hs : stOk s) (t : TypeId) (ht : Try.prog.underlying t = some (.map 100 3)) :
    (Instr.lookup t (.map (some b)) (stV s) false).run Try.prog w = .ok (.int .i64 (cntL L s : Nat)) w := by
  obtain ⟨D, hD, hR⟩ := h
  obtain ⟨c, hrun, hat, _⟩ := hD.lookup_int keyProg ht Try.underlying3 (zeroI w) (encProg.key s hs)
  have : c = (cntL L s : Nat) := by
    by_cases hm : s ∈ L.map (·.1)
    · obtain ⟨p, hp, rfl⟩ := List.mem_map.1 hm
      have h2 := (hR.at_ p hp).2 (.lit (.int .i64 0))
      rw [cntL_mem hR.nodup hp]
      have h3 : D.atKey (encProg.kl p.1) (.lit (.int .i64 0)) = .lit (.int .i64 c) := hat
      rw [h2] at h3
      injection h3 with h3
      injection h3 with _ h3
      exact h3.symm
    · have h2 := (hR.none_ s hs hm).2 (.lit (.int .i64 0))
      rw [cntL_none hm]
      have h3 : D.atKey (encProg.kl s) (.lit (.int .i64 0)) = .lit (.int .i64 c) := hat
      rw [h2] at h3
      injection h3 with h3
      injection h3 with _ h3
      exact h3.symm
  rw [← this]
  exact hrun
theorem addL_zero {L : List (St4 × Nat)} (hn : (L.map (·.1)).Nodup) (s : St4) : cntL (addL L s 0) s = cntL L s := by
  by_cases hm : s ∈ L.map (·.1)
  · have : addL L s 0 = L := by
      unfold addL
      rw [if_pos hm]
      conv => rhs; rw [← List.map_id L]
      refine List.map_congr_left fun p _ => ?_
      split <;> rfl
    rw [this]
  · rw [cntL_none hm]
    have hn2 := addL_nodup hn s 0
    have : addL L s 0 = L ++ [(s, 0)] := by unfold addL; rw [if_neg hm]
    exact cntL_mem hn2 (p := (s, 0)) (by rw [this]; simp)
set_option maxRecDepth 100000 in
/-- The three of m[k] += c, in the order that the text gives or with the entry ahead of the look-up. -/
theorem KL.entry {w : World} {b n : Nat} {L : List (St4 × Nat)} (h : KL encProg w b n L) (hn : n ≤ 1099511627776) {s : St4} (hs : stOk s) (t : TypeId) (ht : Try.prog.underlying t = some (.map 100 3)) (hL : cntL L s ≤ 1152921504606846976) :
    ∃ (st : Nat) (w1 : World), (Instr.mapEntry t (.map (some b)) (stV s)).run Try.prog w = .ok (.tuple #[.int .i64 (cntL L s : Nat), goInt st]) w1 ∧ w.grownBy w1 (some b) ∧
      (∀ w2 : World, w2.heap[b]? = w1.heap[b]? → (Instr.lookup t (.map (some b)) (stV s) false).run Try.prog w2 = .ok (.int .i64 (cntL L s : Nat)) w2) ∧
      ∀ (w2 : World) (c : Nat), w2.heap[b]? = w1.heap[b]? → cntL L s + c ≤ 1152921504606846976 → ∃ w3, (Instr.entryStore t (.map (some b)) (goInt st) (.int .i64 ((cntL L s + c : Nat) : Int))).run Try.prog w2 = .ok () w3 ∧ KL encProg w3 b (n + 1) (addL L s c) ∧ w2.grownBy w3 (some b) := by
  have h0 := h
  obtain ⟨D, hD, hR⟩ := h
  obtain ⟨es, clock, hb, F, hsz, hDe⟩ := hD
  have hkey : keyOf Try.prog 100 (stV s) = some (encProg.kl s) := encProg.key s hs
  obtain ⟨v0, st, es1, clock1, r1, hv, hst⟩ := entry_then_store keyLawProg ht zeroI hb F hkey
  -- what the entry gives
  have hl := h0.look hs t ht
  have hv0 : v0 = .int .i64 (cntL L s : Nat) := by
    rcases Maps.fit_look false keyProg ht (zeroI w) hb F hkey with ⟨r2, n2, _⟩ | ⟨e0, y, m2, k2, r2, _⟩
    · have hl2 : (Instr.lookup t (.map (some b)) (stV s) false).run Try.prog w = .ok (.int .i64 0) w := r2
      rw [hl] at hl2
      injection hl2 with hl2 _
      rcases hv with ⟨e1, m1, k1, _⟩ | ⟨_, hv⟩
      · exact absurd k1 (n2 e1 m1)
      · rw [hv, ← hl2]
    · have hl2 : (Instr.lookup t (.map (some b)) (stV s) false).run Try.prog w = .ok e0.val w := r2
      rw [hl] at hl2
      injection hl2 with hl2 _
      rcases hv with ⟨e1, m1, k1, hv⟩ | ⟨n1, _⟩
      · have he : e1 = e0 := key_one ((stamped_iff es clock).1 F.stamped).2.2 m1 m2 (k1.trans k2.symm)
        rw [hv, he, hl2]
      · exact absurd k2 (n1 e0 m2)
  subst hv0
  have hup := entry_is_update keyLawProg ht zeroI hb F hkey r1
  have hwf : ∀ x : Nat, x ≤ 1152921504606846976 → (Lit.int .i64 (x : Int)).wf = true := fun x hx => WalkArith.wf_i64 (by omega)
  have hDD : w.ownsMap Try.prog 100 (plainElem (H := Unit) Try.prog 3) b n D := ⟨es, clock, hb, F, hsz, hDe⟩
  obtain ⟨w1, q1, q2, q3⟩ := hDD.update keyProg ht (by unfold maxLen; omega) hkey (plainElem_int Try.underlying3 (hwf _ hL))
  have hw1 : w1 = setBlock w b (.map es1 clock1) := by
    rw [hup] at q1
    injection q1 with _ q1
    exact q1.symm
  have hK1 : KL encProg w1 b (n + 1) (addL L s 0) := ⟨_, q2, hR.put encProg hs 0 (cntL L s) rfl⟩
  have hb1 : w1.heap[b]? = some (.map es1 clock1) := by rw [hw1]; exact heap_setBlock_same hb _
  refine ⟨st, w1, by rw [r1, hw1], q3, fun w2 h2 => ?_, fun w2 c h2 hc => ?_⟩
  · have := (hK1.heap h2).look hs t ht
    rw [addL_zero hR.nodup] at this
    exact this
  · obtain ⟨es', clock', a1, a2⟩ := hst w2 (.int .i64 ((cntL L s + c : Nat) : Int)) (h2.trans hb1)
    obtain ⟨w4, p1, p2, p3⟩ := hDD.update keyProg ht (by unfold maxLen; omega) hkey (plainElem_int Try.underlying3 (hwf _ hc))
    have hw4 : w4 = setBlock w b (.map es' clock') := by
      rw [a2] at p1
      injection p1 with _ p1
      exact p1.symm
    have hK4 : KL encProg w4 b (n + 1) (addL L s c) := ⟨_, p2, hR.put encProg hs c _ rfl⟩
    refine ⟨_, a1, hK4.heap ?_, ⟨rfl, rfl, rfl, by simp [setBlock], fun i _ hi => heap_setBlock_other (h2.trans hb1) _ (fun e => hi (by rw [e]))⟩⟩
    rw [heap_setBlock_same (h2.trans hb1), hw4, heap_setBlock_same hb]
end Go.Proofs.Ytkemcmeagnggeaa
/- Layer 3: one letter more, plain mathematics: states, steps, sums. -/
namespace Go.Proofs.Ytkemcmeagnggeaa
open Go.RowKit Go.Maps Go.ChangeShapes Go.MapKept
set_option linter.unusedVariables false

/-- The state after one letter more; none: a member is complete. -/
def stepS (ss : List ByteArray) (s : St4) (c : Nat) : Option St4 := (advF ss (getS s) (97 + (c : Int))).map mkS
/-- What g gives over the states after one of the first c letters. -/
def outTo (ss : List ByteArray) (g : St4 → Nat) (s : St4) : Nat → Nat
  | 0 => 0
  | c + 1 => outTo ss g s c + (match stepS ss s c with | none => 0 | some z => g z)
def outS (ss : List ByteArray) (k : Nat) (g : St4 → Nat) (s : St4) : Nat := outTo ss g s k
def okS (ss : List ByteArray) (s : St4) : Prop := (∀ i, i < ss.length → getS s i < memN ss i) ∧ ∀ i, getS s i ≤ 8
theorem okS.st {ss : List ByteArray} {s : St4} (h : okS ss s) : stOk s := by
  have h0 := h.2 0
  have h1 := h.2 1
  have h2 := h.2 2
  have h3 := h.2 3
  simp [getS] at h0 h1 h2 h3
  exact ⟨by omega, by omega, by omega, by omega⟩
theorem advTo_far {ss : List ByteArray} {f : Nat → Nat} {c : Int} : ∀ {j : Nat} {h : Nat → Nat}, advTo ss f c j = some h → ∀ i, j ≤ i → h i = f i
  | 0, h, he, i, hi => by rw [advTo] at he; injection he with he; rw [he]
  | j + 1, h, he, i, hi => by
    rw [advTo] at he
    split at he
    · cases he
    · rename_i h1 he1
      have ih := advTo_far he1 i (by omega)
      split at he
      · split at he
        · cases he
        · injection he with he
          subst he
          unfold updN
          rw [if_neg (by omega)]
          exact ih
      · injection he with he; subst he; exact ih
theorem getS_mk (h : Nat → Nat) (i : Nat) : getS (mkS h) i = h (min i 3) := by
  unfold getS mkS
  split
  · rename_i e; subst e; rfl
  · split
    · rename_i e; subst e; rfl
    · split
      · rename_i e; subst e; rfl
      · rw [show min i 3 = 3 from by omega]
theorem okS.step {ss : List ByteArray} {s : St4} (h : okS ss s) (hm : ss.length ≤ 4) (hz : ∀ i, memN ss i ≤ 8) {c : Int} {f : Nat → Nat} (hf : advF ss (getS s) c = some f) : okS ss (mkS f) := by
  have h1 := advTo_lt h.1 (Nat.le_refl _) hf
  have h2 := advTo_far hf
  refine ⟨fun i hi => ?_, fun i => ?_⟩
  · rw [getS_mk, show min i 3 = i from by omega]
    exact h1 i hi
  · rw [getS_mk]
    by_cases hi : min i 3 < ss.length
    · have := h1 _ hi
      have := hz (min i 3)
      omega
    · rw [h2 _ (by omega)]
      exact h.2 _
theorem outTo_mono (ss : List ByteArray) (g : St4 → Nat) (s : St4) {c d : Nat} (h : c ≤ d) : outTo ss g s c ≤ outTo ss g s d := by
  induction d with
  | zero => rw [show c = 0 from by omega]; exact Nat.le_refl _
  | succ d ih =>
    by_cases e : c = d + 1
    · rw [e]; exact Nat.le_refl _
    · have := ih (by omega)
      rw [outTo]; omega
theorem outTo_one (ss : List ByteArray) (s : St4) (c : Nat) : outTo ss (fun _ => 1) s c ≤ c := by
  induction c with
  | zero => exact Nat.le_refl _
  | succ c ih =>
    rw [outTo]
    split <;> omega
theorem sumL_le {g h : St4 → Nat} : ∀ {L : List (St4 × Nat)}, (∀ p ∈ L, g p.1 ≤ h p.1) → sumL g L ≤ sumL h L
  | [], _ => Nat.le_refl _
  | p :: L, hh => by
    rw [sumL_cons, sumL_cons]
    have := sumL_le (L := L) fun q hq => hh q (List.mem_cons_of_mem _ hq)
    have := Nat.mul_le_mul_left p.2 (hh p List.mem_cons_self)
    omega
theorem sumL_scale (k : Nat) : ∀ L : List (St4 × Nat), sumL (fun _ => k) L = sumL (fun _ => 1) L * k
  | [] => by simp [sumL]
  | p :: L => by rw [sumL_cons, sumL_cons, sumL_scale k L, Nat.add_mul, Nat.mul_one]
theorem sum_out (ss : List ByteArray) (k : Nat) (L : List (St4 × Nat)) : sumL (outS ss k fun _ => 1) L ≤ sumL (fun _ => 1) L * k := by
  rw [← sumL_scale]
  exact sumL_le fun p _ => outTo_one ss p.1 k
theorem cntL_le (L : List (St4 × Nat)) (hn : (L.map (·.1)).Nodup) (s : St4) : cntL L s ≤ sumL (fun _ => 1) L := by
  by_cases hm : s ∈ L.map (·.1)
  · obtain ⟨p, hp, rfl⟩ := List.mem_map.1 hm
    rw [cntL_mem hn hp]
    clear hn hm
    induction L with
    | nil => cases hp
    | cons q L ih =>
      rw [sumL_cons]
      rcases List.mem_cons.1 hp with rfl | hp
      · omega
      · have := ih hp; omega
  · rw [cntL_none hm]; exact Nat.zero_le _
theorem addL_mem {L : List (St4 × Nat)} {s : St4} {c : Nat} {p : St4 × Nat} (h : p ∈ addL L s c) : p.1 = s ∨ ∃ q ∈ L, q.1 = p.1 := by
  have := List.mem_map_of_mem (f := (·.1)) h
  rw [addL_keys] at this
  split at this
  · obtain ⟨q, hq, e⟩ := List.mem_map.1 this
    exact .inr ⟨q, hq, e⟩
  · rcases List.mem_append.1 this with this | this
    · obtain ⟨q, hq, e⟩ := List.mem_map.1 this
      exact .inr ⟨q, hq, e⟩
    · exact .inl (List.mem_singleton.1 this)
theorem addL_len (L : List (St4 × Nat)) (s : St4) (c : Nat) : (addL L s c).length ≤ L.length + 1 := by
  unfold addL
  split
  · rw [List.length_map]; omega
  · rw [List.length_append]; simp
theorem nodup_into' {α : Type} [DecidableEq α] : ∀ {l m : List α}, l.Nodup → (∀ x ∈ l, x ∈ m) → l.length ≤ m.length
  | [], m, _, _ => Nat.zero_le _
  | x :: l, m, hn, h => by
    obtain ⟨h1, h2⟩ := List.nodup_cons.1 hn
    have hx := h x List.mem_cons_self
    have := nodup_into' (m := m.erase x) h2 fun y hy => (List.mem_erase_of_ne (fun e => h1 (by rw [← e]; exact hy))).2 (h y (List.mem_cons_of_mem _ hy))
    have hl := List.length_erase_of_mem hx
    have hpos := List.length_pos_of_mem hx
    rw [List.length_cons]; omega
theorem nodup_into {α : Type} {l m : List α} (h : l.Nodup) (k : ∀ x ∈ l, x ∈ m) : l.length ≤ m.length := by
  haveI : DecidableEq α := fun a b => Classical.propDecidable (a = b)
  exact nodup_into' h k
/-- A map holds no more entries than the list. -/
theorem size_le {w : World} {b n : Nat} {D : DataW Unit} {L : List (St4 × Nat)} (hD : w.ownsMap Try.prog 100 (plainElem (H := Unit) Try.prog 3) b n D) (hR : RdL encProg D L) : Maps.size D ≤ L.length := by
  obtain ⟨es, rfl, h1, h2⟩ := hD.entries keyProg
  show es.length ≤ L.length
  have hh : ∀ p ∈ es, ∃ q ∈ L, p.1 = encProg.kl q.1 := fun p hp => hR.only p.1 (by
    show es.any _ = true
    exact List.any_eq_true.2 ⟨p, hp, WideAt.sameKey_self (h2 p hp)⟩)
  have := nodup_into (l := es.map (·.1)) (m := L.map fun q => encProg.kl q.1) (List.pairwise_map.2 h1) fun x hx => by
    obtain ⟨p, hp, rfl⟩ := List.mem_map.1 hx
    obtain ⟨q, hq, e⟩ := hh p hp
    rw [e]
    exact List.mem_map_of_mem hq
  simpa using this
end Go.Proofs.Ytkemcmeagnggeaa
