import Derived.Test.YtmbdjjkgjnemiaaT03
import Derived.Test.YtmbdjjkgjnemiaaT02
import Derived.WalkMore
/- Layer 6: what stands between the rounds of search. -/
namespace Go.Proofs.Ytmbdjjkgjnemiaa
open Go.RowKit
set_option linter.unusedVariables false

def bs (s : ByteArray) : List Int := s.data.toList.map fun b => (b.toNat : Int)
theorem bs_len (s : ByteArray) : (bs s).length = s.size := by simp [bs]
theorem bs_at (s : ByteArray) (k : Nat) (h : k < s.size) : (bs s)[k]?.getD 0 = (s[k].toNat : Int) := by
  unfold bs
  rw [List.getElem?_map, List.getElem?_eq_getElem (by simpa using h)]
  rfl
theorem bs_append (a b : ByteArray) : bs (a ++ b) = bs a ++ bs b := by simp [bs]
def stepB (j : Nat) : ByteArray := ⟨#[UInt8.ofNat (97 + j)]⟩
theorem bs_step0 : bs (stepB 0) = [97] := rfl
theorem bs_step1 : bs (stepB 1) = [98] := rfl
/-- The part of a pair that step j leads to. -/
def pJ (N : List Nd) (p : Pt) (j : Nat) : Pt := if j = 0 then pA N p else pB N p
theorem lead_j {N : List Nd} {s : ByteArray} {p q : Pt} (h : leadT N p (bs s) = some q) (hq : jud N q = 2) {j : Nat} (hj : j < 2) : leadT N p (bs (s ++ stepB j)) = some (pJ N q j) := by
  rw [bs_append]
  rcases (by omega : j = 0 ∨ j = 1) with rfl | rfl
  · rw [bs_step0]; exact lead_a h hq
  · rw [bs_step1]; exact lead_b h hq
/-- The pairs that were reached, and their paths. -/
structure SrI (N : List Nd) (p0 : Pt) (L : List Pt) (f : Pt → Option Lit) : Prop where
  nd : L.Nodup
  inn : ∀ q ∈ L, inP N.length q
  fst : p0 ∈ L
  no : ∀ q, q ∉ L → f q = none
  ys : ∀ q ∈ L, ∃ s : ByteArray, f q = some (strL s) ∧ leadT N p0 (bs s) = some q ∧ s.size + 1 ≤ L.length
theorem SrI.start {N : List Nd} {p0 : Pt} (h : inP N.length p0) : SrI N p0 [p0] (putK (fun _ => none) p0 (strL ByteArray.empty)) :=
  ⟨by simp, fun q hq => by rw [List.mem_singleton.1 hq]; exact h, by simp, fun q hq => by unfold putK; rw [if_neg (fun e => hq (by simp [e]))], fun q hq => by
    rw [List.mem_singleton.1 hq]
    exact ⟨ByteArray.empty, by unfold putK; rw [if_pos rfl], rfl, by simp⟩⟩
theorem SrI.push {N : List Nd} {p0 : Pt} {L : List Pt} {f : Pt → Option Lit} (h : SrI N p0 L f) {q x : Pt} {s : ByteArray} (hq : x ∉ L) (hi : inP N.length x) (hl : leadT N p0 (bs s) = some x) (hs : s.size ≤ L.length) : SrI N p0 (L ++ [x]) (putK f x (strL s)) := by
  refine ⟨List.nodup_append.2 ⟨h.nd, by simp, fun a ha b hb => ?_⟩, fun q hq => ?_, List.mem_append_left _ h.fst, fun q hq => ?_, fun q hq' => ?_⟩
  · rw [List.mem_singleton.1 hb]; exact fun e => hq (e ▸ ha)
  · rcases List.mem_append.1 hq with hq | hq
    · exact h.inn q hq
    · rw [List.mem_singleton.1 hq]; exact hi
  · unfold putK
    rw [if_neg (fun e => hq (by simp [e]))]
    exact h.no q fun hm => hq (List.mem_append_left _ hm)
  · by_cases e : q = x
    · subst e
      exact ⟨s, by unfold putK; rw [if_pos rfl], hl, by simp; omega⟩
    · have hm : q ∈ L := by
        rcases List.mem_append.1 hq' with hm | hm
        · exact hm
        · exact absurd (List.mem_singleton.1 hm) e
      obtain ⟨t, h1, h2, h3⟩ := h.ys q hm
      exact ⟨t, by unfold putK; rw [if_neg e]; exact h1, h2, by simp; omega⟩
theorem SrI.len {N : List Nd} {p0 : Pt} {L : List Pt} {f : Pt → Option Lit} (h : SrI N p0 L f) : L.length ≤ N.length * N.length := pairs_le h.nd h.inn
def ptAt (L : List Pt) (i : Nat) : Pt := L[i]?.getD (0, 0)
theorem ptAt_mem {L : List Pt} {i : Nat} (h : i < L.length) : ptAt L i ∈ L := by
  unfold ptAt; rw [List.getElem?_eq_getElem h]; exact List.getElem_mem h
theorem ptAt_append {L X : List Pt} {i : Nat} (h : i < L.length) : ptAt (L ++ X) i = ptAt L i := by
  unfold ptAt; rw [List.getElem?_append_left h]
/-- The first k pairs have their parts. -/
def SrD (N : List Nd) (L : List Pt) (k : Nat) : Prop := ∀ i, i < k → Stp N (· ∈ L) (ptAt L i)
theorem SrD.more {N : List Nd} {L : List Pt} {k : Nat} (h : SrD N L k) (hk : k ≤ L.length) (X : List Pt) : SrD N (L ++ X) k := fun i hi => by
  rw [ptAt_append (by omega)]
  exact (h i hi).mono fun q hq => List.mem_append_left _ hq
theorem SrD.step {N : List Nd} {L : List Pt} {k : Nat} (h : SrD N L k) (hs : Stp N (· ∈ L) (ptAt L k)) : SrD N L (k + 1) := fun i hi => by
  by_cases e : i = k
  · rw [e]; exact hs
  · exact h i (by omega)
theorem SrD.all {N : List Nd} {L : List Pt} (h : SrD N L L.length) : ∀ p ∈ L, folB N L p = true := fun p hp => by
  obtain ⟨i, hi, e⟩ := List.mem_iff_getElem.1 hp
  have := h i hi
  unfold ptAt at this
  rw [List.getElem?_eq_getElem hi, Option.getD_some, e] at this
  exact folB_iff.2 this
/-- Where the slice of what was reached lies: B, or beyond C. -/
def AtB (v : Value) (B C : Nat) : Prop := ∀ k, v.ownBlock = some k → k = B ∨ C ≤ k
abbrev fdV : Array Value := #[.bool true, .slice none 0 0, .string ⟨#[]⟩]
abbrev fd0 : Array Value := #[.bool false, .slice none 0 0, .string ⟨#[]⟩]
/-- The memory of search. -/
structure SrS (N : List Nd) (p0 : Pt) (w : World) (s g : Nat) (L : List Pt) (f : Pt → Option Lit) (v : Value) (wr : World) : Prop where
  i : SrI N p0 L f
  km : KM encPt wr 9 (s + 2) L.length f
  ow : Owp wr s 23 v (L.map ptI)
  ap : AtB v g (g + 2)
  rs : wr.heap[s + 1]? = some (.cells fd0 27 (0, 0))
  fd : wr.heap[g + 1]? = some (.cells fdV 27 (0, 0))
  bl : Below s w wr
  sz : g + 2 ≤ wr.heap.size
  lo : s + 3 ≤ g
theorem SrS.below {N : List Nd} {p0 : Pt} {w : World} {s g : Nat} {L : List Pt} {f : Pt → Option Lit} {v : Value} {wr wr' : World} (h : SrS N p0 w s g L f v wr) (hb : Below wr.heap.size wr wr') : SrS N p0 w s g L f v wr' :=
  ⟨h.i, h.km.below hb h.km.lt, h.ow.below hb (Nat.le_refl _), h.ap, (hb.block _ (by have := h.sz; have := h.lo; omega)).trans h.rs, (hb.block _ (by have := h.sz; have := h.lo; omega)).trans h.fd, h.bl.trans (hb.mono (by have := h.sz; have := h.lo; omega)), Nat.le_trans h.sz hb.size, h.lo⟩
/-- A new pair, its path laid first. -/
theorem SrS.put {N : List Nd} {p0 : Pt} {w : World} {s g : Nat} {L : List Pt} {f : Pt → Option Lit} {v v' : Value} {wr w1 w2 : World} (h : SrS N p0 w s g L f v wr) {x : Pt} {t : ByteArray} (hx : x ∉ L) (hi : inP N.length x) (hl : leadT N p0 (bs t) = some x) (ht : t.size ≤ L.length)
    (hk : KM encPt w1 9 (s + 2) (L.length + 1) (putK f x (strL t))) (hg : World.grownBy wr w1 (some (s + 2))) (ho : Owp w2 s 23 v' (L.map ptI ++ [ptI x])) (hg2 : World.grownBy w1 w2 v.ownBlock) (ha : v'.ownBlock = v.ownBlock ∨ ∃ g', v'.ownBlock = some g' ∧ w1.heap.size ≤ g') :
    SrS N p0 w s g (L ++ [x]) (putK f x (strL t)) v' w2 := by
  have hsz := h.sz
  have hlo := h.lo
  have hz := hg.size
  have hz2 := hg2.size
  have hne : ∀ k, k ≠ g → k < g + 2 → some k ≠ v.ownBlock := fun k h1 h2 e => by
    rcases h.ap k e.symm with h3 | h3 <;> omega
  have keep : ∀ k, k ≠ s + 2 → k ≠ g → k < g + 2 → w2.heap[k]? = wr.heap[k]? := fun k h1 h2 h3 =>
    (hg2.block k (by omega) (hne k h2 h3)).trans (hg.block k (by omega) (by simp [h1]))
  refine ⟨h.i.push (q := x) hx hi hl ht, ?_, by rw [List.map_append]; exact ho, ?_, (keep _ (by omega) (by omega) (by omega)).trans h.rs, (keep _ (by omega) (by omega) (by omega)).trans h.fd, ?_, by omega, hlo⟩
  · rw [List.length_append]
    exact hk.grown hg2 (hne _ (by omega) (by omega))
  · intro k hk'
    rcases ha with e | ⟨g', e, hge⟩
    · exact h.ap k (by rw [← e]; exact hk')
    · rw [e] at hk'
      injection hk' with hk'
      right; omega
  · refine ⟨hg2.os.trans (hg.os.trans h.bl.os), hg2.tape.trans (hg.tape.trans h.bl.tape), hg2.output.trans (hg.output.trans h.bl.output), by have := h.bl.size; omega, fun k hk' => ?_⟩
    exact (hg2.block k (by omega) (hne k (by omega) (by omega))).trans ((hg.block k (by omega) (by simp; omega)).trans (h.bl.block k hk'))
end Go.Proofs.Ytmbdjjkgjnemiaa
/- Layer 6: search. -/
namespace Go.Proofs.Ytmbdjjkgjnemiaa
open Go.RowKit Go.Maps
set_option linter.unusedVariables false

/-- What search gives. -/
def SrPost (N : List Nd) (p0 : Pt) (s : Nat) (e : Ending) (w' : World) : Prop :=
  (∃ v L, e = .returned (.agg #[.bool true, v, .string ⟨#[]⟩]) ∧ Owp w' s 23 v (L.map ptI) ∧ p0 ∈ L ∧ (∀ q ∈ L, inP N.length q) ∧ (∀ q ∈ L, folB N L q = true) ∧ L.length ≤ N.length * N.length) ∨
  (∃ t : ByteArray, e = .returned (.agg #[.bool false, .slice none 0 0, .string t]) ∧ refB N p0 (bs t) = true ∧ t.size + 1 ≤ N.length * N.length)
theorem Try.infoT : (Try.prog.info? 23).map (fun i => (i.zero, i.size, i.bytes)) = some (some (.agg #[.int .i64 0, .int .i64 0]), 2, 16) := by kernel_rfl
theorem Try.sizeFd : (Try.prog.info? 27).map (·.size) = some 3 := by kernel_rfl
theorem idx_pts0 (a b c d : Int) (W : World) : (Instr.index 90 (.agg #[.int .i64 a, .int .i64 b, .int .i64 c, .int .i64 d]) (.int .i64 0)).run Try.prog W = .ok (.agg #[.int .i64 a, .int .i64 b]) W := by kernel_rfl
theorem idx_pts1 (a b c d : Int) (W : World) : (Instr.index 90 (.agg #[.int .i64 a, .int .i64 b, .int .i64 c, .int .i64 d]) (.int .i64 1)).run Try.prog W = .ok (.agg #[.int .i64 c, .int .i64 d]) W := by kernel_rfl
set_option maxRecDepth 100000 in
set_option maxHeartbeats 6400000 in
theorem search_any (N : List Nd) (A : Option Addr) (n c p q : Nat) (w : World) (hN : Nl w A n c N) (hok : OkN N) (hp : p < n) (hq : q < n) (hn : n ≤ 1000) :
    Calls Try.prog 41 #[.slice A n c, .agg #[.int .i64 (p : Int), .int .i64 (q : Int)]] w fun e w' => SrPost N (p, q) w.heap.size e w' ∧ Below w.heap.size w w' := by
  have HL : Hid (N.length = n) := hN.len
  have hmm := @run_makeMap Try.prog
  have HN := Lib.hid hN
  have HOK := Lib.hid hok
  have HIN0 : Hid (inP N.length (p, q)) := ⟨by rw [HL.out]; exact hp, by rw [HL.out]; exact hq⟩
  obtain ⟨W1, hW1⟩ : ∃ W, W = ((w.alloc (.cells #[.int .i64 (p : Int), .int .i64 (q : Int)] 23)).alloc (.cells fd0 27)).alloc (.map #[] 0) := ⟨_, rfl⟩
  have hsz1 : W1.heap.size = w.heap.size + 3 := by rw [hW1]; simp
  have HB1 : Hid (Below w.heap.size w W1) := by rw [hW1]; exact (((Below.refl _ w).alloc (Nat.le_refl _) _).alloc (by simp) _).alloc (by simp; omega) _
  have hkm : KM encPt W1 9 (w.heap.size + 2) 0 (fun _ => none) := by
    have := KM.made encPt ((w.alloc (.cells #[.int .i64 (p : Int), .int .i64 (q : Int)] 23)).alloc (.cells fd0 27)) 9
    rw [hW1]
    simpa using this
  have hrs : W1.heap[w.heap.size + 1]? = some (.cells fd0 27 (0, 0)) := by
    rw [hW1]
    show (((w.heap.push _).push _).push _)[w.heap.size + 1]? = _
    rw [Array.getElem?_push, if_neg (by simp), Array.getElem?_push, if_pos (by simp)]
  have hbx : W1.heap[w.heap.size]? = some (.cells #[.int .i64 (p : Int), .int .i64 (q : Int)] 23 (0, 0)) := by
    rw [hW1]
    show (((w.heap.push _).push _).push _)[w.heap.size]? = _
    rw [Array.getElem?_push, if_neg (by simp; omega), Array.getElem?_push, if_neg (by simp), Array.getElem?_push, if_pos (by simp)]
  have b0 := cell_in hbx (i := 0) rfl
  have b1 := cell_in hbx (i := 1) rfl
  obtain ⟨W2, hup, hk2, hg2⟩ := run_storeK W1 hkm 87 Try.underlying87 (by omega) (k := ((p, q) : Pt)) ⟨by show p ≤ _; omega, by show q ≤ _; omega⟩ (.string ByteArray.empty) (strL ByteArray.empty) (plainElem_string Try.underlying9 (by decide))
  have hup : (Instr.mapUpdate 87 (.map (some (w.heap.size + 1 + 1))) (.agg #[.int .i64 (p : Int), .int .i64 (q : Int)]) (.string ⟨#[]⟩)).run Try.prog W1 = .ok () W2 := hup
  have hbx2 := (hg2.block w.heap.size (by omega) (by simp)).trans hbx
  have d0 := cell_in hbx2 (i := 0) rfl
  have d1 := cell_in hbx2 (i := 1) rfl
  have hz2 := hg2.size
  obtain ⟨W3, hW3⟩ : ∃ W, W = ((W2.alloc (.cells #[.int .i64 (p : Int), .int .i64 (q : Int)] 23)).alloc (.cells fdV 27)) := ⟨_, rfl⟩
  have HS0 : Hid (SrS N (p, q) w w.heap.size W2.heap.size [(p, q)] (putK (fun _ => none) (p, q) (strL ByteArray.empty)) (.slice (some ⟨W2.heap.size, 0, none⟩) 1 1) W3) := by
    have hb3 : Below W2.heap.size W2 W3 := by rw [hW3]; exact ((Below.refl _ _).alloc (Nat.le_refl _) _).alloc (by simp) _
    have hkk : KM encPt W2 9 (w.heap.size + 2) 1 (putK (fun _ => none) ((p, q) : Pt) (strL ByteArray.empty)) := hk2
    refine ⟨SrI.start HIN0.out, hkk.below hb3 hk2.lt, ?_, ?_, ?_, ?_, ?_, ?_, ?_⟩
    · rw [hW3]
      exact ((Owp.one W2 W2.heap.size 23 (p : Int) (q : Int) (Nat.le_refl _)).base (by omega)).alloc _
    · intro k hk
      injection hk with hk
      exact .inl hk.symm
    · exact (hb3.block _ (by omega)).trans ((hg2.block _ (by omega) (by simp)).trans hrs)
    · rw [hW3]
      show ((W2.heap.push _).push _)[W2.heap.size + 1]? = _
      rw [Array.getElem?_push, if_pos (by simp)]
    · exact HB1.out.trans (⟨hg2.os, hg2.tape, hg2.output, hg2.size, fun k hk => hg2.block k (by omega) (by simp; omega)⟩ : Below w.heap.size W1 W2) |>.trans (hb3.mono (by omega))
    · rw [hW3]; simp
    · omega
  rw [hW1] at hup
  have HW1 := Lib.hid hW1
  have HW3 := Lib.hid hW3
  have HG2 : Hid (w.heap.size + 3 ≤ W2.heap.size) := by rw [Hid]; omega
  clear hW1 hN hok b0 b1 hW3 hg2 hk2 hbx hbx2 hrs hkm hsz1 hz2
  obtain ⟨ti, hi, hz0, hz1, hz2⟩ := info_parts Try.infoT
  have HIP : Hid (Try.prog.info? 23 = some ti ∧ ti.zero = some (.agg #[.int .i64 0, .int .i64 0]) ∧ ti.size = 2 ∧ ti.bytes = 16) := ⟨hi, hz0, hz1, hz2⟩
  clear hi hz0 hz1 hz2
  go_enter Try.func41, Try.ntmps41
  go_wp2
  go_step3
  go_wp2
  rw [← HW3.out]
  generalize W2.heap.size = g at *
  clear HW1 HW3 HB1 hup d0 d1
  go_step3
  go_wp2
  go_loopw [6, 8] (fun v i w' => ∃ (k : Nat) (L : List Pt) (f : Pt → Option Lit), k ≤ L.length ∧ i = .int .i64 (k : Int) ∧ Hid (SrS N (p, q) w w.heap.size g L f v w') ∧ Hid (SrD N L k)) (fun _ i _ => n * n + 1 - (intOf i).toNat)
  case atStart => exact ⟨0, _, _, Nat.zero_le _, by go_num, HS0.out, fun i hi => absurd hi (Nat.not_lt_zero _)⟩
  case round =>
    obtain ⟨k, L, f, hk, rfl, HS, HD⟩ := hrel
    obtain ⟨wo, rfl⟩ : ∃ wo : World, wo = wr := ⟨_, rfl⟩
    clear HS0
    obtain ⟨m, hm⟩ : ∃ m, m = L.length := ⟨_, rfl⟩
    have hmn : m ≤ n * n := by rw [hm]; have := HS.out.i.len; rw [HL.out] at this; exact this
    have hnn : n * n ≤ 1000000 := Nat.le_trans (Nat.mul_le_mul hn hn) (by omega)
    have hpos : 0 < m := by rw [hm]; exact List.length_pos_of_mem HS.out.i.fst
    obtain ⟨b, cap, hv, hcap, _, hb, hcell⟩ := HS.out.ow.form (n := m) (by rw [List.length_map, hm]) hpos
    subst hv
    have HM := Lib.hid hm
    have HMM := Lib.hid hmn
    rw [← hm] at hk
    clear hm
    by_cases hlt : k < m
    · obtain ⟨c0, c1⟩ := hcell k hlt
      rw [ptI_at (by rw [← HM.out]; exact hlt)] at c0 c1
      have hmem : Hid (ptAt L k ∈ L) := ptAt_mem (by rw [← HM.out]; exact hlt)
      have hin := HS.out.i.inn _ hmem.out
      rw [HL.out] at hin
      obtain ⟨P, hP⟩ : ∃ P, P = ptAt L k := ⟨_, rfl⟩
      change wo.cell? _ = some (.int .i64 (((ptAt L k).1 : Nat) : Int)) at c0
      change wo.cell? _ = some (.int .i64 (((ptAt L k).2 : Nat) : Int)) at c1
      rw [← hP] at c0 c1 hin
      obtain ⟨x, y⟩ := P
      dsimp only at c0 c1
      have hx : x < n := hin.1
      have hy : y < n := hin.2
      have HP := Lib.hid hP
      clear hP hin hcell
      obtain ⟨W5, hW5⟩ : ∃ W, W = wo.alloc (.cells #[.int .i64 (x : Int), .int .i64 (y : Int)] 23) := ⟨_, rfl⟩
      have HB5 : Hid (Below wo.heap.size wo W5) := by rw [hW5]; exact (Below.refl _ _).alloc (Nat.le_refl _) _
      have h5 : W5.heap[wo.heap.size]? = some (.cells #[.int .i64 (x : Int), .int .i64 (y : Int)] 23 (0, 0)) := by rw [hW5]; exact heap_alloc_new _ _
      have HS5 := Lib.hid (HS.out.below HB5.out)
      have hs5 : wo.heap.size < W5.heap.size := by rw [hW5]; simp
      have HJ : Hid (∀ r, jud N (x, y) = r → Calls Try.prog 55 #[.slice A n c, .agg #[.int .i64 (x : Int), .int .i64 (y : Int)]] W5 fun e w' => e = .returned (.int .i64 (r : Nat)) ∧ Below W5.heap.size W5 w') := fun r hr => hr ▸ judge_any N A n c x y W5 (HN.out.below (HS5.out.bl) (Nat.le_refl _)) HOK.out hx hy
      have H5 := Lib.hid h5
      have HW5 := Lib.hid hW5
      clear hW5 h5
      have i1 : (k : Int) < (m : Int) := by omega
      rcases jud_lt N (x, y) with hj | hj | hj
      · have HJ0 := Lib.hid (HJ.out 0 hj)
        have HD2 : Hid (SrD N L (k + 1)) := HD.out.step (by rw [← HP.out]; exact .inl hj)
        clear hj
        go_wp2_with (go_at_call 55; rw [← HW5.out]; refine HJ0.out.mono ?_; rintro e w1 ⟨rfl, hb1⟩; have h9 := (hb1.block _ hs5).trans H5.out; have e0 := cell_in h9 (i := 0) rfl; have e1 := cell_in h9 (i := 1) rfl; have HS1 := Lib.hid (HS5.out.below hb1); clear hb1 h9 c0 c1)
        exact ⟨⟨k + 1, L, f, by rw [← HM.out]; omega, by go_num, HS1.out, HD2.out⟩, by simp [intOf]; omega⟩
      · have HJ1 := Lib.hid (HJ.out 1 hj)
        obtain ⟨z, hz1, hz2, hz3⟩ := HS5.out.i.ys (x, y) (by rw [HP.out]; exact hmem.out)
        have HREF : Hid (refB N (p, q) (bs z) = true) := refB_of_lead _ _ _ hz2 hj
        have HZS : Hid (z.size + 1 ≤ N.length * N.length) := by rw [Hid, HL.out]; have := HM.out; omega
        have HLK : Hid (∀ W, KM encPt W 9 (w.heap.size + 2) L.length f → (Instr.lookup 87 (.map (some (w.heap.size + 1 + 1))) (.agg #[.int .i64 (x : Int), .int .i64 (y : Int)]) false).run Try.prog W = .ok (.string z) W) := fun W h => run_lookT W 87 Try.underlying87 _ _ f h (x := ((x, y) : Pt)) ⟨by show x ≤ _; omega, by show y ≤ _; omega⟩ z (by rw [hz1]; rfl)
        have HI : Hid ((Try.prog.info? 27).map (·.size) = some (#[Value.bool false, Value.slice none 0 0, Value.string z] : Array Value).size) := Try.sizeFd
        clear hj hz1 hz2 hz3
        go_wp2_with (first
          | (go_at_call 55; rw [← HW5.out]; refine HJ1.out.mono ?_; rintro e w1 ⟨rfl, hb1⟩; have h9 := (hb1.block _ hs5).trans H5.out; have e0 := cell_in h9 (i := 0) rfl; have e1 := cell_in h9 (i := 1) rfl; have HS1 := Lib.hid (HS5.out.below hb1); have HB1 := Lib.hid hb1; have hlk := HLK.out w1 HS1.out.km; clear hb1 h9 c0 c1)
          | (refine wpList_store_row (by rfl) 27 (.tmp 7) (.tmp 38) (by rfl) (g + 1) _ (by rfl) (by rfl) 27 _ HS1.out.fd HI.out (by rfl) (by simp [Value.oneCell']) ?_; clear hlk e0 e1; obtain ⟨W6, hW6, r1, r2, r3⟩ := row_set #[Value.bool false, Value.slice none 0 0, Value.string z] HS1.out.fd; rw [← hW6]; have q0 := cell_in r1 (i := 0) rfl; have q1 := cell_in r1 (i := 1) rfl; have q2 := cell_in r1 (i := 2) rfl; have HRS := Lib.hid ((r2 (w.heap.size + 1) (by have := HG2.out; omega)).trans HS1.out.rs); have HB6 := Lib.hid (HS1.out.bl.trans (r3 _ (by have := HG2.out; omega))); clear hW6 r1 r2 r3)
          | (refine wpList_store_row (by rfl) 27 (.tmp 4) (.tmp 75) (by rfl) (w.heap.size + 1) _ (by rfl) (by rfl) 27 _ HRS.out HI.out (by rfl) (by simp [Value.oneCell']) ?_))
        rw [Exit.noGoto_ret]
        refine bodyPost_ret (results_cell_row (by rfl) _ _ (w.heap.size + 1) 27 _ (0, 0) _ (by rfl) (setRow_heap _ _ _ _ _ _ HRS.out) Try.underlying27 (by rfl) HI.out) (by rfl) ⟨.inr ⟨z, rfl, HREF.out, HZS.out⟩, ?_⟩
        obtain ⟨W7, hW7, _, _, r7⟩ := row_set #[Value.bool false, Value.slice none 0 0, Value.string z] HRS.out
        rw [← hW7]
        exact HB6.out.trans (r7 _ (by omega))
      · have HJ2 := Lib.hid (HJ.out 2 hj)
        obtain ⟨a1, a2, hA⟩ : ∃ a1 a2, pA N (x, y) = (a1, a2) := ⟨_, _, rfl⟩
        obtain ⟨b1, b2, hB⟩ : ∃ b1 b2, pB N (x, y) = (b1, b2) := ⟨_, _, rfl⟩
        have HIN : Hid (inP N.length (x, y)) := HS.out.i.inn _ (by rw [HP.out]; exact hmem.out)
        have hia := HOK.out.pA HIN.out
        have hib := HOK.out.pB HIN.out
        have HPT : Hid (∀ W, Below wo.heap.size wo W → Calls Try.prog 56 #[.slice A n c, .agg #[.int .i64 (x : Int), .int .i64 (y : Int)]] W fun e w' => e = .returned (.agg #[.int .i64 (a1 : Int), .int .i64 (a2 : Int), .int .i64 (b1 : Int), .int .i64 (b2 : Int)]) ∧ Below W.heap.size W w') := fun W hW => by
          have := parts_any N A n c x y W (HN.out.below (HS.out.bl.trans (hW.mono HS.out.bl.size)) (Nat.le_refl _)) hx hy
          rw [hA, hB] at this
          exact this
        rw [hA, HL.out] at hia
        rw [hB, HL.out] at hib
        have ha1 : a1 < n := hia.1
        have ha2 : a2 < n := hia.2
        have hb1' : b1 < n := hib.1
        have hb2' : b2 < n := hib.2
        have HA := Lib.hid hA
        have HB := Lib.hid hB
        have HJE := Lib.hid hj
        clear hj hia hib hA hB
        go_wp2_with (first
          | (go_at_call 55; rw [← HW5.out]; refine HJ2.out.mono ?_; rintro e w1 ⟨rfl, hb1⟩; have h9 := (hb1.block _ hs5).trans H5.out; have e0 := cell_in h9 (i := 0) rfl; have e1 := cell_in h9 (i := 1) rfl; have HS1 := Lib.hid (HS5.out.below hb1); have HB1 := Lib.hid (HB5.out.trans (hb1.mono HB5.out.size)); have hl9 := Nat.lt_of_lt_of_le hs5 hb1.size; have H9 := Lib.hid h9; clear hb1 h9 c0 c1)
          | (go_at_call 56; refine (HPT.out _ HB1.out).mono ?_; rintro e w2 ⟨rfl, hb2⟩; have H10 := Lib.hid ((hb2.block _ hl9).trans H9.out); have HS2 := Lib.hid (HS1.out.below hb2); clear hb2 e0 e1))
        have HV2 : Hid ((Value.slice (some ⟨b, 0, none⟩) m cap).ownBlock ≠ some wo.heap.size) := by
          intro e
          have e : b = wo.heap.size := Option.some.inj e
          omega
        have HWO : Hid (w.heap.size + 5 ≤ wo.heap.size ∧ g + 2 ≤ wo.heap.size) := by have := HS.out.sz; have := HG2.out; exact ⟨by omega, by omega⟩
        clear HS HS5 HS1 H5 HJ HJ2 H9 HPT HB1 HB5 hl9 hs5 HW5
        generalize hs9 : wo.heap.size = s9 at *
        go_loopw [6, 44] (fun v j w' => ∃ (i : Nat) (L' : List Pt) (f' : Pt → Option Lit) (X : List Pt), i ≤ 2 ∧ j = .int .i64 (i : Int) ∧ Hid (L' = L ++ X) ∧ Hid (SrS N (p, q) w w.heap.size g L' f' v w') ∧ Hid (1 ≤ i → (a1, a2) ∈ L') ∧ Hid (2 ≤ i → (b1, b2) ∈ L') ∧ Hid (w'.heap[s9]? = some (.cells #[.int .i64 (x : Int), .int .i64 (y : Int)] 23 (0, 0))) ∧ Hid (v.ownBlock ≠ some s9)) (fun _ j _ => 2 - (intOf j).toNat)
        case atStart => exact ⟨0, L, f, [], by omega, by go_num, by rw [Hid]; simp, HS2.out, fun h => absurd h (by omega), fun h => absurd h (by omega), H10.out, HV2.out⟩
        case round =>
          obtain ⟨i, L', f', X, hi, rfl, HX, HS, HI1, HI2, H9, HV⟩ := hrel
          obtain ⟨wi, rfl⟩ : ∃ wi : World, wi = wr := ⟨_, rfl⟩
          clear HS2 H10 HV2
          have hi3 : i = 0 ∨ i = 1 ∨ i = 2 := by omega
          clear hi
          rcases hi3 with rfl | rfl | rfl
          · have ix := idx_pts0 (a1 : Int) (a2 : Int) (b1 : Int) (b2 : Int) wi
            have HIZ : Hid (inP N.length (a1, a2)) := ⟨by rw [HL.out]; exact ha1, by rw [HL.out]; exact ha2⟩
            obtain ⟨W6, hW6⟩ : ∃ W, W = wi.alloc (.cells #[.int .i64 (a1 : Int), .int .i64 (a2 : Int)] 23) := ⟨_, rfl⟩
            have hb6 : Below wi.heap.size wi W6 := by rw [hW6]; exact (Below.refl _ _).alloc (Nat.le_refl _) _
            have h11 : W6.heap[wi.heap.size]? = some (.cells #[.int .i64 (a1 : Int), .int .i64 (a2 : Int)] 23 (0, 0)) := by rw [hW6]; exact heap_alloc_new _ _
            have h9 := (hb6.block _ (Array.getElem?_eq_some_iff.1 H9.out).1).trans H9.out
            have HS6 := Lib.hid (HS.out.below hb6)
            have f0 := cell_in h11 (i := 0) rfl
            have f1 := cell_in h11 (i := 1) rfl
            have hZ1' : a1 ≤ 1099511627776 := by omega
            have hZ2' : a2 ≤ 1099511627776 := by omega
            by_cases hm : (a1, a2) ∈ L'
            · obtain ⟨s, hs1, _, _⟩ := HS.out.i.ys _ hm
              have lk : (Instr.lookup 87 (.map (some (w.heap.size + 1 + 1))) (.agg #[.int .i64 (a1 : Int), .int .i64 (a2 : Int)]) true).run Try.prog W6 = .ok (.tuple #[.string s, .bool true]) W6 := run_lookTk W6 87 Try.underlying87 _ _ f' HS6.out.km (x := ((a1, a2) : Pt)) ⟨hZ1', hZ2'⟩ s (by rw [hs1]; rfl) true (by rw [hs1]; rfl)
              rw [hW6] at lk f0 f1 HS6 h9
              have HM2 := Lib.hid hm
              have H9' := Lib.hid h9
              clear hm h9 hW6 h11 hb6 hs1
              go_wp2
              exact ⟨⟨0 + 1, L', f', X, by omega, by go_num, HX.out, HS6.out, fun _ => HM2.out, fun h => absurd h (by omega), H9'.out, HV.out⟩, by simp [intOf]⟩
            · obtain ⟨s, hs1, hs2, hs3⟩ := HS.out.i.ys (x, y) (by rw [HX.out, HP.out]; exact List.mem_append_left _ hmem.out)
              have hno := HS.out.i.no _ hm
              have lk : (Instr.lookup 87 (.map (some (w.heap.size + 1 + 1))) (.agg #[.int .i64 (a1 : Int), .int .i64 (a2 : Int)]) true).run Try.prog W6 = .ok (.tuple #[.string ⟨#[]⟩, .bool false]) W6 := run_lookTk W6 87 Try.underlying87 _ _ f' HS6.out.km (x := ((a1, a2) : Pt)) ⟨hZ1', hZ2'⟩ ByteArray.empty (by rw [hno]; rfl) false (by rw [hno]; rfl)
              have hb7 : Below W6.heap.size W6 W6.drew := (Below.refl _ _).drew
              have HS7 := Lib.hid (HS6.out.below hb7)
              have h97 : W6.drew.heap[s9]? = _ := h9
              have g0 := cell_in h97 (i := 0) rfl
              have g1 := cell_in h97 (i := 1) rfl
              have h117 : W6.drew.heap[wi.heap.size]? = _ := h11
              have g2 := cell_in h117 (i := 0) rfl
              have g3 := cell_in h117 (i := 1) rfl
              have lk2 : (Instr.lookup 87 (.map (some (w.heap.size + 1 + 1))) (.agg #[.int .i64 (x : Int), .int .i64 (y : Int)]) false).run Try.prog W6.drew = .ok (.string s) W6.drew := run_lookT W6.drew 87 Try.underlying87 _ _ f' HS7.out.km (x := ((x, y) : Pt)) ⟨by show x ≤ _; omega, by show y ≤ _; omega⟩ s (by rw [hs1]; rfl)
              have HL5 : Hid (L'.length ≤ 1000000) := by rw [Hid]; have := HS.out.i.len; rw [HL.out] at this; omega
              obtain ⟨W8, hup, hk8, hg8⟩ := run_storeK W6.drew HS7.out.km 87 Try.underlying87 (by have := HL5.out; omega) (k := ((a1, a2) : Pt)) ⟨hZ1', hZ2'⟩ (.string (s ++ stepB 0)) (strL (s ++ stepB 0)) (plainElem_string Try.underlying9 (by rw [ByteArray.size_append]; have : (stepB 0).size = 1 := rfl; have := HL5.out; unfold maxLen; omega))
              rw [hW6] at lk f0 f1
              have HW6 := Lib.hid hW6
              have HM2 := Lib.hid hm
              have HUP := Lib.hid hup
              have HLD := Lib.hid hs2
              have HSZ := Lib.hid hs3
              have HK8 := Lib.hid hk8
              have HG8 := Lib.hid hg8
              have H11 := Lib.hid h117
              have H97 := Lib.hid h97
              have HLW : Hid (wi.heap.size < W6.drew.heap.size) := (Array.getElem?_eq_some_iff.1 h117).1
              have HL9 : Hid (s9 < W6.drew.heap.size) := (Array.getElem?_eq_some_iff.1 h97).1
              have HWI : Hid (w.heap.size + 5 ≤ wi.heap.size) := by have := HS.out.sz; have := HG2.out; rw [Hid]; omega
              clear hm hup hW6 hs1 hs2 hs3 hno hk8 hg8 h9 h11 hb6 hb7 h97 h117
              go_wp2
              rw [← HW6.out]
              have hup : (Instr.mapUpdate 87 (.map (some (w.heap.size + 1 + 1))) (.agg #[.int .i64 (a1 : Int), .int .i64 (a2 : Int)]) (.string (s ++ (⟨#[97, 98]⟩ : ByteArray).extract 0 1))).run Try.prog W6.drew = .ok () W8 := HUP.out
              have hadd := run_string_add_sum (P := Try.prog) W6.drew s ((⟨#[97, 98]⟩ : ByteArray).extract 0 1) (by have := HSZ.out; have := HL5.out; show s.size + 1 ≤ _; omega)
              go_region
              have HL6 : Hid ((L'.map ptI).length ≤ 1099511627776) := by rw [Hid, List.length_map]; have := HL5.out; omega
              have HWZ : Hid (w.heap.size ≤ W8.heap.size) := Nat.le_trans HS7.out.bl.size HG8.out.size
              have HO8 : Hid (Owp W8 w.heap.size 23 u6 (L'.map ptI)) := by
                refine HS7.out.ow.same fun i hi => HG8.out.block i (HS7.out.ow.lt hi).2 ?_
                intro e
                have := HS7.out.ap i hi
                have := HG2.out
                have e : i = w.heap.size + 2 := Option.some.inj e
                omega
              have h118 := (HG8.out.block wi.heap.size HLW.out (by intro e; have e := Option.some.inj e; have := HWI.out; omega)).trans H11.out
              have m0 := cell_in h118 (i := 0) rfl
              have m1 := cell_in h118 (i := 1) rfl
              have H98 := Lib.hid ((HG8.out.block s9 HL9.out (by intro e; have e := Option.some.inj e; have := HWO.out; omega)).trans H97.out)
              clear hup hadd lk lk2 g0 g1 g2 g3 f0 f1 ix h118
              go_wp2_with (at_builtin; go_must (refine pushp_law _ rfl (.tmp 66) (.tmp 68) 25 rfl w.heap.size 23 ti Try.underlying25 HIP.out _ (L'.map ptI) (a1 : Int) (a2 : Int) rfl rfl HO8.out HL6.out HWZ.out ?_); intro v9 W9 hv9 hg9 hat9; have HV9 := Lib.hid hv9; have HG9 := Lib.hid hg9; have HAT := Lib.hid hat9; clear hv9 hg9 hat9)
              have HS9 : Hid (SrS N (p, q) w w.heap.size g (L' ++ [(a1, a2)]) (putK f' (a1, a2) (strL (s ++ stepB 0))) v9 W9) := by
                refine HS7.out.put (x := (a1, a2)) HM2.out HIZ.out ?_ ?_ HK8.out HG8.out HV9.out HG9.out HAT.out
                · have := lead_j HLD.out HJE.out (j := 0) (by omega)
                  rw [this, ← HA.out]
                  rfl
                · rw [ByteArray.size_append]
                  show s.size + 1 ≤ _
                  exact HSZ.out
              have H99 : Hid (W9.heap[s9]? = some (.cells #[.int .i64 (x : Int), .int .i64 (y : Int)] 23 (0, 0))) := (HG9.out.block s9 (Array.getElem?_eq_some_iff.1 H98.out).1 (fun e => HV.out e.symm)).trans H98.out
              have HV10 : Hid (v9.ownBlock ≠ some s9) := by
                rcases HAT.out with e | ⟨g', e, hge⟩
                · rw [Hid, e]; exact HV.out
                · rw [Hid, e]
                  intro e2
                  have e2 := Option.some.inj e2
                  have := (Array.getElem?_eq_some_iff.1 H98.out).1
                  omega
              exact ⟨⟨0 + 1, L' ++ [(a1, a2)], _, X ++ [(a1, a2)], by omega, by go_num, by rw [Hid, HX.out, List.append_assoc], HS9.out, fun _ => by simp, fun h => absurd h (by omega), H99.out, HV10.out⟩, by simp [intOf]⟩
          · have ix := idx_pts1 (a1 : Int) (a2 : Int) (b1 : Int) (b2 : Int) wi
            have HIZ : Hid (inP N.length (b1, b2)) := ⟨by rw [HL.out]; exact hb1', by rw [HL.out]; exact hb2'⟩
            obtain ⟨W6, hW6⟩ : ∃ W, W = wi.alloc (.cells #[.int .i64 (b1 : Int), .int .i64 (b2 : Int)] 23) := ⟨_, rfl⟩
            have hb6 : Below wi.heap.size wi W6 := by rw [hW6]; exact (Below.refl _ _).alloc (Nat.le_refl _) _
            have h11 : W6.heap[wi.heap.size]? = some (.cells #[.int .i64 (b1 : Int), .int .i64 (b2 : Int)] 23 (0, 0)) := by rw [hW6]; exact heap_alloc_new _ _
            have h9 := (hb6.block _ (Array.getElem?_eq_some_iff.1 H9.out).1).trans H9.out
            have HS6 := Lib.hid (HS.out.below hb6)
            have f0 := cell_in h11 (i := 0) rfl
            have f1 := cell_in h11 (i := 1) rfl
            have hZ1' : b1 ≤ 1099511627776 := by omega
            have hZ2' : b2 ≤ 1099511627776 := by omega
            by_cases hm : (b1, b2) ∈ L'
            · obtain ⟨s, hs1, _, _⟩ := HS.out.i.ys _ hm
              have lk : (Instr.lookup 87 (.map (some (w.heap.size + 1 + 1))) (.agg #[.int .i64 (b1 : Int), .int .i64 (b2 : Int)]) true).run Try.prog W6 = .ok (.tuple #[.string s, .bool true]) W6 := run_lookTk W6 87 Try.underlying87 _ _ f' HS6.out.km (x := ((b1, b2) : Pt)) ⟨hZ1', hZ2'⟩ s (by rw [hs1]; rfl) true (by rw [hs1]; rfl)
              rw [hW6] at lk f0 f1 HS6 h9
              have HM2 := Lib.hid hm
              have H9' := Lib.hid h9
              clear hm h9 hW6 h11 hb6 hs1
              go_wp2
              exact ⟨⟨1 + 1, L', f', X, by omega, by go_num, HX.out, HS6.out, fun _ => HI1.out (by omega), fun _ => HM2.out, H9'.out, HV.out⟩, by simp [intOf]⟩
            · obtain ⟨s, hs1, hs2, hs3⟩ := HS.out.i.ys (x, y) (by rw [HX.out, HP.out]; exact List.mem_append_left _ hmem.out)
              have hno := HS.out.i.no _ hm
              have lk : (Instr.lookup 87 (.map (some (w.heap.size + 1 + 1))) (.agg #[.int .i64 (b1 : Int), .int .i64 (b2 : Int)]) true).run Try.prog W6 = .ok (.tuple #[.string ⟨#[]⟩, .bool false]) W6 := run_lookTk W6 87 Try.underlying87 _ _ f' HS6.out.km (x := ((b1, b2) : Pt)) ⟨hZ1', hZ2'⟩ ByteArray.empty (by rw [hno]; rfl) false (by rw [hno]; rfl)
              have hb7 : Below W6.heap.size W6 W6.drew := (Below.refl _ _).drew
              have HS7 := Lib.hid (HS6.out.below hb7)
              have h97 : W6.drew.heap[s9]? = _ := h9
              have g0 := cell_in h97 (i := 0) rfl
              have g1 := cell_in h97 (i := 1) rfl
              have h117 : W6.drew.heap[wi.heap.size]? = _ := h11
              have g2 := cell_in h117 (i := 0) rfl
              have g3 := cell_in h117 (i := 1) rfl
              have lk2 : (Instr.lookup 87 (.map (some (w.heap.size + 1 + 1))) (.agg #[.int .i64 (x : Int), .int .i64 (y : Int)]) false).run Try.prog W6.drew = .ok (.string s) W6.drew := run_lookT W6.drew 87 Try.underlying87 _ _ f' HS7.out.km (x := ((x, y) : Pt)) ⟨by show x ≤ _; omega, by show y ≤ _; omega⟩ s (by rw [hs1]; rfl)
              have HL5 : Hid (L'.length ≤ 1000000) := by rw [Hid]; have := HS.out.i.len; rw [HL.out] at this; omega
              obtain ⟨W8, hup, hk8, hg8⟩ := run_storeK W6.drew HS7.out.km 87 Try.underlying87 (by have := HL5.out; omega) (k := ((b1, b2) : Pt)) ⟨hZ1', hZ2'⟩ (.string (s ++ stepB 1)) (strL (s ++ stepB 1)) (plainElem_string Try.underlying9 (by rw [ByteArray.size_append]; have : (stepB 1).size = 1 := rfl; have := HL5.out; unfold maxLen; omega))
              rw [hW6] at lk f0 f1
              have HW6 := Lib.hid hW6
              have HM2 := Lib.hid hm
              have HUP := Lib.hid hup
              have HLD := Lib.hid hs2
              have HSZ := Lib.hid hs3
              have HK8 := Lib.hid hk8
              have HG8 := Lib.hid hg8
              have H11 := Lib.hid h117
              have H97 := Lib.hid h97
              have HLW : Hid (wi.heap.size < W6.drew.heap.size) := (Array.getElem?_eq_some_iff.1 h117).1
              have HL9 : Hid (s9 < W6.drew.heap.size) := (Array.getElem?_eq_some_iff.1 h97).1
              have HWI : Hid (w.heap.size + 5 ≤ wi.heap.size) := by have := HS.out.sz; have := HG2.out; rw [Hid]; omega
              clear hm hup hW6 hs1 hs2 hs3 hno hk8 hg8 h9 h11 hb6 hb7 h97 h117
              go_wp2
              rw [← HW6.out]
              have hup : (Instr.mapUpdate 87 (.map (some (w.heap.size + 1 + 1))) (.agg #[.int .i64 (b1 : Int), .int .i64 (b2 : Int)]) (.string (s ++ (⟨#[97, 98]⟩ : ByteArray).extract 1 2))).run Try.prog W6.drew = .ok () W8 := HUP.out
              have hadd := run_string_add_sum (P := Try.prog) W6.drew s ((⟨#[97, 98]⟩ : ByteArray).extract 1 2) (by have := HSZ.out; have := HL5.out; show s.size + 1 ≤ _; omega)
              go_region
              have HL6 : Hid ((L'.map ptI).length ≤ 1099511627776) := by rw [Hid, List.length_map]; have := HL5.out; omega
              have HWZ : Hid (w.heap.size ≤ W8.heap.size) := Nat.le_trans HS7.out.bl.size HG8.out.size
              have HO8 : Hid (Owp W8 w.heap.size 23 u6 (L'.map ptI)) := by
                refine HS7.out.ow.same fun i hi => HG8.out.block i (HS7.out.ow.lt hi).2 ?_
                intro e
                have := HS7.out.ap i hi
                have := HG2.out
                have e : i = w.heap.size + 2 := Option.some.inj e
                omega
              have h118 := (HG8.out.block wi.heap.size HLW.out (by intro e; have e := Option.some.inj e; have := HWI.out; omega)).trans H11.out
              have m0 := cell_in h118 (i := 0) rfl
              have m1 := cell_in h118 (i := 1) rfl
              have H98 := Lib.hid ((HG8.out.block s9 HL9.out (by intro e; have e := Option.some.inj e; have := HWO.out; omega)).trans H97.out)
              clear hup hadd lk lk2 g0 g1 g2 g3 f0 f1 ix h118
              go_wp2_with (at_builtin; go_must (refine pushp_law _ rfl (.tmp 66) (.tmp 68) 25 rfl w.heap.size 23 ti Try.underlying25 HIP.out _ (L'.map ptI) (b1 : Int) (b2 : Int) rfl rfl HO8.out HL6.out HWZ.out ?_); intro v9 W9 hv9 hg9 hat9; have HV9 := Lib.hid hv9; have HG9 := Lib.hid hg9; have HAT := Lib.hid hat9; clear hv9 hg9 hat9)
              have HS9 : Hid (SrS N (p, q) w w.heap.size g (L' ++ [(b1, b2)]) (putK f' (b1, b2) (strL (s ++ stepB 1))) v9 W9) := by
                refine HS7.out.put (x := (b1, b2)) HM2.out HIZ.out ?_ ?_ HK8.out HG8.out HV9.out HG9.out HAT.out
                · have := lead_j HLD.out HJE.out (j := 1) (by omega)
                  rw [this, ← HB.out]
                  rfl
                · rw [ByteArray.size_append]
                  show s.size + 1 ≤ _
                  exact HSZ.out
              have H99 : Hid (W9.heap[s9]? = some (.cells #[.int .i64 (x : Int), .int .i64 (y : Int)] 23 (0, 0))) := (HG9.out.block s9 (Array.getElem?_eq_some_iff.1 H98.out).1 (fun e => HV.out e.symm)).trans H98.out
              have HV10 : Hid (v9.ownBlock ≠ some s9) := by
                rcases HAT.out with e | ⟨g', e, hge⟩
                · rw [Hid, e]; exact HV.out
                · rw [Hid, e]
                  intro e2
                  have e2 := Option.some.inj e2
                  have := (Array.getElem?_eq_some_iff.1 H98.out).1
                  omega
              exact ⟨⟨1 + 1, L' ++ [(b1, b2)], _, X ++ [(b1, b2)], by omega, by go_num, by rw [Hid, HX.out, List.append_assoc], HS9.out, fun _ => List.mem_append_left _ (HI1.out (by omega)), fun _ => by simp, H99.out, HV10.out⟩, by simp [intOf]⟩
          · have HD3 : Hid (SrD N L' (k + 1)) := by
              rw [Hid, HX.out]
              refine (HD.out.more (by rw [← HM.out]; exact hk) X).step (.inr ?_)
              rw [ptAt_append (by rw [← HM.out]; exact hlt), ← HP.out, HA.out, HB.out, ← HX.out]
              exact ⟨HJE.out, HI1.out (by omega), HI2.out (by omega)⟩
            go_wp2
            exact ⟨⟨k + 1, L', f', by rw [HX.out, List.length_append, ← HM.out]; omega, by go_num, HS.out, HD3.out⟩, by simp [intOf]; omega⟩
    · have hkm : k = m := by omega
      subst hkm
      have i1 : ¬ (k : Int) < (k : Int) := by omega
      have f0 := cell_in HS.out.fd (i := 0) rfl
      have f1 := cell_in HS.out.fd (i := 1) rfl
      have f2 := cell_in HS.out.fd (i := 2) rfl
      have f3 : wo.frozen? ⟨g + 1, 1, none⟩ = false := by simp [World.frozen?, HS.out.fd]
      have HI : Hid ((Try.prog.info? 27).map (·.size) = some (#[Value.bool true, Value.slice (some ⟨b, 0, none⟩) k cap, Value.string ⟨#[]⟩] : Array Value).size) := Try.sizeFd
      have HRS : Hid ((wo.setCell ⟨g + 1, 1, none⟩ (.slice (some ⟨b, 0, none⟩) k cap)).heap[w.heap.size + 1]? = some (.cells fd0 27 (0, 0))) := by
        have hne : w.heap.size + 1 ≠ g + 1 := by have := HG2.out; omega
        rw [Hid, ← HS.out.rs]
        simp [World.setCell, Array.getElem?_modify]
        intro e
        omega
      go_wp2_with (refine wpList_store_row (by rfl) 27 (.tmp 4) (.tmp 75) (by rfl) (w.heap.size + 1) _ (by rfl) (by rfl) 27 _ HRS.out HI.out (by rfl) (by simp [Value.oneCell']) ?_)
      obtain ⟨W7, hW7, _, s7, r7⟩ := row_set #[Value.bool true, Value.slice (some ⟨b, 0, none⟩) k cap, Value.string ⟨#[]⟩] HRS.out
      have hap := HS.out.ap b rfl
      have hg2 := HG2.out
      have hset : ∀ i, i ≠ g + 1 → (wo.setCell ⟨g + 1, 1, none⟩ (.slice (some ⟨b, 0, none⟩) k cap)).heap[i]? = wo.heap[i]? := fun i hi => by
        simp [World.setCell, Array.getElem?_modify]
        intro e
        omega
      have HO2 : Owp W7 w.heap.size 23 (.slice (some ⟨b, 0, none⟩) k cap) (L.map ptI) := HS.out.ow.same fun i hi => by
        have hi : b = i := Option.some.inj hi
        rw [s7 i (by omega), hset i (by omega)]
      have HB8 : Below w.heap.size w W7 := by
        have h1 : Below w.heap.size wo (wo.setCell ⟨g + 1, 1, none⟩ (.slice (some ⟨b, 0, none⟩) k cap)) := ⟨rfl, rfl, rfl, by simp [World.setCell], fun i hi => hset i (by omega)⟩
        exact HS.out.bl.trans (h1.trans (r7 _ (by omega)))
      rw [hW7] at HO2 HB8
      refine bodyPost_ret (results_cell_row (by rfl) _ _ (w.heap.size + 1) 27 _ (0, 0) _ (by rfl) (setRow_heap _ _ _ _ _ _ HRS.out) Try.underlying27 (by rfl) HI.out) (by rfl) ⟨.inl ⟨_, L, rfl, HO2, HS.out.i.fst, HS.out.i.inn, SrD.all (by rw [← HM.out]; exact HD.out), HS.out.i.len⟩, HB8⟩
end Go.Proofs.Ytmbdjjkgjnemiaa
