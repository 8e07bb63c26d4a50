import Derived.Test.YtmbdjjkgjnemiaaT04
import Derived.Test.YtmbdjjkgjnemiaaT08
import Derived.Test.YtmbdjjkgjnemiaaT09
import Derived.Laws.ResultCell
/- Layer 6: valid types as naturals; Sub, Canonical. -/
namespace Go.Proofs.Ytmbdjjkgjnemiaa
open Go.RowKit
set_option linter.unusedVariables false

theorem results_row_tmp {P : Program} {fn : Func} {p u : Tmp} {ty : TypeId} (h : fn.results = #[.cell p ty, .tmp u]) (tmps : Array Value) (w : World) (g : Nat) (t : TypeId) (cs : Array Value) (fr : Nat × Nat) (d : TypeDesc)
    (hp : tmps.getD p undef = .pointer (some ⟨g, 0, none⟩)) (hg : w.heap[g]? = some (.cells cs t fr))
    (hu : P.underlying ty = some d) (hd : (match d with | .struct _ | .array _ _ => true | _ => false) = true) (hi : (P.info? ty).map (·.size) = some cs.size) (v : Value) (hv : tmps.getD u undef = v) :
    (results fn tmps).run P w = .ok (.tuple #[.agg cs, v]) w := by
  rw [results_cell_tmp h, hp]
  simp [asAddr, run_loadVar_row w g t ty cs fr d hg hu hd hi, Result.andThen]
  simpa using hv
/-- The nodes are types. -/
def valB (zs : List Ty) : Bool := decide (1 ≤ zs.length) && decide (zs.length ≤ 24) && tysB zs.length zs
theorem validB_is (zs : List Ty) (ps : List Int) : validB zs ps = (valB zs && insB zs.length ps) := rfl
def toNd (x : Ty) : Nd := ⟨x.k.toNat, x.a.toNat, x.b.toNat⟩
def toN (zs : List Ty) : List Nd := zs.map toNd
theorem toN_len (zs : List Ty) : (toN zs).length = zs.length := by simp [toN]
theorem toN_at {zs : List Ty} {i : Nat} (h : i < zs.length) : nd (toN zs) i = toNd (tyAt zs i) := by
  unfold nd toN tyAt
  rw [List.getElem?_map, List.getElem?_eq_getElem h]; rfl
theorem nodeB_iff {n : Nat} {x : Ty} : nodeB n x = true ↔ (0 ≤ x.k ∧ x.k ≤ 5) ∧ (4 ≤ x.k ∨ (x.a = 0 ∧ x.b = 0)) ∧ (0 ≤ x.a ∧ x.a < (n : Int)) ∧ (0 ≤ x.b ∧ x.b < (n : Int)) := by
  unfold nodeB
  rw [Bool.and_eq_true, Bool.and_eq_true, Bool.and_eq_true, Bool.and_eq_true, Bool.or_eq_true, Bool.and_eq_true, inB_iff, inB_iff]
  simp only [decide_eq_true_eq]
  exact ⟨fun ⟨⟨h1, h2⟩, h3⟩ => ⟨h1, h2, h3⟩, fun ⟨h1, h2, h3⟩ => ⟨⟨h1, h2⟩, h3⟩⟩
theorem valB_node {zs : List Ty} (h : valB zs = true) {i : Nat} (hi : i < zs.length) : nodeB zs.length (tyAt zs i) = true := by
  unfold valB at h
  rw [Bool.and_eq_true] at h
  exact allB_iff.1 h.2 i hi
theorem valB_len {zs : List Ty} (h : valB zs = true) : 1 ≤ zs.length ∧ zs.length ≤ 24 := by
  unfold valB at h
  rw [Bool.and_eq_true, Bool.and_eq_true] at h
  exact ⟨of_decide_eq_true h.1.1, of_decide_eq_true h.1.2⟩
theorem valB_ok {zs : List Ty} (h : valB zs = true) : OkN (toN zs) := by
  have hl := valB_len h
  have key : ∀ i, i < zs.length → (nd (toN zs) i).k < 6 ∧ ((nd (toN zs) i).k < 4 → (nd (toN zs) i).a = 0 ∧ (nd (toN zs) i).b = 0) ∧ (nd (toN zs) i).a < zs.length ∧ (nd (toN zs) i).b < zs.length := fun i hi => by
    rw [toN_at hi]
    have := nodeB_iff.1 (valB_node h hi)
    unfold toNd
    dsimp only
    omega
  refine ⟨by rw [toN_len]; omega, fun i hi => ?_, fun i hi => ?_, fun i hi => ?_, fun i hi => ?_⟩
  · rw [toN_len] at hi; exact (key i hi).1
  · rw [toN_len] at hi; exact (key i hi).2.1
  · rw [toN_len] at hi ⊢; exact (key i hi).2.2.1
  · rw [toN_len] at hi ⊢; exact (key i hi).2.2.2
theorem Tl.nl {w : World} {A : Option Addr} {n c : Nat} {zs : List Ty} (h : Tl w A n c zs) (hv : valB zs = true) : Nl w A n c (toN zs) := by
  have hl := h.len
  refine ⟨by rw [toN_len]; exact hl, h.cap, h.big, fun k hk => ?_⟩
  obtain ⟨b, off, e, hb, c0, c1, c2⟩ := h.rows k hk
  have := nodeB_iff.1 (valB_node hv (i := k) (by omega))
  refine ⟨b, off, e, hb, ?_, ?_, ?_⟩
  · rw [toN_at (by omega), c0]; unfold toNd; rw [Int.toNat_of_nonneg (by omega)]
  · rw [toN_at (by omega), c1]; unfold toNd; rw [Int.toNat_of_nonneg (by omega)]
  · rw [toN_at (by omega), c2]; unfold toNd; rw [Int.toNat_of_nonneg (by omega)]
theorem insB_one (n : Nat) (x : Int) : insB n [x] = inB n x := by unfold insB allB; simp [List.range_succ]
theorem inB_nat {n p : Nat} (h : p < n) : inB n (p : Int) = true := inB_iff.2 ⟨by omega, by omega⟩
theorem valid2 {zs : List Ty} {i j : Int} {b : Bool} (hb : (valB zs && (inB zs.length i && inB zs.length j)) = b) {A : Option Addr} {n c g : Nat} {W : World} (h : Tl W A n c zs) (hs : Sl W (some ⟨g, 0, none⟩) 2 2 [i, j]) :
    Calls Try.prog 40 #[.slice A n c, .slice (some ⟨g, 0, none⟩) 2 2] W fun e w' => e = .returned (.bool b) ∧ Below W.heap.size W w' := by
  have := valid_any A n c zs _ 2 2 [i, j] W h hs
  rw [validB_is, insB_two, hb] at this
  exact this
theorem valid1 {zs : List Ty} {i : Int} {b : Bool} (hb : (valB zs && inB zs.length i) = b) {A : Option Addr} {n c g : Nat} {W : World} (h : Tl W A n c zs) (hs : Sl W (some ⟨g, 0, none⟩) 1 1 [i]) :
    Calls Try.prog 40 #[.slice A n c, .slice (some ⟨g, 0, none⟩) 1 1] W fun e w' => e = .returned (.bool b) ∧ Below W.heap.size W w' := by
  have := valid_any A n c zs _ 1 1 [i] W h hs
  rw [validB_is, insB_one, hb] at this
  exact this
theorem Try.sizeFd' : (Try.prog.info? 27).map (·.size) = some 3 := by kernel_rfl
abbrev bad2 (zs : List Ty) (i j : Int) : Prop := (valB zs && (inB zs.length i && inB zs.length j)) = false
set_option maxRecDepth 100000 in
set_option maxHeartbeats 3200000 in
theorem sub_bad (zs : List Ty) (A : Option Addr) (n c : Nat) (i j : Int) (w : World) (hN : Tl w A n c zs) (h : bad2 zs i j) :
    Calls Try.prog 16 #[.slice A n c, .int .i64 i, .int .i64 j] w fun e w' => e = .returned (.tuple #[.agg #[.bool false, .slice none 0 0, .string ⟨#[]⟩], .int .i64 2]) ∧ Below w.heap.size w w' := by
  obtain ⟨W, hW⟩ : ∃ W, W = (w.alloc (.cells #[.bool false, .slice none 0 0, .string ⟨#[]⟩] 27)).alloc (.cells #[.int .i64 i, .int .i64 j] 3) := ⟨_, rfl⟩
  have hb : Below w.heap.size w W := by rw [hW]; exact ((Below.refl _ w).alloc (Nat.le_refl _) _).alloc (by simp) _
  have hr : W.heap[w.heap.size]? = some (.cells #[.bool false, .slice none 0 0, .string ⟨#[]⟩] 27 (0, 0)) := by
    rw [hW]
    show ((w.heap.push _).push _)[w.heap.size]? = _
    rw [Array.getElem?_push, if_neg (by simp), Array.getElem?_push, if_pos rfl]
  have HV := Lib.hid (valid2 h (hN.below hb (Nat.le_refl _)) (g := w.heap.size + 1) (by rw [hW]; exact Sl.two_at _ _ _ _ _ (by simp)))
  have HB := Lib.hid hb
  have HR := Lib.hid hr
  have HW := Lib.hid hW
  have HI : Hid ((Try.prog.info? 27).map (·.size) = some (#[Value.bool false, Value.slice none 0 0, Value.string ⟨#[]⟩] : Array Value).size) := Try.sizeFd'
  have hsz : w.heap.size < W.heap.size := by rw [hW]; simp; omega
  clear hW hr hb hN h
  go_enter Try.func16, Try.ntmps16
  go_wp2_with (first
    | (go_at_call 40; rw [← HW.out]; refine HV.out.mono ?_; rintro e w1 ⟨rfl, hb1⟩; have HB1 := Lib.hid (HB.out.trans (hb1.mono HB.out.size)); have HR1 := Lib.hid ((hb1.block _ hsz).trans HR.out); clear hb1)
    | (refine wpList_store_row (by rfl) 27 (.tmp 6) (.tmp 14) (by rfl) w.heap.size _ (by rfl) (by rfl) 27 _ HR1.out HI.out (by rfl) (by simp [Value.oneCell']) ?_))
  obtain ⟨W6, hW6, r6, _, b6⟩ := row_set #[Value.bool false, Value.slice none 0 0, Value.string ⟨#[]⟩] HR1.out
  rw [← hW6]
  refine bodyPost_ret (results_row_tmp (by rfl) _ _ w.heap.size 27 _ (0, 0) _ (by rfl) r6 Try.underlying27 (by rfl) HI.out _ (by rfl)) (by rfl) ⟨rfl, HB1.out.trans (b6 _ (Nat.le_refl _))⟩
/-- A finding about p. -/
def FdQ (N : List Nd) (p : Pt) (s : Nat) (b : Bool) (X : Option Addr) (m c : Nat) (t : ByteArray) (w' : World) : Prop :=
  (b = true ∧ t = ⟨#[]⟩ ∧ ∃ L : List Pt, L.length = m ∧ Owp w' s 23 (.slice X m c) (L.map ptI) ∧ p ∈ L ∧ (∀ q ∈ L, inP N.length q) ∧ (∀ q ∈ L, folB N L q = true) ∧ L.length ≤ N.length * N.length) ∨
  (b = false ∧ X = none ∧ m = 0 ∧ c = 0 ∧ refB N p (bs t) = true ∧ t.size + 1 ≤ N.length * N.length)
theorem FdQ.below {N : List Nd} {p : Pt} {s : Nat} {b : Bool} {X : Option Addr} {m c : Nat} {t : ByteArray} {w w' : World} (h : FdQ N p s b X m c t w) (hk : ∀ k, s ≤ k → k < w.heap.size → w'.heap[k]? = w.heap[k]?) : FdQ N p s b X m c t w' := by
  rcases h with ⟨h1, h2, L, h3, h4, h5⟩ | h
  · exact .inl ⟨h1, h2, L, h3, h4.same fun k e => by have := h4.lt e; exact hk k this.1 this.2, h5⟩
  · exact .inr h
theorem FdQ.base {N : List Nd} {p : Pt} {s s' : Nat} {b : Bool} {X : Option Addr} {m c : Nat} {t : ByteArray} {w : World} (h : FdQ N p s b X m c t w) (hs : s' ≤ s) : FdQ N p s' b X m c t w := by
  rcases h with ⟨h1, h2, L, h3, h4, h5⟩ | h
  · exact .inl ⟨h1, h2, L, h3, h4.base hs, h5⟩
  · exact .inr h
theorem FdQ.holds {N : List Nd} {p : Pt} {s : Nat} {b : Bool} {X : Option Addr} {m c : Nat} {t : ByteArray} {w : World} (h : FdQ N p s b X m c t w) : b = true ↔ SubT N p := by
  rcases h with ⟨rfl, _, L, _, _, h5, _, h7, _⟩ | ⟨rfl, _, _, _, h5, _⟩
  · exact ⟨fun _ => sub_of_closed h7 h5, fun _ => rfl⟩
  · exact ⟨fun e => (by cases e), fun hs => absurd hs (refB_not _ _ h5)⟩
theorem search_fd (N : List Nd) (A : Option Addr) (n c p q : Nat) (w : World) (hN : Nl w A n c N) (hok : OkN N) (hp : p < n) (hq : q < n) (hn : n ≤ 1000) :
    Calls Try.prog 41 #[.slice A n c, .agg #[.int .i64 (p : Int), .int .i64 (q : Int)]] w fun e w' => (∃ b X m d t, e = .returned (.agg #[.bool b, .slice X m d, .string t]) ∧ FdQ N (p, q) w.heap.size b X m d t w') ∧ Below w.heap.size w w' := by
  refine (search_any N A n c p q w hN hok hp hq hn).mono ?_
  rintro e w' ⟨⟨v, L, rfl, h1, h2, h3, h4, h5⟩ | ⟨t, rfl, h1, h2⟩, hb⟩
  · obtain ⟨g, cap, rfl, _⟩ := h1.form (n := L.length) (by simp) (List.length_pos_of_mem h2)
    exact ⟨⟨true, _, _, _, _, rfl, .inl ⟨rfl, rfl, L, rfl, h1, h2, h3, h4, h5⟩⟩, hb⟩
  · exact ⟨⟨false, none, 0, 0, t, rfl, .inr ⟨rfl, rfl, rfl, rfl, h1, h2⟩⟩, hb⟩
set_option maxRecDepth 100000 in
set_option maxHeartbeats 3200000 in
/-- Sub of types. -/
theorem sub_any (zs : List Ty) (A : Option Addr) (n c p q : Nat) (w : World) (hN : Tl w A n c zs) (hv : valB zs = true) (hp : p < n) (hq : q < n) :
    Calls Try.prog 16 #[.slice A n c, .int .i64 (p : Int), .int .i64 (q : Int)] w fun e w' => (∃ b X m d t, e = .returned (.tuple #[.agg #[.bool b, .slice X m d, .string t], .int .i64 0]) ∧ FdQ (toN zs) (p, q) w.heap.size b X m d t w') ∧ Below w.heap.size w w' := by
  obtain ⟨W, hW⟩ : ∃ W, W = (w.alloc (.cells #[.bool false, .slice none 0 0, .string ⟨#[]⟩] 27)).alloc (.cells #[.int .i64 (p : Int), .int .i64 (q : Int)] 3) := ⟨_, rfl⟩
  have hb : Below w.heap.size w W := by rw [hW]; exact ((Below.refl _ w).alloc (Nat.le_refl _) _).alloc (by simp) _
  have hr : W.heap[w.heap.size]? = some (.cells #[.bool false, .slice none 0 0, .string ⟨#[]⟩] 27 (0, 0)) := by
    rw [hW]
    show ((w.heap.push _).push _)[w.heap.size]? = _
    rw [Array.getElem?_push, if_neg (by simp), Array.getElem?_push, if_pos rfl]
  have hl := hN.len
  have h24 := (valB_len hv).2
  have HV := Lib.hid (valid2 (b := true) (i := (p : Int)) (j := (q : Int)) (by rw [hv, inB_nat (by omega), inB_nat (by omega)]; rfl) (hN.below hb (Nat.le_refl _)) (g := w.heap.size + 1) (by rw [hW]; exact Sl.two_at _ _ _ _ _ (by simp)))
  have HSE : Hid (∀ W', Below w.heap.size w W' → Calls Try.prog 41 #[.slice A n c, .agg #[.int .i64 (p : Int), .int .i64 (q : Int)]] W' fun e w' => (∃ b X m d t, e = .returned (.agg #[.bool b, .slice X m d, .string t]) ∧ FdQ (toN zs) (p, q) W'.heap.size b X m d t w') ∧ Below W'.heap.size W' w') := fun W' hb' => search_fd (toN zs) A n c p q W' ((hN.nl hv).below hb' (Nat.le_refl _)) (valB_ok hv) hp hq (by omega)
  have HB := Lib.hid hb
  have HR := Lib.hid hr
  have HW := Lib.hid hW
  have HI : Hid (∀ b X m d t, (Try.prog.info? 27).map (·.size) = some (#[Value.bool b, Value.slice X m d, Value.string t] : Array Value).size) := fun _ _ _ _ _ => Try.sizeFd'
  have hsz : w.heap.size < W.heap.size := by rw [hW]; simp; omega
  clear hW hr hb hN hv
  go_enter Try.func16, Try.ntmps16
  go_wp2_with (first
    | (go_at_call 40; rw [← HW.out]; refine HV.out.mono ?_; rintro e w1 ⟨rfl, hb1⟩; have HB1 := Lib.hid (HB.out.trans (hb1.mono HB.out.size)); have HR1 := Lib.hid ((hb1.block _ hsz).trans HR.out); have hsz1 := Nat.lt_of_lt_of_le hsz hb1.size; clear hb1)
    | (go_at_call 41; refine (HSE.out _ HB1.out).mono ?_; rintro e w2 ⟨⟨b, X, m, d, t, rfl, hfd⟩, hb2⟩; have HFD := Lib.hid hfd; have HB2 := Lib.hid (HB1.out.trans (hb2.mono HB1.out.size)); have HR2 := Lib.hid ((hb2.block _ hsz1).trans HR1.out); clear hfd hb2)
    | (refine wpList_store_row (by rfl) 27 (.tmp 6) (.tmp 19) (by rfl) w.heap.size _ (by rfl) (by rfl) 27 _ HR2.out (HI.out _ _ _ _ _) (by rfl) (by simp [Value.oneCell']) ?_))
  obtain ⟨W6, hW6, r6, o6, b6⟩ := row_set #[Value.bool b, Value.slice X m d, Value.string t] HR2.out
  rw [← hW6]
  refine bodyPost_ret (results_row_tmp (by rfl) _ _ w.heap.size 27 _ (0, 0) _ (by rfl) r6 Try.underlying27 (by rfl) (HI.out _ _ _ _ _) _ (by rfl)) (by rfl) ⟨⟨b, X, m, d, t, rfl, ?_⟩, HB2.out.trans (b6 _ (Nat.le_refl _))⟩
  exact (HFD.out.below fun k hk hk2 => o6 k (by omega)).base (by omega)
theorem canon_bad (zs : List Ty) (A : Option Addr) (n c : Nat) (i : Int) (w : World) (hN : Tl w A n c zs) (h : (valB zs && inB zs.length i) = false) :
    Calls Try.prog 24 #[.slice A n c, .int .i64 i] w fun e w' => e = .returned (.tuple #[.slice none 0 0, .int .i64 2]) ∧ Below w.heap.size w w' := by
  have hb : Below w.heap.size w (w.alloc (.cells #[.int .i64 i] 3)) := (Below.refl _ w).alloc (Nat.le_refl _) _
  have HV := Lib.hid (valid1 h (hN.below hb (Nat.le_refl _)) (Sl.one w 3 i))
  have HB := Lib.hid hb
  clear hb hN h
  go_enter Try.func24, Try.ntmps24
  go_wp2_with (go_at_call 40; refine HV.out.mono ?_; rintro e w1 ⟨rfl, hb1⟩)
  go_ret2
  exact ⟨rfl, HB.out.trans (hb1.mono HB.out.size)⟩
theorem canon_any (zs : List Ty) (A : Option Addr) (n c i : Nat) (w : World) (hN : Tl w A n c zs) (hv : valB zs = true) (hi : i < n) :
    Calls Try.prog 24 #[.slice A n c, .int .i64 (i : Int)] w fun e w' => (∃ u out, e = .returned (.tuple #[u, .int .i64 0]) ∧ IsCan (toN zs) i out ∧ Ow3 w' w.heap.size u out) ∧ Below w.heap.size w w' := by
  have hb : Below w.heap.size w (w.alloc (.cells #[.int .i64 (i : Int)] 3)) := (Below.refl _ w).alloc (Nat.le_refl _) _
  have hl := hN.len
  have h24 := (valB_len hv).2
  have HV := Lib.hid (valid1 (b := true) (by rw [hv, inB_nat (by omega)]; rfl) (hN.below hb (Nat.le_refl _)) (Sl.one w 3 (i : Int)))
  have HC : Hid (∀ W, Below w.heap.size w W → Calls Try.prog 47 #[.slice A n c, .int .i64 (i : Int)] W fun e w' => (∃ u out, e = .returned u ∧ IsCan (toN zs) i out ∧ Ow3 w' W.heap.size u out) ∧ Below W.heap.size W w') := fun W hW => canonical_any (toN zs) A n c i W ((hN.nl hv).below hW (Nat.le_refl _)) (valB_ok hv) hi (by omega)
  have HB := Lib.hid hb
  clear hb hN hv
  go_enter Try.func24, Try.ntmps24
  go_wp2_with (first
    | (go_at_call 40; refine HV.out.mono ?_; rintro e w1 ⟨rfl, hb1⟩; have HB1 := Lib.hid (HB.out.trans (hb1.mono HB.out.size)); clear hb1)
    | (go_at_call 47; refine (HC.out _ HB1.out).mono ?_; rintro e w2 ⟨⟨u, out, rfl, hu, ho⟩, hb2⟩; have HU := Lib.hid hu; have HO := Lib.hid ho; have HB2 := Lib.hid hb2; clear hu ho hb2))
  go_ret2
  exact ⟨⟨u, out, rfl, HU.out, HO.out.base HB1.out.size⟩, HB1.out.trans (HB2.out.mono HB1.out.size)⟩
theorem depth_bad (zs : List Ty) (A : Option Addr) (n c : Nat) (i : Int) (w : World) (hN : Tl w A n c zs) (h : (valB zs && inB zs.length i) = false) :
    Calls Try.prog 31 #[.slice A n c, .int .i64 i] w fun e w' => e = .returned (.tuple #[.int .i64 0, .int .i64 2]) ∧ Below w.heap.size w w' := by
  have hb : Below w.heap.size w (w.alloc (.cells #[.int .i64 i] 3)) := (Below.refl _ w).alloc (Nat.le_refl _) _
  have HV := Lib.hid (valid1 h (hN.below hb (Nat.le_refl _)) (Sl.one w 3 i))
  have HB := Lib.hid hb
  clear hb hN h
  go_enter Try.func31, Try.ntmps31
  go_wp2_with (go_at_call 40; refine HV.out.mono ?_; rintro e w1 ⟨rfl, hb1⟩)
  go_ret2
  exact ⟨rfl, HB.out.trans (hb1.mono HB.out.size)⟩
theorem depth_of (zs : List Ty) (A : Option Addr) (n c i : Nat) (w : World) (hN : Tl w A n c zs) (hv : valB zs = true) (hi : i < n) :
    Calls Try.prog 31 #[.slice A n c, .int .i64 (i : Int)] w fun e w' => ((dep (toN zs) n i < n ∧ e = .returned (.tuple #[.int .i64 (dep (toN zs) n i : Nat), .int .i64 0])) ∨ (dep (toN zs) n i = n ∧ e = .returned (.tuple #[.int .i64 0, .int .i64 6]))) ∧ Below w.heap.size w w' := by
  have hl := hN.len
  have h24 := (valB_len hv).2
  exact depth_any (toN zs) A n c i w (hN.nl hv) (valB_ok hv) hi (by omega) fun g W hW hs => valid1 (b := true) (by rw [hv, inB_nat (by omega)]; rfl) (hN.below hW (Nat.le_refl _)) hs
end Go.Proofs.Ytmbdjjkgjnemiaa
/- Layer 6: lists of nodes are compared. -/
namespace Go.Proofs.Ytmbdjjkgjnemiaa
open Go.RowKit
set_option linter.unusedVariables false

set_option maxRecDepth 100000 in
theorem run_equalIn_ty (W : World) (p q r s t u : Int) : (Op.equalIn 10000 59 (.agg #[.int .i64 p, .int .i64 q, .int .i64 r]) (.agg #[.int .i64 s, .int .i64 t, .int .i64 u])).run Try.prog W = .ok (p == s && (q == t && r == u)) W := by
  by_cases h : p = s
  · subst h
    by_cases h2 : q = t
    · subst h2
      by_cases h3 : r = u
      · subst h3; simp [go_sem]
      · have h4 : (r == u) = false := by simpa using h3
        simp [go_sem, h4]
    · have h3 : (q == t) = false := by simpa using h2
      simp [go_sem, h3]
  · have h3 : (p == s) = false := by simpa using h
    simp [go_sem, h3]
def eqN (N M : List Nd) : Bool := decide (N = M)
theorem eqN_len {N M : List Nd} (h : N.length ≠ M.length) : false = eqN N M := by
  unfold eqN; rw [decide_eq_false]; rintro rfl; exact h rfl
theorem eqN_at {N M : List Nd} (k : Nat) (h : nd N k ≠ nd M k) : false = eqN N M := by
  unfold eqN; rw [decide_eq_false]; rintro rfl; exact h rfl
theorem eqN_all {N M : List Nd} {n : Nat} (hx : N.length = n) (hy : M.length = n) (h : ∀ j, j < n → nd N j = nd M j) : true = eqN N M := by
  unfold eqN
  rw [decide_eq_true]
  refine List.ext_getElem (by omega) fun i h1 h2 => ?_
  have := h i (by omega)
  unfold nd at this
  rwa [List.getElem?_eq_getElem h1, List.getElem?_eq_getElem h2] at this
set_option maxHeartbeats 1600000 in
theorem types_any (N M : List Nd) (A B : Option Addr) (n c m d : Nat) (w : World) (hN : Nl w A n c N) (hM : Nl w B m d M) :
    Calls Try.prog 25 #[.slice A n c, .slice B m d] w fun e w' => e = .returned (.bool (eqN N M)) ∧ Dr w w' := by
  have HLN : Hid (N.length = n) := hN.len
  have HLM : Hid (M.length = m) := hM.len
  have hbn := hN.big
  have hbm := hM.big
  have HN := Lib.hid hN
  have HM := Lib.hid hM
  clear hN hM
  by_cases hnm : n = m
  · subst hnm
    have hb : ((n : Int) != n) = false := by simp
    go_enter Try.func25, Try.ntmps25
    go_wp2
    go_loopw [5] (fun i w' => ∃ k : Nat, k ≤ n ∧ i = .int .i64 (k : Int) ∧ Hid (∀ j, j < k → nd N j = nd M j) ∧ Dr w w') (fun i _ => n - (intOf i).toNat)
    case atStart => exact ⟨0, Nat.zero_le _, by go_num, fun j hj => absurd hj (Nat.not_lt_zero _), Dr.refl _⟩
    case round =>
      obtain ⟨k, hk, rfl, hok, hW⟩ := hrel
      obtain ⟨wo, rfl⟩ : ∃ wo : World, wo = wr := ⟨_, rfl⟩
      by_cases hlt : k < n
      · have i1 : (k : Int) < (n : Int) := by omega
        obtain ⟨b, off, rfl, _, c0, c1, c2⟩ := (HN.out.below (hW.below w.heap.size) (Nat.le_refl _)).rows k hlt
        obtain ⟨b2, off2, rfl, _, d0, d1, d2⟩ := (HM.out.below (hW.below w.heap.size) (Nat.le_refl _)).rows k hlt
        obtain ⟨x, hx⟩ : ∃ x, x = nd N k := ⟨_, rfl⟩
        obtain ⟨y, hy⟩ : ∃ y, y = nd M k := ⟨_, rfl⟩
        rw [← hx] at c0 c1 c2
        rw [← hy] at d0 d1 d2
        have HNE : Hid (x ≠ y → false = eqN N M) := fun h => eqN_at k (by rw [← hx, ← hy]; exact h)
        have HEQ : Hid (x = y → ∀ j, j < k + 1 → nd N j = nd M j) := fun h j hj => by
          by_cases e : j = k
          · rw [e, ← hx, ← hy]; exact h
          · exact hok.out j (by omega)
        clear hx hy
        obtain ⟨p, q, r⟩ := x
        obtain ⟨s, t, u⟩ := y
        dsimp only at c0 c1 c2 d0 d1 d2
        have heq := fun V => run_equalIn_ty V (p : Int) (q : Int) (r : Int) (s : Int) (t : Int) (u : Int)
        by_cases h : p = s ∧ q = t ∧ r = u
        · have hv : ((p : Int) == (s : Int) && ((q : Int) == (t : Int) && (r : Int) == (u : Int))) = true := by
            obtain ⟨rfl, rfl, rfl⟩ := h
            simp
          have HEQ2 := Lib.hid (HEQ.out (by obtain ⟨rfl, rfl, rfl⟩ := h; rfl))
          rw [hv] at heq
          clear h hv
          go_wp2
          go_quiet (fail)
          go_wp2
          exact ⟨⟨k + 1, by omega, by go_num, HEQ2.out, hW.more _⟩, by simp [intOf]; omega⟩
        · have hv : ((p : Int) == (s : Int) && ((q : Int) == (t : Int) && (r : Int) == (u : Int))) = false := by
            rw [Bool.eq_false_iff]
            intro h'
            simp at h'
            omega
          have HX := Lib.hid (HNE.out (by intro e; injection e with e1 e2 e3; exact h ⟨e1, e2, e3⟩))
          rw [hv] at heq
          clear h hv
          go_wp2
          go_quiet (fail)
          go_wp2
          go_ret
          exact ⟨bend HX.out, hW.more _⟩
      · have i1 : ¬ (k : Int) < (n : Int) := by omega
        have HG : Hid (true = eqN N M) := eqN_all HLN.out HLM.out (fun j hj => hok.out j (by omega))
        go_wp2
        go_ret
        exact ⟨bend HG.out, hW⟩
  · have hb : ((n : Int) != m) = true := by simp; omega
    have HG : Hid (false = eqN N M) := eqN_len (by rw [HLN.out, HLM.out]; exact hnm)
    go_enter Try.func25, Try.ntmps25
    go_wp2
    go_ret
    exact ⟨bend HG.out, Dr.refl _⟩
end Go.Proofs.Ytmbdjjkgjnemiaa
/- Layer 6: classes are one; awake. -/
namespace Go.Proofs.Ytmbdjjkgjnemiaa
open Go.RowKit
set_option linter.unusedVariables false

theorem IsCls.uniq {N : List Nd} {c c' : Nat → Nat} (h : IsCls N c) (h' : IsCls N c') : ∀ i, i < N.length → c i = c' i := fun i hi => by
  have l1 := h.le i hi
  have l2 := h'.le i hi
  have e1 : EqT N (c i, i) := (h.iff _ _ (by omega) hi).1 (h.idem i hi)
  have e2 : EqT N (c' i, i) := (h'.iff _ _ (by omega) hi).1 (h'.idem i hi)
  have a1 : c' (c i) = c' i := (h'.iff _ _ (by omega) hi).2 e1
  have a2 : c (c' i) = c i := (h.iff _ _ (by omega) hi).2 e2
  have b1 := h'.le (c i) (by omega)
  have b2 := h.le (c' i) (by omega)
  omega
theorem nd_far {N : List Nd} {i : Nat} (h : N.length ≤ i) : nd N i = nd0 := by unfold nd; rw [List.getElem?_eq_none h]; rfl
theorem scC_congr {N : List Nd} (hok : OkN N) {c c' : Nat → Nat} (h : ∀ i, i < N.length → c i = c' i) : scC N c = scC N c' := by
  funext i
  unfold scC
  by_cases hi : i < N.length
  · rw [h _ (hok.a i hi), h _ (hok.b i hi)]
  · rw [nd_far (by omega)]; rfl
theorem IsCan.uniq {N : List Nd} (hok : OkN N) {i : Nat} (hi : i < N.length) {o o' : List Nd} (h : IsCan N i o) (h' : IsCan N i o') : o = o' := by
  obtain ⟨c, h1, h2⟩ := h
  obtain ⟨c', h1', h2'⟩ := h'
  have e := h1.uniq h1'
  rw [scC_congr hok e, e i hi] at h2
  exact h2.uniq _ _ h2'
/-- The classes after so many rounds. -/
def itC (N : List Nd) : Nat → Nat → Nat
  | 0 => fun _ => 0
  | r + 1 => fstF (keyT N (itC N r))
theorem itC_rf {N : List Nd} (hok : OkN N) : ∀ r, RfI N (itC N (r + 1)) (cntF (itC N (r + 1)) N.length)
  | 0 => (RfI.start N).step hok
  | r + 1 => (itC_rf hok r).step hok
theorem itC_cls {N : List Nd} (hok : OkN N) {r : Nat} (h : cntF (itC N (r + 1)) N.length = cntF (itC N (r + 2)) N.length) : IsCls N (itC N (r + 2)) := (itC_rf hok r).done hok h
def ZA : List Ty := [⟨4, 1, 0⟩, ⟨2, 0, 0⟩, ⟨3, 0, 0⟩, ⟨5, 4, 1⟩, ⟨1, 0, 0⟩, ⟨5, 1, 4⟩]
def NA : List Nd := [⟨4, 1, 0⟩, ⟨2, 0, 0⟩, ⟨3, 0, 0⟩, ⟨5, 4, 1⟩, ⟨1, 0, 0⟩, ⟨5, 1, 4⟩]
theorem za_val : valB ZA = true := by decide +kernel
theorem za_na : toN ZA = NA := by decide +kernel
theorem na_ok : OkN NA := za_na ▸ valB_ok za_val
theorem na_cnt : cntF (itC NA 2) 6 = cntF (itC NA 3) 6 := by decide +kernel
theorem na_id : ∀ i : Fin 6, itC NA 3 i.val = i.val := by decide +kernel
theorem na_cls : IsCls NA (itC NA 3) := itC_cls na_ok (r := 1) na_cnt
def NC : List Nd := [⟨4, 1, 0⟩, ⟨2, 0, 0⟩]
theorem na_unf : Unf (scC NA id) 0 (mkC NA) NC := ⟨2, by decide +kernel, by decide +kernel⟩
theorem na_can : IsCan NA 0 NC := ⟨itC NA 3, na_cls, by
  have e : ∀ i, i < NA.length → itC NA 3 i = id i := fun i hi => na_id ⟨i, hi⟩
  rw [scC_congr na_ok e, e 0 (by decide)]
  exact na_unf⟩
theorem bs_nil {t : ByteArray} (h : bs t = []) : t = ⟨#[]⟩ := by
  unfold bs at h
  have h2 : t.data.toList = [] := List.map_eq_nil_iff.1 h
  obtain ⟨⟨l⟩⟩ := t
  simp at h2
  rw [h2]
theorem aw_ref {t : List Int} (h : refB NA (1, 2) t = true) : t = [] := by
  cases t with
  | nil => rfl
  | cons c s =>
    unfold refB at h
    have : jud NA (1, 2) = 1 := by decide +kernel
    rw [this] at h
    simp at h
theorem aw_sub1 (A : Option Addr) (W : World) (hT : Tl W A 6 6 ZA) : Calls Try.prog 16 #[.slice A 6 6, .int .i64 1, .int .i64 2] W fun e w' => e = .returned (.tuple #[.agg #[.bool false, .slice none 0 0, .string ⟨#[]⟩], .int .i64 0]) ∧ Below W.heap.size W w' := by
  refine (sub_any ZA A 6 6 1 2 W hT za_val (by omega) (by omega)).mono ?_
  rintro e w' ⟨⟨b, X, m, d, t, rfl, h⟩, hb⟩
  rw [za_na] at h
  rcases h with ⟨rfl, _, L, _, _, h5, _, h7, _⟩ | ⟨rfl, rfl, rfl, rfl, h5, _⟩
  · exact absurd (sub_of_closed h7 h5) (refB_not [] (1, 2) (by decide +kernel))
  · rw [bs_nil (aw_ref h5)]
    exact ⟨rfl, hb⟩
theorem aw_sub2 (A : Option Addr) (W : World) (hT : Tl W A 6 6 ZA) : Calls Try.prog 16 #[.slice A 6 6, .int .i64 3, .int .i64 5] W fun e w' => (∃ X m d t, e = .returned (.tuple #[.agg #[.bool true, .slice X m d, .string t], .int .i64 0])) ∧ Below W.heap.size W w' := by
  refine (sub_any ZA A 6 6 3 5 W hT za_val (by omega) (by omega)).mono ?_
  rintro e w' ⟨⟨b, X, m, d, t, rfl, h⟩, hb⟩
  rw [za_na] at h
  have : b = true := h.holds.2 (sub_of_closed (L := [(3, 5), (1, 4)]) (by decide +kernel) (by simp))
  subst this
  exact ⟨⟨X, m, d, t, rfl⟩, hb⟩
theorem aw_can (A : Option Addr) (W : World) (hT : Tl W A 6 6 ZA) : Calls Try.prog 24 #[.slice A 6 6, .int .i64 0] W fun e w' => (∃ B d, e = .returned (.tuple #[.slice B 2 d, .int .i64 0]) ∧ Nl w' B 2 d NC) ∧ Below W.heap.size W w' := by
  refine (canon_any ZA A 6 6 0 W hT za_val (by omega)).mono ?_
  rintro e w' ⟨⟨u, out, rfl, h, ho⟩, hb⟩
  rw [za_na] at h
  have := h.uniq na_ok (by decide) na_can
  subst this
  obtain ⟨B, d, rfl, hn⟩ := ho.nl (n := 2) rfl (by omega) (by omega)
  exact ⟨⟨B, d, rfl, hn⟩, hb⟩
theorem aw_dep1 (A : Option Addr) (W : World) (hT : Tl W A 6 6 ZA) : Calls Try.prog 31 #[.slice A 6 6, .int .i64 3] W fun e w' => e = .returned (.tuple #[.int .i64 1, .int .i64 0]) ∧ Below W.heap.size W w' := by
  refine (depth_of ZA A 6 6 3 W hT za_val (by omega)).mono ?_
  have h1 : dep NA 6 3 = 1 := by decide +kernel
  rintro e w' ⟨⟨_, rfl⟩ | ⟨h, rfl⟩, hb⟩
  · rw [za_na, h1]; exact ⟨rfl, hb⟩
  · rw [za_na, h1] at h; omega
theorem aw_dep2 (A : Option Addr) (W : World) (hT : Tl W A 6 6 ZA) : Calls Try.prog 31 #[.slice A 6 6, .int .i64 0] W fun e w' => e = .returned (.tuple #[.int .i64 0, .int .i64 6]) ∧ Below W.heap.size W w' := by
  refine (depth_of ZA A 6 6 0 W hT za_val (by omega)).mono ?_
  have h1 : dep NA 6 0 = 6 := by decide +kernel
  rintro e w' ⟨⟨h, rfl⟩ | ⟨_, rfl⟩, hb⟩
  · rw [za_na, h1] at h; omega
  · exact ⟨rfl, hb⟩
end Go.Proofs.Ytmbdjjkgjnemiaa
/- Layer 6: awake answers true. -/
namespace Go.Proofs.Ytmbdjjkgjnemiaa
open Go.RowKit
set_option linter.unusedVariables false

abbrev awV : Array Value := #[.int .i64 4, .int .i64 1, .int .i64 0, .int .i64 2, .int .i64 0, .int .i64 0, .int .i64 3, .int .i64 0, .int .i64 0, .int .i64 5, .int .i64 4, .int .i64 1, .int .i64 1, .int .i64 0, .int .i64 0, .int .i64 5, .int .i64 1, .int .i64 4]
theorem aw_tl (w : World) (t : Nat) : Tl (w.alloc (.cells awV t)) (some ⟨w.heap.size, 0, none⟩) 6 6 ZA := by
  refine ⟨rfl, by omega, by omega, fun e => (by cases e), fun k hk => ⟨w.heap.size, 0, rfl, by simp, ?_⟩⟩
  have hc : ∀ i v, awV[i]? = some v → (w.alloc (.cells awV t)).cell? ⟨w.heap.size, i, none⟩ = some v := fun i v hv => cell_in (heap_alloc_new w _) hv
  rcases (by omega : k = 0 ∨ k = 1 ∨ k = 2 ∨ k = 3 ∨ k = 4 ∨ k = 5) with rfl | rfl | rfl | rfl | rfl | rfl
  all_goals exact ⟨hc _ _ rfl, hc _ _ rfl, hc _ _ rfl⟩
theorem aw_nl (w : World) (t : Nat) : Nl (w.alloc (.cells #[.int .i64 4, .int .i64 1, .int .i64 0, .int .i64 2, .int .i64 0, .int .i64 0] t)) (some ⟨w.heap.size, 0, none⟩) 2 2 NC := by
  refine ⟨rfl, by omega, by omega, fun k hk => ⟨w.heap.size, 0, rfl, by simp, ?_⟩⟩
  have hc : ∀ i v, (#[.int .i64 4, .int .i64 1, .int .i64 0, .int .i64 2, .int .i64 0, .int .i64 0] : Array Value)[i]? = some v → (w.alloc (.cells #[.int .i64 4, .int .i64 1, .int .i64 0, .int .i64 2, .int .i64 0, .int .i64 0] t)).cell? ⟨w.heap.size, i, none⟩ = some v := fun i v hv => cell_in (heap_alloc_new w _) hv
  rcases (by omega : k = 0 ∨ k = 1) with rfl | rfl
  all_goals exact ⟨hc _ _ rfl, hc _ _ rfl, hc _ _ rfl⟩
theorem nc_same : eqN NC NC = true := by decide +kernel
set_option maxRecDepth 100000 in
set_option maxHeartbeats 6400000 in
theorem awake_here (w : World) : Calls Try.prog 19 #[] w fun e w' => e = .returned (.bool true) ∧ Below w.heap.size w w' := by
  obtain ⟨w1, hw1⟩ : ∃ W, W = w.alloc (.cells awV 59) := ⟨_, rfl⟩
  have HT : Hid (∀ W, Below w1.heap.size w1 W → Tl W (some ⟨w.heap.size, 0, none⟩) 6 6 ZA) := fun W hW => (by rw [hw1]; exact aw_tl w _ : Tl w1 _ 6 6 ZA).below hW (Nat.le_refl _)
  have HB0 : Hid (Below w.heap.size w w1) := by rw [hw1]; exact (Below.refl _ w).alloc (Nat.le_refl _) _
  have HW1 := Lib.hid hw1
  clear hw1
  go_enter Try.func19, Try.ntmps19
  go_wp2_with (first
    | (go_at_call 16; rw [← HW1.out]; (with_reducible refine (aw_sub1 _ _ (HT.out _ (Below.refl _ _))).mono ?_); rintro e w2 ⟨rfl, hb2⟩; have HB2 := Lib.hid hb2; clear hb2)
    | (go_at_call 16; (with_reducible refine (aw_sub2 _ _ (HT.out _ (HB2.out.alloc HB2.out.size _))).mono ?_); rintro e w3 ⟨⟨X, m, d, t, rfl⟩, hb3⟩; have HF2 := Lib.hid ((hb3.block w2.heap.size (by simp)).trans (heap_alloc_new w2 _)); have HB3 := Lib.hid ((HB2.out.alloc HB2.out.size _).trans (hb3.mono (by have := HB2.out.size; simp; omega))); have hz23 := hb3.size; clear hb3)
    | (go_at_call 24; refine (aw_can _ _ (HT.out _ (HB3.out.alloc HB3.out.size _))).mono ?_; rintro e w4 ⟨⟨B, dd, rfl, hn⟩, hb4⟩; have HF3 := Lib.hid ((hb4.block w3.heap.size (by simp)).trans (heap_alloc_new w3 _)); have HF4 := Lib.hid ((hb4.block w2.heap.size (by simp at hz23 ⊢; omega)).trans (((Below.refl w3.heap.size w3).alloc (Nat.le_refl _) _).block w2.heap.size (by simp at hz23; omega) |>.trans HF2.out)); have HB4 := Lib.hid ((HB3.out.alloc HB3.out.size _).trans (hb4.mono (by have := HB3.out.size; simp; omega))); have HN4 := Lib.hid hn; have hz34 := hb4.size; clear hb4 hn)
    | (go_at_call 31; (with_reducible refine (aw_dep1 _ _ (HT.out _ HB4.out)).mono ?_); rintro e w5 ⟨rfl, hb5⟩; have HK5 := Lib.hid hb5; have HB5 := Lib.hid (HB4.out.trans (hb5.mono HB4.out.size)); clear hb5)
    | (go_at_call 31; (with_reducible refine (aw_dep2 _ _ (HT.out _ HB5.out)).mono ?_); rintro e w6 ⟨rfl, hb6⟩; have HK6 := Lib.hid (HK5.out.trans (hb6.mono HK5.out.size)); have HB6 := Lib.hid (HB5.out.trans (hb6.mono HB5.out.size)); clear hb6; have hf2 := (HK6.out.block w2.heap.size (by simp at hz23 hz34; omega)).trans HF4.out; have hf3 := (HK6.out.block w3.heap.size (by simp at hz34; omega)).trans HF3.out; have e0 := cell_in hf2 (i := 0) rfl; have e2 := cell_in hf2 (i := 2) rfl; have e3 := cell_in hf3 (i := 0) rfl; clear hf2 hf3)
    | (go_at_call 25; refine (types_any NC NC _ _ 2 _ 2 2 _ ((HN4.out.below HK6.out (Nat.le_refl _)).below ((Below.refl _ w6).alloc (Nat.le_refl _) _) (Nat.le_refl _)) (aw_nl w6 _)).mono ?_; rintro e w7 ⟨rfl, hd7⟩; rw [nc_same]))
  go_ret
  exact ⟨rfl, HB0.out.trans (((HB6.out.alloc HB6.out.size _).trans (hd7.below _)).mono HB0.out.size)⟩
end Go.Proofs.Ytmbdjjkgjnemiaa
