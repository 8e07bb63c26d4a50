import Derived.Test.YtcnjkdkkflpgnaaT09
/- Layer 8: lowest. -/
namespace Go.Proofs.Ytcnjkdkkflpgnaa
open Go.RowKit Go.Maps Go.Sort Go.Shelf
set_option linter.unusedVariables false

/-- A function value ranks the stays of f. -/
structure RankFn (w : World) (f : Int → Option Stay) (rk : Stay → Int) (g : Nat) (lb : Array Value) : Prop where
  eg : ∀ args w, (callFunc g args).run Try.prog w = .ok (.enter g args) w
  call : ∀ x st, f x = some st → ∀ V, Below w.heap.size w V → Calls Try.prog g (#[.agg #[.int .i64 (st.1 : Int), .int .i64 (st.2 : Int)]] ++ lb) V fun e w' => e = .returned (.int .i64 (rk st)) ∧ Below V.heap.size V w'
theorem RankFn.below {w w' : World} {f : Int → Option Stay} {rk : Stay → Int} {g : Nat} {lb : Array Value} (h : RankFn w f rk g lb) (hb : Below w.heap.size w w') : RankFn w' f rk g lb :=
  ⟨h.eg, fun x st hx V hV => h.call x st hx V (hb.trans (hV.mono hb.size))⟩
def cmpS (f : Int → Option Stay) (rk : Stay → Int) (x y : Int) : Int := cmpI (rk ((f x).getD (0, 0))) (rk ((f y).getD (0, 0)))
def lowS (f : Int → Option Stay) (rk : Stay → Int) : Int := minZ (cmpS f rk) (keysS f) ((keysS f).length - 1)
set_option maxRecDepth 100000 in
set_option maxHeartbeats 6400000 in
theorem lowest1_any (s b q r : Nat) (k c x y : Int) (f : Int → Option Stay) (rk : Stay → Int) (g : Nat) (lb : Array Value) (w : World) (h : SH w s b k f c) (hR : RankFn w f rk g lb) (hx : (f x).isSome = true) (hy : (f y).isSome = true)
    (hq : w.heap[q]? = some (.cells #[.func (.func g) #[] lb] 67 (0, 0))) (hr : w.heap[r]? = some (.cells #[.pointer (some ⟨s, 0, none⟩)] 71 (0, 0))) :
    Calls Try.prog 89 #[.int .i64 x, .int .i64 y, .pointer (some ⟨q, 0, none⟩), .pointer (some ⟨r, 0, none⟩)] w fun e w' => e = .returned (.int .i64 (cmpS f rk x y)) ∧ Below w.heap.size w w' := by
  obtain ⟨sx, hsx⟩ : ∃ st, f x = some st := Option.isSome_iff_exists.1 hx
  obtain ⟨sy, hsy⟩ : ∃ st, f y = some st := Option.isSome_iff_exists.1 hy
  have hx2 := h.map.pages hx
  have hy2 := h.map.pages hy
  have hq1 := (Array.getElem?_eq_some_iff.1 hq).1
  have hr1 := (Array.getElem?_eq_some_iff.1 hr).1
  have hs1 := h.lt.1
  have HSV : Hid (∀ V, Below w.heap.size w V → V.cell? ⟨q, 0, none⟩ = some (.func (.func g) #[] lb) ∧ V.cell? ⟨r, 0, none⟩ = some (.pointer (some ⟨s, 0, none⟩)) ∧ V.cell? ⟨s, 1, none⟩ = some (.map (some b)) ∧
      (Instr.lookup 75 (.map (some b)) (.int .i64 x) false).run Try.prog V = .ok (.agg #[.int .i64 (sx.1 : Int), .int .i64 (sx.2 : Int)]) V ∧
      (Instr.lookup 75 (.map (some b)) (.int .i64 y) false).run Try.prog V = .ok (.agg #[.int .i64 (sy.1 : Int), .int .i64 (sy.2 : Int)]) V) := fun V hV => by
    refine ⟨cell_in ((hV.block q hq1).trans hq) rfl, cell_in ((hV.block r hr1).trans hr) rfl, cell_in (h.belowN hV).box rfl, ?_, ?_⟩
    · have := (h.belowN hV).map.look 75 Try.underlying75 (x := x) ⟨by omega, by omega⟩
      rw [hsx] at this
      exact this
    · have := (h.belowN hV).map.look 75 Try.underlying75 (x := y) ⟨by omega, by omega⟩
      rw [hsy] at this
      exact this
  have eg := hR.eg
  have HRX := Lib.hid (hR.call x sx hsx)
  have HRY := Lib.hid (hR.call y sy hsy)
  have HCM := Lib.hid (fun a c V => compare_any a c V)
  have e0 : cmpS f rk x y = cmpI (rk sx) (rk sy) := by unfold cmpS; rw [hsx, hsy]; rfl
  rw [e0]
  have HB0 : Hid (Below w.heap.size w w.drew) := (Below.refl _ w).drew
  clear hsx hsy hx hy hx2 hy2 hq hr hq1 hr1 hs1 h hR e0
  generalize rk sx = rx at *
  generalize rk sy = ry at *
  go_enter Try.func89, Try.ntmps89
  go_wp2
  go_region_held_law (fun V => V.cell? ⟨q, 0, none⟩ = some (.func (.func g) #[] lb) ∧ V.cell? ⟨r, 0, none⟩ = some (.pointer (some ⟨s, 0, none⟩)) ∧ V.cell? ⟨s, 1, none⟩ = some (.map (some b)) ∧
      (Instr.lookup 75 (.map (some b)) (.int .i64 x) false).run Try.prog V = .ok (.agg #[.int .i64 (sx.1 : Int), .int .i64 (sx.2 : Int)]) V ∧
      (Instr.lookup 75 (.map (some b)) (.int .i64 y) false).run Try.prog V = .ok (.agg #[.int .i64 (sy.1 : Int), .int .i64 (sy.2 : Int)]) V)
    (first | assumption | exact HSV.out _ HB1.out | exact HSV.out _ HB0.out)
    (first
      | (go_at_call 90; refine (HCM.out _ _ _).mono ?_; rintro e v1 ⟨rfl, rfl⟩)
      | (refine (HRX.out _ (by first | exact HB1.out | exact HB0.out)).mono ?_; rintro e v1 ⟨rfl, hb⟩; have HB1 : Hid (Below w.heap.size w v1) := (by first | exact HB1.out.trans (hb.mono HB1.out.size) | exact HB0.out.trans (hb.mono HB0.out.size)); clear hb)
      | (refine (HRY.out _ (by first | exact HB1.out | exact HB0.out)).mono ?_; rintro e v1 ⟨rfl, hb⟩; have HB1 : Hid (Below w.heap.size w v1) := (by first | exact HB1.out.trans (hb.mono HB1.out.size) | exact HB0.out.trans (hb.mono HB0.out.size)); clear hb))
  all_goals
    go_wp2
    go_ret
    exact ⟨rfl, HB1.out⟩
set_option maxRecDepth 100000 in
set_option maxHeartbeats 6400000 in
theorem lowest_any (s b : Nat) (k c : Int) (f : Int → Option Stay) (rk : Stay → Int) (g : Nat) (lb : Array Value) (w : World) (h : SH w s b k f c) (hR : RankFn w f rk g lb) (hn : 1 ≤ (keysS f).length) :
    Calls Try.prog 74 #[.pointer (some ⟨s, 0, none⟩), .func (.func g) #[] lb] w fun e w' => e = .returned (.int .i64 (lowS f rk)) ∧ Below w.heap.size w w' := by
  obtain ⟨W, hW⟩ : ∃ W, W = (w.alloc (.cells #[.pointer (some ⟨s, 0, none⟩)] 71)).alloc (.cells #[.func (.func g) #[] lb] 67) := ⟨_, rfl⟩
  have hb : Below w.heap.size w W := by rw [hW]; exact ((Below.refl _ w).alloc (Nat.le_refl _) _).alloc (by simp) _
  have hr0 : W.heap[w.heap.size]? = some (.cells #[.pointer (some ⟨s, 0, none⟩)] 71 (0, 0)) := by
    rw [hW]
    show ((w.heap.push _).push _)[w.heap.size]? = _
    rw [Array.getElem?_push, if_neg (by simp), Array.getElem?_push, if_pos rfl]
  have hr1 : W.heap[w.heap.size + 1]? = some (.cells #[.func (.func g) #[] lb] 67 (0, 0)) := by
    rw [hW]
    show ((w.heap.push _).push _)[w.heap.size + 1]? = _
    rw [Array.getElem?_push, if_pos (by simp)]
  have hz : W.heap.size = w.heap.size + 2 := by rw [hW]; simp
  have HS : Hid (SH W s b k f c) := h.belowN hb
  have HRF : Hid (RankFn W f rk g lb) := hR.below hb
  have HR0 := Lib.hid hr0
  have HR1 := Lib.hid hr1
  have HZ := Lib.hid hz
  have HB := Lib.hid hb
  have HW := Lib.hid hW
  have d0 : W.cell? ⟨w.heap.size, 0, none⟩ = some (.pointer (some ⟨s, 0, none⟩)) := cell_in hr0 rfl
  have d1 : W.cell? ⟨s, 1, none⟩ = some (.map (some b)) := cell_in HS.out.box rfl
  have HKE := Lib.hid (fun V => keys_any (some b) V)
  obtain ⟨W1, hW1⟩ : ∃ W1, W1 = W.alloc (.cells #[.map (some b)] 75) := ⟨_, rfl⟩
  have hb1 : Below W.heap.size W W1 := by rw [hW1]; exact (Below.refl _ W).alloc (Nat.le_refl _) _
  have hc1 : W1.heap[W.heap.size]? = some (.cells #[.map (some b)] 75 (0, 0)) := by rw [hW1]; exact heap_alloc_new _ _
  have HSO := Lib.hid (sorted_any b W.heap.size f W1 (HS.out.belowN hb1).map (Array.getElem?_eq_some_iff.1 hc1).1 (cell_in hc1 rfl))
  have HW1 := Lib.hid hW1
  have HB1 := Lib.hid hb1
  have HSV := Lib.hid (fun V (hV : Below W.heap.size W V) => HS.out.belowN hV)
  have HN := Lib.hid hn
  clear hW hb hr0 hr1 hz h hR hW1 hb1 hc1 hn
  go_enter Try.func74, Try.ntmps74
  go_upto_region 1 with (fail)
  rw [← HW.out]
  go_wp2_with (first
    | (go_at_call 88; refine (HKE.out _).mono ?_; rintro e v1 ⟨rfl, rfl⟩; rw [← HW1.out])
    | (go_at_call 87; refine HSO.out.mono ?_; rintro e v2 ⟨⟨v, rfl, ho⟩, hb2⟩; have HO := Lib.hid ho; have HB2 := Lib.hid hb2; clear ho hb2))
  have hk16 := keysS_le f
  obtain ⟨A, cc, rfl, hsl⟩ := HO.out.sl (by omega)
  have HB3 : Hid (Below W.heap.size W v2) := HB1.out.trans (HB2.out.mono HB1.out.size)
  refine (minFunc_any (cmpS f rk) (keysS f) A _ cc 89 _ v2 hsl HN.out (enters_of Try.func89 (by kernel_rfl) rfl) ?_).mono ?_
  · intro x y hx hy V hV
    have hV2 : Below W.heap.size W V := HB3.out.trans (hV.mono HB3.out.size)
    have hlt : ∀ x : Int, (f x).isSome = true → 0 ≤ x ∧ x < 16 := fun x hx => HS.out.map.pages hx
    refine lowest1_any s b (w.heap.size + 1) w.heap.size k c x y f rk g lb V (HSV.out V hV2) (HRF.out.below hV2) ((keysS_mem hlt x).1 hx) ((keysS_mem hlt y).1 hy) ?_ ?_
    · exact (hV2.block _ (by rw [HZ.out]; omega)).trans HR1.out
    · exact (hV2.block _ (by rw [HZ.out]; omega)).trans HR0.out
  · rintro e v3 ⟨rfl, hb3⟩
    have HB4 : Hid (Below w.heap.size w v3) := HB.out.trans ((HB3.out.trans (hb3.mono HB3.out.size)).mono HB.out.size)
    clear hb3
    go_wp2
    go_ret
    exact ⟨rfl, HB4.out⟩
end Go.Proofs.Ytcnjkdkkflpgnaa
/- Layer 8: run. -/
namespace Go.Proofs.Ytcnjkdkkflpgnaa
open Go.RowKit Go.Maps
set_option linter.unusedVariables false

/-- Which page is removed. -/
def goneS (f : Int → Option Stay) (k : Int) (rk : Stay → Int) (page : Int) : Int := if lacksB f page k = true then lowS f rk else -1
/-- The pages on the shelf after i requests. -/
def rF (rk : Stay → Int) (k : Int) (zs : List Int) : Nat → Int → Option Stay
  | 0 => fun _ => none
  | i + 1 => srvS (rF rk k zs i) i (atI zs i) (goneS (rF rk k zs i) k rk (atI zs i))
def rG (rk : Stay → Int) (k : Int) (zs : List Int) (i : Nat) : Int := goneS (rF rk k zs i) k rk (atI zs i)
def rC (rk : Stay → Int) (k : Int) (zs : List Int) : Nat → Int
  | 0 => 0
  | i + 1 => rC rk k zs i + srvC (rF rk k zs i) (atI zs i) (rG rk k zs i)
def rP (rk : Stay → Int) (k : Int) (zs : List Int) (i : Nat) : List Int := (List.range i).map (rG rk k zs)
theorem srvC_le (f : Int → Option Stay) (page gone : Int) : 0 ≤ srvC f page gone ∧ srvC f page gone ≤ 1 := by unfold srvC; split <;> omega
theorem rC_le (rk : Stay → Int) (k : Int) (zs : List Int) : ∀ i : Nat, 0 ≤ rC rk k zs i ∧ rC rk k zs i ≤ (i : Int)
  | 0 => ⟨Int.le_refl _, Int.le_refl _⟩
  | i + 1 => by
    have h1 := rC_le rk k zs i
    have h2 := srvC_le (rF rk k zs i) (atI zs i) (rG rk k zs i)
    show 0 ≤ rC rk k zs i + _ ∧ rC rk k zs i + _ ≤ _
    omega
theorem minZ_mem (cf : Int → Int → Int) (zs : List Int) : ∀ t, t < zs.length → minZ cf zs t ∈ zs
  | 0, h => by
    show atI zs 0 ∈ zs
    unfold atI
    rw [List.getElem?_eq_getElem h]
    exact List.getElem_mem _
  | t + 1, h => by
    unfold minZ
    split
    · unfold atI
      rw [List.getElem?_eq_getElem h]
      exact List.getElem_mem _
    · exact minZ_mem cf zs t (by omega)
theorem lowS_mem (f : Int → Option Stay) (rk : Stay → Int) (h : 1 ≤ (keysS f).length) : lowS f rk ∈ keysS f := minZ_mem _ _ _ (by omega)
theorem lacksB_len {f : Int → Option Stay} {page k : Int} (h : lacksB f page k = true) : ((keysS f).length : Int) = k ∧ f page = none := by
  unfold lacksB at h
  rw [Bool.and_eq_true] at h
  refine ⟨by have := h.2; simpa using this, ?_⟩
  have := h.1
  cases hf : f page
  · rfl
  · rw [hf] at this; cases this
theorem keysS_low (f : Int → Option Stay) {x : Int} (h : x ∈ keysS f) : 0 ≤ x ∧ x < 16 := by
  unfold keysS at h
  obtain ⟨h1, _⟩ := List.mem_filter.1 h
  obtain ⟨k, hk, rfl⟩ := List.mem_map.1 h1
  have := List.mem_range.1 hk
  omega
theorem rG_le (rk : Stay → Int) (k : Int) (zs : List Int) (hk : 1 ≤ k) (i : Nat) : -1 ≤ rG rk k zs i ∧ rG rk k zs i < 16 := by
  unfold rG goneS
  split
  · rename_i h
    have := keysS_low _ (lowS_mem (rF rk k zs i) rk (by have := (lacksB_len h).1; omega))
    omega
  · omega
theorem rP_len (rk : Stay → Int) (k : Int) (zs : List Int) (i : Nat) : (rP rk k zs i).length = i := by simp [rP]
theorem rP_succ (rk : Stay → Int) (k : Int) (zs : List Int) (i : Nat) : rP rk k zs (i + 1) = rP rk k zs i ++ [rG rk k zs i] := by unfold rP; rw [List.range_succ, List.map_append]; rfl
/-- The plan while it is made. -/
def planL (rk : Stay → Int) (k : Int) (zs : List Int) (n i : Nat) : List Int := rP rk k zs i ++ List.replicate (n - i) 0
theorem planL_len (rk : Stay → Int) (k : Int) (zs : List Int) {n i : Nat} (h : i ≤ n) : (planL rk k zs n i).length = n := by unfold planL; rw [List.length_append, rP_len, List.length_replicate]; omega
theorem planL_set (rk : Stay → Int) (k : Int) (zs : List Int) {n i : Nat} (h : i < n) : (planL rk k zs n i).set i (rG rk k zs i) = planL rk k zs n (i + 1) := by
  unfold planL
  rw [List.set_append, if_neg (by rw [rP_len]; omega), rP_len, Nat.sub_self, rP_succ, List.append_assoc]
  obtain ⟨m, hm⟩ : ∃ m, n - i = m + 1 := ⟨n - i - 1, by omega⟩
  rw [hm, List.replicate_succ, List.set_cons_zero, show n - (i + 1) = m by omega]
  rfl
theorem Ow.at_ {w : World} {B e pb n m : Nat} {zs : List Int} (h : Ow w B e (.slice (some ⟨pb, 0, none⟩) n m) zs) {w' : World} (hb : w'.heap[pb]? = w.heap[pb]?) : Ow w' B e (.slice (some ⟨pb, 0, none⟩) n m) zs := by
  refine ⟨h.1, ?_⟩
  rcases h.2 with h1 | ⟨g, cap, cur, h1, h2, h3, h4⟩
  · exact .inl h1
  · injection h1 with h1 e2 e3
    have h1 := Option.some.inj h1
    injection h1 with h1 _ _
    subst h1 e2 e3
    exact .inr ⟨pb, m, cur, rfl, h2, hb.trans h3, h4⟩
/-- What run keeps. -/
structure RS (w wr : World) (s b pb n : Nat) (k : Int) (f : Int → Option Stay) (c : Int) (L : List Int) : Prop where
  sh : SH wr s b k f c
  ow : Ow wr w.heap.size 3 (.slice (some ⟨pb, 0, none⟩) n n) L
  len : L.length = n
  bl : Below w.heap.size w wr
  ne : s ≠ pb ∧ b ≠ pb
  lo : w.heap.size ≤ s ∧ w.heap.size ≤ b ∧ w.heap.size ≤ pb
  pb : pb < wr.heap.size
section
variable {w wr : World} {s b pb n : Nat} {k : Int} {f : Int → Option Stay} {c : Int} {L : List Int}
theorem RS.next (h : RS w wr s b pb n k f c L) {w' : World} (hb : Below wr.heap.size wr w') : RS w w' s b pb n k f c L :=
  ⟨h.sh.belowN hb, h.ow.below hb (Nat.le_refl _), h.len, h.bl.trans (hb.mono h.bl.size), h.ne, h.lo, Nat.lt_of_lt_of_le h.pb hb.size⟩
theorem RS.put (h : RS w wr s b pb n k f c L) (i : Nat) (x : Int) : RS w (wr.setCell ⟨pb, i, none⟩ (.int .i64 x)) s b pb n k f c (L.set i x) :=
  ⟨⟨(set_oth h.ne.1).trans h.sh.box, h.sh.map.heap (set_oth h.ne.2), h.sh.ne⟩, h.ow.put h.len i x, by rw [List.length_set]; exact h.len, h.bl.setCell (p := ⟨pb, i, none⟩) h.lo.2.2 _, h.ne, h.lo, by simpa using h.pb⟩
theorem RS.cell (h : RS w wr s b pb n k f c L) {i : Nat} (hi : i < n) : wr.cell? ⟨pb, i, none⟩ = some (.int .i64 (L[i]?.getD 0)) := h.ow.cellAt h.len hi
theorem RS.served (h : RS w wr s b pb n k f c L) {w' : World} {f' : Int → Option Stay} {c' : Int} (h1 : SH w' s b k f' c') (h2 : Below w.heap.size wr w') (h3 : ∀ j, j < wr.heap.size → j ≠ s → j ≠ b → w'.heap[j]? = wr.heap[j]?) : RS w w' s b pb n k f' c' L :=
  ⟨h1, h.ow.at_ (h3 pb h.pb h.ne.1.symm h.ne.2.symm), h.len, h.bl.trans h2, h.ne, h.lo, Nat.lt_of_lt_of_le h.pb h2.size⟩
theorem RS.free (h : RS w wr s b pb n k f c L) (i : Nat) : wr.frozen? ⟨pb, i, none⟩ = false := h.ow.free h.len i
end
set_option maxRecDepth 100000 in
set_option maxHeartbeats 6400000 in
theorem run_any (rk : Stay → Int) (k : Int) (zs : List Int) (A : Option Addr) (n c g : Nat) (lb : Array Value) (w : World) (h : Sl w A n c zs) (hn : n ≤ 200) (hk : 1 ≤ k ∧ k ≤ 8) (hz : ∀ i, i < n → 0 ≤ atI zs i ∧ atI zs i < 16)
    (hR : ∀ i, i < n → RankFn w (rF rk k zs i) rk g lb) :
    Calls Try.prog 45 #[.slice A n c, .int .i64 k, .func (.func g) #[] lb] w fun e w' => (∃ v, e = .returned (.tuple #[.int .i64 (rC rk k zs n), v]) ∧ Ow w' w.heap.size 3 v (rP rk k zs n)) ∧ Below w.heap.size w w' := by
  obtain ⟨i0, hi, hz0, hz1, hz2⟩ := info_parts Try.infoInt
  have HI : Hid (Try.prog.info? 3 = some i0 ∧ i0.zero = some (.int .i64 0) ∧ i0.size = 1 ∧ i0.bytes = 8) := ⟨hi, hz0, hz1, hz2⟩
  clear hi hz0 hz1 hz2
  have HL : Hid (zs.length = n) := h.len
  have HSL := Lib.hid (fun V (hV : Below w.heap.size w V) => h.below hV (Nat.le_refl _))
  have HR := Lib.hid hR
  have HZ := Lib.hid hz
  have HES := Lib.hid (emptyShelf_any k w)
  clear h hR hz
  go_enter Try.func45, Try.ntmps45
  go_wp2_with (first
    | (go_at_call 53; refine HES.out.mono ?_; rintro e w1 ⟨⟨s, b, rfl, hs, hs1, hs2⟩, hb1⟩; have HS1 := Lib.hid hs; have HG := Lib.hid (show w.heap.size ≤ s ∧ w.heap.size ≤ b from ⟨hs1, hs2⟩); have HB1 := Lib.hid hb1; clear hb1 hs hs1 hs2)
    | (at_make; go_must (refine make_law _ rfl (.tmp 15) (.tmp 15) 22 rfl w.heap.size 3 i0 Try.underlying22 HI.out _ _ n rfl rfl (by omega) (by omega) (by omega) HB1.out.size ?_); intro w2 ho2 hg2; have HO2 := Lib.hid ho2; have HG2 := Lib.hid hg2; clear ho2 hg2))
  have hbe : Below w1.heap.size w1 w2 := ⟨HG2.out.os, HG2.out.tape, HG2.out.output, HG2.out.size, fun k hk => HG2.out.block k hk (by simp)⟩
  have HS2 : Hid (RS w w2 s b w1.heap.size n k (rF rk k zs 0) (rC rk k zs 0) (planL rk k zs n 0)) := by
    have h1 := HS1.out.lt
    have h2 := HB1.out.size
    refine ⟨HS1.out.belowN hbe, ?_, planL_len rk k zs (Nat.zero_le _), HB1.out.trans (hbe.mono HB1.out.size), ⟨by omega, by omega⟩, ⟨HG.out.1, HG.out.2, h2⟩, ?_⟩
    · have := HO2.out
      rw [show List.replicate n (0 : Int) = planL rk k zs n 0 by unfold planL rP; simp] at this
      exact this
    · have h3 := (HO2.out.lt (k := w1.heap.size) rfl).2
      exact h3
  clear HS1 HB1 HO2 HG2 hbe HES HG
  generalize w1.heap.size = pb at *
  go_loopw [19] (fun r w' => ∃ i : Nat, i ≤ n ∧ r = .int .i64 (i : Int) ∧ Hid (RS w w' s b pb n k (rF rk k zs i) (rC rk k zs i) (planL rk k zs n i))) (fun r _ => n - (intOf r).toNat)
  case atStart => exact ⟨0, by omega, by go_num, HS2.out⟩
  case round =>
    obtain ⟨i, hi, rfl, HS⟩ := hrel
    obtain ⟨wo, rfl⟩ : ∃ wo : World, wo = wr := ⟨_, rfl⟩
    clear HS2
    by_cases hlt : i < n
    · have i1 : (i : Int) < (n : Int) := by omega
      have hso := HSL.out wo HS.out.bl
      obtain ⟨b1, o1, rfl, hc1⟩ := hso.at_ hlt
      rw [show zs[i]?.getD 0 = atI zs i from rfl] at hc1
      obtain ⟨page, hpg⟩ : ∃ z, z = atI zs i := ⟨_, rfl⟩
      rw [← hpg] at hc1
      have hp16 := HZ.out i hlt
      rw [← hpg] at hp16
      have hgl := rG_le rk k zs hk.1 i
      have hcl := rC_le rk k zs i
      have hr2 := HR.out i hlt
      have HSF : Hid (rF rk k zs (i + 1) = srvS (rF rk k zs i) i page (rG rk k zs i)) := by rw [hpg]; rfl
      have HSC : Hid (rC rk k zs (i + 1) = rC rk k zs i + srvC (rF rk k zs i) page (rG rk k zs i)) := by rw [hpg]; rfl
      have HSP := Lib.hid (planL_set rk k zs hlt)
      have hgo : rG rk k zs i = goneS (rF rk k zs i) k rk page := by rw [hpg]; rfl
      unfold goneS at hgo
      have HRK := Lib.hid (fun V (hV : Below w.heap.size w V) => hr2.below hV)
      have HP0 := Lib.hid (HS.out.put i (-1))
      have c0 := HS.out.cell hlt
      have f0 := HS.out.free i
      have HLK := Lib.hid (fun V (hV : SH V s b k (rF rk k zs i) (rC rk k zs i)) => lacks_any s b k _ page _ V hV hp16)
      have HLI : Hid (i < n) := hlt
      clear hso hpg hr2 HR HZ
      generalize rF rk k zs i = f at *
      generalize rC rk k zs i = cc at *
      generalize rG rk k zs i = go at *
      generalize planL rk k zs n i = L at *
      generalize (L[i]?.getD 0) = z0 at c0
      cases hlk : lacksB f page k with
      | true =>
        rw [hlk, if_pos rfl] at hgo
        have hlen := (lacksB_len hlk).1
        have HLW := Lib.hid (fun V (hV : SH V s b k f cc) (hb : Below w.heap.size w V) => lowest_any s b k cc f rk g lb V hV (HRK.out V hb) (by omega))
        rw [← hgo] at HLW
        rw [hlk] at HLK
        clear hgo hlk hlen
        go_wp2_with (first
          | (go_at_call 73; refine (HLK.out _ HP0.out.sh).mono ?_; rintro e v1 ⟨rfl, hb⟩; have HP1 := Lib.hid (HP0.out.next hb); clear hb)
          | (go_at_call 74; refine (HLW.out _ HP1.out.sh HP1.out.bl).mono ?_; rintro e v2 ⟨rfl, hb⟩; have HP2 := Lib.hid (HP1.out.next hb); have c2 := HP2.out.cell HLI.out; have f2 := HP2.out.free i; have HP3 := Lib.hid (HP2.out.put i go); clear hb))
        refine (serve_any s b i k cc page go f _ HP3.out.sh hp16 (by omega) ⟨hcl.1, by omega⟩ ⟨by omega, by omega⟩ w.heap.size ⟨HP3.out.lo.1, HP3.out.lo.2.1⟩).mono ?_
        rintro e v3 ⟨rfl, h1, h2, h3⟩
        have HP4 := Lib.hid (HP3.out.served h1 h2 h3)
        clear h1 h2 h3
        go_wp2
        refine ⟨⟨i + 1, by omega, by go_num, ?_⟩, by simp [intOf]; omega⟩
        rw [HSF.out, HSC.out, ← HSP.out]
        have := HP4.out
        rw [List.set_set] at this
        exact this
      | false =>
        rw [hlk, if_neg (by simp)] at hgo
        rw [hlk] at HLK
        subst hgo
        clear hlk
        go_wp2_with (first
          | (go_at_call 73; refine (HLK.out _ HP0.out.sh).mono ?_; rintro e v1 ⟨rfl, hb⟩; have HP1 := Lib.hid (HP0.out.next hb); have c2 := HP1.out.cell HLI.out; rw [List.getElem?_set_self (by rw [HS.out.len]; exact HLI.out), Option.getD_some] at c2; clear hb))
        refine (serve_any s b i k cc page (-1) f _ HP1.out.sh hp16 (by omega) ⟨hcl.1, by omega⟩ ⟨by omega, by omega⟩ w.heap.size ⟨HP1.out.lo.1, HP1.out.lo.2.1⟩).mono ?_
        rintro e v3 ⟨rfl, h1, h2, h3⟩
        have HP4 := Lib.hid (HP1.out.served h1 h2 h3)
        clear h1 h2 h3
        go_wp2
        refine ⟨⟨i + 1, by omega, by go_num, ?_⟩, by simp [intOf]; omega⟩
        rw [HSF.out, HSC.out, ← HSP.out]
        exact HP4.out
    · have hin : i = n := by omega
      subst hin
      have i1 : ¬ (i : Int) < (i : Int) := by omega
      have d2 : wo.cell? ⟨s, 2, none⟩ = some (.int .i64 (rC rk k zs i)) := cell_in HS.out.sh.box rfl
      go_wp2
      go_ret2
      refine ⟨⟨_, rfl, ?_⟩, HS.out.bl⟩
      have := HS.out.ow
      rw [show planL rk k zs i i = rP rk k zs i by unfold planL; simp] at this
      exact this
end Go.Proofs.Ytcnjkdkkflpgnaa
