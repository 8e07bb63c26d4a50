import Derived.Test.YtkemcmeagnggeaaT02
/- Layer 3: slices of strings that are read (Rds); the law's texts; Family. -/
namespace Go.Proofs.Ytkemcmeagnggeaa
open Go.RowKit
set_option linter.unusedVariables false

/-- The slice value at A reads as the strings ss. -/
def Rds (w : World) (A : Option Addr) (ss : List ByteArray) : Prop :=
  ∀ k, k < ss.length → ∃ b off, A = some ⟨b, off, none⟩ ∧ w.cell? ⟨b, off + k, none⟩ = some (.string (ss[k]?.getD ByteArray.empty))
theorem Rds.dr {w w' : World} {A : Option Addr} {ss : List ByteArray} (h : Rds w A ss) (k : Dr w w') : Rds w' A ss := fun j hj => by
  obtain ⟨b, off, e, hc⟩ := h j hj
  exact ⟨b, off, e, (k.cell _).trans hc⟩
def eqlS (xs ys : List ByteArray) : Bool := decide (xs = ys)
theorem eqlS_len {xs ys : List ByteArray} (h : xs.length ≠ ys.length) : false = eqlS xs ys := by
  unfold eqlS
  rw [eq_comm, decide_eq_false_iff_not]
  rintro rfl
  exact h rfl
theorem eqlS_at {xs ys : List ByteArray} (k : Nat) (h : xs[k]?.getD ByteArray.empty ≠ ys[k]?.getD ByteArray.empty) : false = eqlS xs ys := by
  unfold eqlS
  rw [eq_comm, decide_eq_false_iff_not]
  rintro rfl
  exact h rfl
theorem eqlS_all {xs ys : List ByteArray} {n : Nat} (hx : xs.length = n) (hy : ys.length = n) (h : ∀ j, j < n → decide (xs[j]?.getD ByteArray.empty = ys[j]?.getD ByteArray.empty) = true) : true = eqlS xs ys := by
  unfold eqlS
  rw [eq_comm, decide_eq_true_iff]
  refine List.ext_getElem (by omega) fun i h1 h2 => ?_
  have := h i (by omega)
  rw [decide_eq_true_eq, List.getElem?_eq_getElem h1, List.getElem?_eq_getElem h2] at this
  exact this
theorem str_eq (x y : ByteArray) : (x.toList == y.toList) = decide (x = y) := by
  rw [Bool.eq_iff_iff, beq_iff_eq, decide_eq_true_iff, ByteArray.toList_eq, ByteArray.toList_eq]
  exact ⟨fun h => ByteArray.ext (Array.toList_inj.1 h), fun h => by rw [h]⟩

set_option maxHeartbeats 800000 in
theorem texts_any (A B : Option Addr) (n c m d : Nat) (xs ys : List ByteArray) (w : World) (hl : xs.length = n) (hm : ys.length = m) (hn : n ≤ 1099511627776) (hn' : m ≤ 1099511627776) (hr : Rds w A xs) (hs : Rds w B ys) :
    Calls Try.prog 43 #[.slice A n c, .slice B m d] w fun e w' => e = .returned (.bool (eqlS xs ys)) ∧ Dr w w' := by
  have HL := Lib.hid hl; clear hl
  have HM := Lib.hid hm; clear hm
  have HR := Lib.hid hr; clear hr
  have HS := Lib.hid hs; clear hs
  by_cases hnm : n = m
  · subst hnm
    have hb : ((n : Int) != n) = false := by simp
    go_enter Try.func43, Try.ntmps43
    go_wp2
    go_loopw [5] (fun i w' => ∃ k : Nat, k ≤ n ∧ i = .int .i64 k ∧ Hid (∀ j, j < k → decide (xs[j]?.getD ByteArray.empty = ys[j]?.getD ByteArray.empty) = true) ∧ Dr w w') (fun i _ => n - (intOf i).toNat)
    case atStart => exact ⟨0, Nat.zero_le _, rfl, fun j hj => absurd hj (by omega), Dr.refl _⟩
    case round =>
      obtain ⟨k, hk, rfl, hok, hW⟩ := hrel
      by_cases hlt : k < n
      · obtain ⟨b, off, rfl, hc1⟩ := (HR.out.dr hW) k (by rw [HL.out]; exact hlt)
        obtain ⟨b2, off2, rfl, hc2⟩ := (HS.out.dr hW) k (by rw [HM.out]; exact hlt)
        obtain ⟨x, hx⟩ : ∃ x, x = xs[k]?.getD ByteArray.empty := ⟨_, rfl⟩
        obtain ⟨y, hy⟩ : ∃ y, y = ys[k]?.getD ByteArray.empty := ⟨_, rfl⟩
        rw [← hx] at hc1
        rw [← hy] at hc2
        have HX := Lib.hid hx; clear hx
        have HY := Lib.hid hy; clear hy
        by_cases h1 : x = y
        · have g1 : (x.toList == y.toList) = true := by rw [str_eq]; simpa using h1
          have g2 : (x.toList != y.toList) = false := by rw [bne, g1]; rfl
          have HB : Hid (decide (xs[k]?.getD ByteArray.empty = ys[k]?.getD ByteArray.empty) = true) := by rw [Hid, ← HX.out, ← HY.out]; simpa using h1
          clear h1
          go_wp2
          go_quiet (fail)
          go_wp2
          go_roundw
          case rel => exact ⟨k + 1, by omega, by go_num, ok_step (p := fun j => decide (xs[j]?.getD ByteArray.empty = ys[j]?.getD ByteArray.empty)) hok.out HB.out, hW.more _⟩
          case measure => simp [intOf]; omega
        · have g1 : (x.toList == y.toList) = false := by rw [str_eq]; simpa using h1
          have g2 : (x.toList != y.toList) = true := by rw [bne, g1]; rfl
          have HB : Hid (false = eqlS xs ys) := eqlS_at k (by rw [← HX.out, ← HY.out]; exact h1)
          clear h1
          go_wp2
          go_quiet (fail)
          go_wp2
          go_ret
          exact ⟨bend HB.out, hW.more _⟩
      · have HG : Hid (true = eqlS xs ys) := eqlS_all HL.out HM.out (fun j hj => hok.out j (by omega))
        go_wp2
        go_ret
        exact ⟨bend HG.out, hW⟩
  · have hb : ((n : Int) != m) = true := by simp; omega
    have HG : Hid (false = eqlS xs ys) := eqlS_len (by rw [HL.out, HM.out]; exact hnm)
    go_enter Try.func43, Try.ntmps43
    go_wp2
    go_ret
    exact ⟨bend HG.out, Dr.refl _⟩
end Go.Proofs.Ytkemcmeagnggeaa
/- Layer 3: the law's short; Family. -/
namespace Go.Proofs.Ytkemcmeagnggeaa
open Go.RowKit
set_option linter.unusedVariables false

def famTo (ss : List ByteArray) (i : Nat) : Bool := wordB (bs (ss[i]?.getD ByteArray.empty)) && decide ((ss[i]?.getD ByteArray.empty).size ≤ 8)
def famB (ss : List ByteArray) : Bool := allB (famTo ss) ss.length && decide (ss.length ≤ 4)
theorem famB_bad {ss : List ByteArray} {k : Nat} (hk : k < ss.length) (h : famTo ss k = false) : false = famB ss := by
  unfold famB; rw [← allB_bad hk h]; rfl
theorem famB_good {ss : List ByteArray} (h : ∀ j, j < ss.length → famTo ss j = true) : decide (ss.length ≤ 4) = famB ss := by
  unfold famB; rw [← allB_good h]; rfl

set_option maxHeartbeats 800000 in
theorem family_ref (A : Option Addr) (n c : Nat) (ss : List ByteArray) (w : World) (hl : ss.length = n) (hn : n ≤ 1099511627776) (hr : Rds w A ss) (hz : ∀ i : Nat, (ss[i]?.getD ByteArray.empty).size ≤ 1099511627776) :
    Calls Try.prog 42 #[.slice A n c] w fun e w' => e = .returned (.bool (famB ss)) ∧ Dr w w' := by
  have HL := Lib.hid hl; clear hl
  have HR := Lib.hid hr; clear hr
  go_enter Try.func42, Try.ntmps42
  have HZ := Lib.hid hz; clear hz
  go_wp2
  go_loopw [3] (fun i w' => ∃ k : Nat, k ≤ n ∧ i = .int .i64 k ∧ Hid (∀ j, j < k → famTo ss j = true) ∧ Dr w w') (fun i _ => n - (intOf i).toNat)
  case atStart => exact ⟨0, Nat.zero_le _, rfl, fun j hj => absurd hj (by omega), Dr.refl _⟩
  case round =>
    obtain ⟨k, hk, rfl, hok, hW⟩ := hrel
    by_cases hlt : k < n
    · obtain ⟨b, off, rfl, hc1⟩ := (HR.out.dr hW) k (by rw [HL.out]; exact hlt)
      have HF : Hid (famTo ss k = (wordB (bs (ss[k]?.getD ByteArray.empty)) && decide ((ss[k]?.getD ByteArray.empty).size ≤ 8))) := rfl
      have hzk := HZ.out k
      obtain ⟨x, hx⟩ : ∃ x, x = ss[k]?.getD ByteArray.empty := ⟨_, rfl⟩
      rw [← hx] at hc1 HF hzk
      clear hx
      obtain ⟨q, hq⟩ : ∃ q, q = wordB (bs x) := ⟨_, rfl⟩
      have HC : Hid (∀ W, Calls Try.prog 20 #[.string x] W fun e w' => e = .returned (.bool q) ∧ W = w') := fun W => by rw [hq]; exact word_any x W hzk
      rw [← hq] at HF
      clear hq
      cases q with
      | false =>
        have HB : Hid (false = famB ss) := famB_bad (k := k) (by rw [HL.out]; exact hlt) (by rw [HF.out]; rfl)
        go_wp2_with (go_at_call 20; refine (HC.out _).mono ?_; clear HC; rintro e w1 ⟨rfl, rfl⟩)
        go_ret
        exact ⟨bend HB.out, hW⟩
      | true =>
        by_cases h8 : x.size ≤ 8
        · have HN : Hid (∀ j, j < k + 1 → famTo ss j = true) := ok_step hok.out (by rw [HF.out, decide_eq_true h8]; rfl)
          go_wp2_with (go_at_call 20; refine (HC.out _).mono ?_; clear HC; rintro e w1 ⟨rfl, rfl⟩)
          go_roundw
          case rel => exact ⟨k + 1, by omega, by go_num, HN, hW⟩
          case measure => simp [intOf]; omega
        · have HB : Hid (false = famB ss) := famB_bad (k := k) (by rw [HL.out]; exact hlt) (by rw [HF.out, decide_eq_false h8]; rfl)
          go_wp2_with (go_at_call 20; refine (HC.out _).mono ?_; clear HC; rintro e w1 ⟨rfl, rfl⟩)
          go_ret
          exact ⟨bend HB.out, hW⟩
    · have HB : Hid (decide ((n : Int) ≤ 4) = famB ss) := by
        rw [Hid, ← famB_good (fun j hj => hok.out j (by rw [HL.out] at hj; omega)), HL.out]; exact decide_eq_decide.2 (by omega)
      go_wp2
      go_ret
      exact ⟨bend HB.out, hW⟩

theorem short_any (s : ByteArray) (w : World) (hs : s.size ≤ 1099511627776) :
    Calls Try.prog 17 #[.string s] w fun e w' => e = .returned (.string (s.extract 0 (min s.size 61))) ∧ w = w' := by
  go_enter Try.func17, Try.ntmps17
  by_cases h : s.size ≤ 61
  · have HE : Hid (s = s.extract 0 (min s.size 61)) := by
      rw [Hid, Nat.min_eq_left h]; simp
    go_wp2
    go_ret
    exact ⟨by rw [← HE.out]; rfl, rfl⟩
  · have HE : Hid (min s.size 61 = 61) := by rw [Hid]; omega
    go_wp2
    go_ret
    exact ⟨by rw [HE.out]; rfl, rfl⟩
end Go.Proofs.Ytkemcmeagnggeaa
/- Layer 3: slices of strings that the call owns (Ows); the law's family. -/
namespace Go.Proofs.Ytkemcmeagnggeaa
open Go.RowKit
set_option linter.unusedVariables false

theorem Try.infoStr : (Try.prog.info? 9).map (fun i => (i.zero, i.size, i.bytes)) = some (some (.string ByteArray.empty), 1, 16) := by kernel_rfl
abbrev strs (ss : List ByteArray) : List Value := ss.map Value.string
/-- The call owns the slice v of the strings ss, in a block from B on. -/
def Ows (w : World) (B e : Nat) (v : Value) (ss : List ByteArray) : Prop := w.ownsRow B e 1 v ss.length (strs ss)
theorem Ows.nil (w : World) (B e : Nat) : Ows w B e (.slice none 0 0) [] := World.ownsRow_nil _ _ _ _
theorem Ows.lt {w : World} {B e : Nat} {v : Value} {ss : List ByteArray} (h : Ows w B e v ss) {k : Nat} (hk : v.ownBlock = some k) : B ≤ k ∧ k < w.heap.size := World.ownsRow.lt h k hk
theorem Ows.below {w w' : World} {B e b : Nat} {v : Value} {zs : List ByteArray} (h : Ows w B e v zs) (hb : Below b w w') (hB : w.heap.size ≤ b) : Ows w' B e v zs :=
  World.ownsRow.kept (row := none) h ⟨hb.os, hb.tape, hb.output, hb.size, fun k hk _ => hb.block k (by omega)⟩ (by
    rcases hv : v.ownBlock with _ | k
    · exact .inl rfl
    · exact .inr (by simp))
theorem Ows.rds {w : World} {B e : Nat} {v : Value} {ss : List ByteArray} (h : Ows w B e v ss) : ∃ A c, v = .slice A ss.length c ∧ ss.length ≤ c ∧ Rds w A ss := by
  rcases h.2 with ⟨rfl, h0⟩ | ⟨g, cap, cur, rfl, _, hh, hc, _⟩
  · exact ⟨none, 0, by rw [h0], by omega, fun k hk => absurd hk (by omega)⟩
  · refine ⟨_, cap, rfl, hc, fun k hk => ⟨g, 0, rfl, ?_⟩⟩
    have h' : w.ownsRow B e 1 (.slice (some ⟨g, 0, none⟩) ss.length cap) ss.length (strs ss) := h
    rw [Nat.zero_add, h'.cellAt k (by omega), List.getElem?_map, List.getElem?_eq_getElem hk]
    rfl
theorem pushs_law {P : Program} (w : World) {ops : Array Oper} {rest : List Oper} {o : Oper} {a : Act} {Q : Exit → Act → World → Prop} (hgd : o.guard = none) (s x : Operand) (t : TypeId)
    (ho : o.op = .call { callee := .builtin .append, args := #[s, x], argTypes := #[t, t] })
    (B : Nat) (e : TypeId) (i : TypeInfo) (ht : P.underlying t = some (.slice e)) (hI : P.info? e = some i ∧ i.zero = some (.string ByteArray.empty) ∧ i.size = 1 ∧ i.bytes = 16)
    (v : Value) (zs : List ByteArray) (z : ByteArray) (hs : a.eval s = v) (hx : a.eval x = .slice (some ⟨w.heap.size, 0, none⟩) 1 1) (hown : Ows w B e v zs) (hn : zs.length ≤ 1099511627776) (hB : B ≤ w.heap.size)
    (h : ∀ v' w', Ows w' B e v' (zs ++ [z]) → w.grownBy w' v.ownBlock → (v'.ownBlock = v.ownBlock ∨ ∃ g, v'.ownBlock = some g ∧ w.heap.size ≤ g) → wpList P ops Q rest (a.put o.dst v') w') :
    wpList P ops Q (o :: rest) a (w.alloc (.cells #[.string z] e)) := by
  obtain ⟨h1, h2, h3, h4⟩ := hI
  refine wpList_append_own_at _ hgd s x t ho B e i _ 1 16 ht h1 h2 h3 h4 rfl (by decide) v zs.length (strs zs) hs (World.ownsRow.alloc hown _) ⟨w.heap.size, 0, none⟩ 1 1 [.string z] hx rfl ?_ ?_ (by unfold maxLen; omega) (by omega) (by simp; omega) ?_
  · intro j u hu
    match j, hu with
    | 0, hu =>
      simp at hu; subst hu
      simp [Addr.add]
  · intro u hu
    simp at hu; subst hu; rfl
  · intro v' w' ho' hg' _ hat
    refine h v' w' (by unfold Ows; simpa [strs] using ho') (grown_alloc hg') ?_
    rcases hat with e1 | e1
    · exact .inl e1
    · exact .inr ⟨_, e1, by simp⟩

def cutS (s : ByteArray) : ByteArray := s.extract 0 (min s.size 61)
def famOf (ss : List ByteArray) : List ByteArray := (ss.take 6).map cutS
/-- The slice A, n, c holds the strings ss. -/
structure Sls (w : World) (A : Option Addr) (n c : Nat) (ss : List ByteArray) : Prop where
  len : ss.length = n
  cap : n ≤ c
  rd : Rds w A ss
  old : ∀ b off, A = some ⟨b, off, none⟩ → 0 < n → b < w.heap.size
theorem Sls.below {w w' : World} {B n c : Nat} {A : Option Addr} {ss : List ByteArray} (h : Sls w A n c ss) (hb : Below B w w') (hB : w.heap.size ≤ B) : Sls w' A n c ss :=
  ⟨h.len, h.cap, fun k hk => by
    obtain ⟨b, off, e, hc⟩ := h.rd k hk
    have := h.old b off e (by have := h.len; omega)
    exact ⟨b, off, e, (hb.cell (p := ⟨b, off + k, none⟩) (Nat.lt_of_lt_of_le this hB)).trans hc⟩, fun b off e hn => by have := h.old b off e hn; have := hb.size; omega⟩

set_option maxHeartbeats 800000 in
theorem family_any (A : Option Addr) (n c : Nat) (ss : List ByteArray) (w : World) (hs : Sls w A n c ss) (hn : n ≤ 1099511627776) (hz : ∀ i : Nat, (ss[i]?.getD ByteArray.empty).size ≤ 1099511627776) :
    Calls Try.prog 39 #[.slice A n c] w fun e w' => ∃ v, e = .returned v ∧ Ows w' w.heap.size 9 v (famOf ss) ∧ Below w.heap.size w w' := by
  have HS := Lib.hid hs; clear hs
  have HZ := Lib.hid hz; clear hz
  obtain ⟨i0, hi0, hz0, hsz, hby⟩ := info_parts Try.infoStr
  have HI := Lib.hid (And.intro hi0 (And.intro hz0 (And.intro hsz hby))); clear hi0 hz0 hsz hby
  go_enter Try.func39, Try.ntmps39
  go_wp2
  go_loopw [3, 4] (fun o i w' => ∃ k : Nat, k ≤ n ∧ k ≤ 6 ∧ i = .int .i64 k ∧ Hid (Ows w' w.heap.size 9 o ((ss.take k).map cutS)) ∧ Below w.heap.size w w') (fun _ i _ => n - (intOf i).toNat)
  case atStart => exact ⟨0, Nat.zero_le _, by omega, rfl, Ows.nil _ _ _, Below.refl _ _⟩
  case round =>
    obtain ⟨k, hk, hk6, rfl, HO, hW⟩ := hrel
    obtain ⟨wo, rfl⟩ : ∃ wo : World, wo = wr := ⟨_, rfl⟩
    by_cases hlt : k < n
    · by_cases h6 : k < 6
      · obtain ⟨b, off, rfl, hc1⟩ := (HS.out.below hW (Nat.le_refl _)).rd k (by rw [HS.out.len]; exact hlt)
        have hzk := HZ.out k
        have HT : Hid ((ss.take (k + 1)).map cutS = (ss.take k).map cutS ++ [cutS (ss[k]?.getD ByteArray.empty)]) := by
          have : k < ss.length := by rw [HS.out.len]; exact hlt
          rw [Hid, List.take_add_one, List.map_append, List.getElem?_eq_getElem this]; rfl
        have HL : Hid (((ss.take k).map cutS).length ≤ 1099511627776) := by rw [Hid, List.length_map, List.length_take]; omega
        obtain ⟨x, hx⟩ : ∃ x, x = ss[k]?.getD ByteArray.empty := ⟨_, rfl⟩
        rw [← hx] at hc1 HT hzk
        clear hx
        have HC : Hid (∀ W, Calls Try.prog 17 #[.string x] W fun e w' => e = .returned (.string (cutS x)) ∧ W = w') := fun W => short_any x W hzk
        generalize (ss.take k).map cutS = l at *
        generalize cutS x = y at *
        have hbs := hW.size
        go_wp2_with (first | (go_at_call 17; refine (HC.out _).mono ?_; clear HC; rintro e w1 ⟨rfl, rfl⟩) | (at_builtin; go_must (refine pushs_law _ rfl (.tmp 15) (.tmp 21) 51 rfl w.heap.size 9 i0 Try.underlying51 HI.out _ l y rfl rfl HO.out HL.out hbs ?_); intro v4 w4 hv4 hg4 hat4; have HO4 := Lib.hid hv4; have HB4 := Lib.hid (hW.grown hg4 hbs (fun b hb => (HO.out.lt hb).1)); clear hv4 hg4 hat4))
        exact ⟨⟨k + 1, by omega, by omega, by go_num, (by rw [Hid, HT.out]; exact HO4.out), HB4.out⟩, by simp [intOf]; omega⟩
      · have HR : Hid (famOf ss = (ss.take k).map cutS) := by rw [Hid, famOf, show k = 6 by omega]
        go_wp2
        go_ret
        exact ⟨_, rfl, by rw [HR.out]; exact HO.out, hW⟩
    · have HR : Hid (famOf ss = (ss.take k).map cutS) := by
        rw [Hid, famOf, List.take_of_length_le (by rw [HS.out.len]; omega), List.take_of_length_le (by rw [HS.out.len]; omega)]
      go_wp2
      go_ret
      exact ⟨_, rfl, by rw [HR.out]; exact HO.out, hW⟩
end Go.Proofs.Ytkemcmeagnggeaa
