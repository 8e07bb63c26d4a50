import Derived.Test.YtkemcmeagnggeaaT11
import Derived.Laws.Tables
import Derived.Test.YtkemcmeagnggeaaT10
import Derived.Test.YtkemcmeagnggeaaT06
/- Layer 3: two rows of steps side by side: the law. -/
namespace Go.Proofs.Ytkemcmeagnggeaa
open Go.RowKit
set_option linter.unusedVariables false

set_option maxRecDepth 100000 in
theorem wpList_build_two {ops : Array Oper} {rest : List Oper} {o : Oper} {a : Act} {w : World} {Q : Exit → Act → World → Prop} (hg : o.guard = none) (x y : Operand) (ho : o.op = .build 76 #[(0, x), (1, y)]) (f h : Nat → Int)
    (hx : a.eval x = .agg (rowV 248 f)) (hy : a.eval y = .agg (rowV 248 h)) (hK : wpList Try.prog ops Q rest (a.put o.dst (.agg (rowV 496 (join2 f h)))) w) : wpList Try.prog ops Q (o :: rest) a w := by
  have e : ((#[(0, x), (1, y)] : Array (Nat × Operand)).map fun (p : Nat × Operand) => (p.1, a.eval p.2)).toList = [(0, .agg (rowV 248 f)), (1, .agg (rowV 248 h))] := by simp [hx, hy]
  have hb := built_two f h
  rw [← e] at hb
  refine wpList_build hg 76 #[(0, x), (1, y)] ho (by rw [hb]; rfl) ?_
  rw [hb]
  exact hK
end Go.Proofs.Ytkemcmeagnggeaa
/- Layer 3: subsequences as states; the program's Differ, Same, Absent. -/
namespace Go.Proofs.Ytkemcmeagnggeaa
open Go.RowKit
set_option linter.unusedVariables false

/-- Is x a subsequence of w? -/
def subB (x w : List Int) : Bool := (withinF x w).isSome
/-- The first word of the first k letters with a property. -/
def IsFirst (k : Nat) (p : List Int → Prop) : Option (List Int) → Prop
  | some x => isW k x ∧ p x ∧ ∀ y, isW k y → p y → leL x y
  | none => ∀ y, isW k y → ¬ p y
theorem IsFirst.uniq {k : Nat} {p : List Int → Prop} : ∀ {r r' : Option (List Int)}, IsFirst k p r → IsFirst k p r' → r = r'
  | some x, some y, h, h' => by rw [leL_antisymm (h.2.2 y h'.1 h'.2.1) (h'.2.2 x h.1 h.2.1)]
  | some x, none, h, h' => absurd h.2.1 (h' x h.1)
  | none, some y, h, h' => absurd h'.2.1 (h y h'.1)
  | none, none, _, _ => rfl
theorem IsFirst.congr {k : Nat} {p q : List Int → Prop} (e : ∀ y, isW k y → (p y ↔ q y)) : ∀ {r : Option (List Int)}, IsFirst k p r → IsFirst k q r
  | some x, h => ⟨h.1, (e x h.1).1 h.2.1, fun y hy hq => h.2.2 y hy ((e y hy).2 hq)⟩
  | none, h => fun y hy hq => h y hy ((e y hy).2 hq)
theorem isW_take {k : Nat} {x : List Int} (h : isW k x) (n : Nat) : isW k (x.take n) := fun b hb => h b (List.mem_of_mem_take hb)
theorem isW_letter {k : Nat} {x : List Int} (h : isW k x) {i : Nat} (hi : i < x.length) : ∃ c : Nat, c < k ∧ x[i]?.getD 0 = 97 + (c : Int) := by
  have := h x[i] (List.getElem_mem hi)
  rw [List.getElem?_eq_getElem hi, Option.getD_some]
  exact ⟨(x[i] - 97).toNat, by omega, by omega⟩
/-- Where the steps of w lead, letter by letter. -/
theorem within_run {w x : List Int} {k : Nat} (hw : w.length ≤ 60) (hk : k ≤ 4) (hx : isW k x) (f : Nat → Int) (hf : ∀ i, i < 248 → f i = stepG w i) : ∀ n, n ≤ x.length →
    (withinTo x w n = none ∧ (x.take n).foldl (fun (p : Nat) b => (f (p * 4 + (b - 97).toNat)).toNat) 0 = 61) ∨ ∃ q, withinTo x w n = some q ∧ q.2 ≤ w.length ∧ (x.take n).foldl (fun (p : Nat) b => (f (p * 4 + (b - 97).toNat)).toNat) 0 = q.2 := by
  intro n
  induction n with
  | zero => intro _; exact .inr ⟨([], 0), rfl, Nat.zero_le _, rfl⟩
  | succ n ih =>
    intro hn
    obtain ⟨c, hc, hxc⟩ := isW_letter hx (i := n) (by omega)
    have htk : x.take (n + 1) = x.take n ++ [97 + (c : Int)] := by
      rw [List.take_add_one, List.getElem?_eq_getElem (by omega)]
      rw [List.getElem?_eq_getElem (by omega), Option.getD_some] at hxc
      rw [hxc]; rfl
    rw [htk, List.foldl_append]
    simp only [List.foldl_cons, List.foldl_nil]
    rw [show (97 + (c : Int) - 97).toNat = c by omega]
    rcases ih (by omega) with ⟨h1, h2⟩ | ⟨⟨l, p⟩, h1, h3, h2⟩
    · left
      refine ⟨withinTo_none (Nat.le_succ n) h1, ?_⟩
      rw [h2, hf _ (by omega), stepG_at _ (by omega), stepF_end (by omega)]; rfl
    · dsimp only at h3 h2
      rw [h2, hf _ (by omega), stepG_at _ (by omega), withinTo, h1, hxc]
      dsimp only
      rcases stepF_next (w := w) (p := p) (c := c) with ⟨h4, h5⟩ | ⟨q, h4, h5, h6, h7⟩
      · left; rw [if_pos h4, h5]; exact ⟨rfl, rfl⟩
      · right
        rw [h4, if_neg (by omega), h5]
        exact ⟨_, rfl, by simpa using h7, by simp⟩
theorem sub_run {w x : List Int} {k : Nat} (hw : w.length ≤ 60) (hk : k ≤ 4) (hx : isW k x) (f : Nat → Int) (hf : ∀ i, i < 248 → f i = stepG w i) :
    x.foldl (fun (p : Nat) b => (f (p * 4 + (b - 97).toNat)).toNat) 0 = 61 ↔ subB x w = false := by
  unfold subB withinF
  rcases within_run hw hk hx f hf x.length (Nat.le_refl _) with ⟨h1, h2⟩ | ⟨q, h1, h3, h2⟩
  · rw [List.take_length] at h2
    rw [h1, h2]; simp
  · rw [List.take_length] at h2
    rw [h1, h2]; simp; omega
theorem run_fst (g : Nat → Int) (x : List Int) : (runS (step2 g) (0, 0) x).1 = x.foldl (fun (p : Nat) b => (g (p * 4 + (b - 97).toNat)).toNat) 0 := by
  unfold runS
  have key : ∀ (s : Nat × Nat), (x.foldl (fun s b => step2 g s (b - 97).toNat) s).1 = x.foldl (fun (p : Nat) b => (g (p * 4 + (b - 97).toNat)).toNat) s.1 := by
    induction x with
    | nil => intro s; rfl
    | cons b x ih => intro s; rw [List.foldl_cons, List.foldl_cons, ih]; rfl
  exact key _
theorem run_snd (g : Nat → Int) (x : List Int) : (runS (step2 g) (0, 0) x).2 = x.foldl (fun (p : Nat) b => (g (248 + p * 4 + (b - 97).toNat)).toNat) 0 := by
  unfold runS
  have key : ∀ (s : Nat × Nat), (x.foldl (fun s b => step2 g s (b - 97).toNat) s).2 = x.foldl (fun (p : Nat) b => (g (248 + p * 4 + (b - 97).toNat)).toNat) s.2 := by
    induction x with
    | nil => intro s; rfl
    | cons b x ih => intro s; rw [List.foldl_cons, List.foldl_cons, ih]; rfl
  exact key _
theorem bad_two {u w : List Int} (hu : u.length ≤ 60) (hw : w.length ≤ 60) {x : List Int} (hx : isW 4 x) : badP (runS (step2 (join2 (stepG u) (stepG w))) (0, 0) x) ↔ subB x u ≠ subB x w := by
  unfold badP
  rw [run_fst, run_snd, sub_run hu (Nat.le_refl _) hx (join2 (stepG u) (stepG w)) (fun i hi => if_pos hi)]
  have e : (x.foldl (fun (p : Nat) b => ((join2 (stepG u) (stepG w)) (248 + p * 4 + (b - 97).toNat)).toNat) 0) = x.foldl (fun (p : Nat) b => (stepG w (p * 4 + (b - 97).toNat)).toNat) 0 := by
    congr 1
    funext p b
    unfold join2
    rw [if_neg (by omega), show 248 + p * 4 + (b - 97).toNat - 248 = p * 4 + (b - 97).toNat by omega]
  rw [e, sub_run hw (Nat.le_refl _) hx (stepG w) (fun i _ => rfl)]
  cases subB x u <;> cases subB x w <;> simp
theorem stepG_rng {w : List Int} (hw : w.length ≤ 60) (i : Nat) : ∃ m : Nat, stepG w i = (m : Int) ∧ 1 ≤ m ∧ m < 62 := by
  unfold stepG
  rcases stepF_rng (w := w) (i / 4) (i % 4) with ⟨h1, _⟩ | ⟨h1, h2, _⟩
  · exact ⟨61, h1, by omega, by omega⟩
  · exact ⟨(stepF w (i / 4) (i % 4)).toNat, by omega, by omega, by omega⟩
theorem steps_two {u w : List Int} (hu : u.length ≤ 60) (hw : w.length ≤ 60) : Steps2 (join2 (stepG u) (stepG w)) where
  fst i hi := by rw [join2, if_pos hi]; exact stepG_rng hu i
  snd i hi := by
    rw [join2, if_neg (by omega), show 248 + i - 248 = i by omega]
    obtain ⟨m, h1, _, h2⟩ := stepG_rng hw i
    exact ⟨m, h1, h2⟩
theorem dead_two {u w : List Int} (hu : u.length ≤ 60) (hw : w.length ≤ 60) (c : Nat) (hc : c < 4) : step2 (join2 (stepG u) (stepG w)) (61, 61) c = (61, 61) := by
  unfold step2 join2
  rw [if_pos (by show 61 * 4 + c < 248; omega), if_neg (by show ¬ 248 + 61 * 4 + c < 248; omega)]
  show ((stepG u (61 * 4 + c)).toNat, (stepG w (248 + 61 * 4 + c - 248)).toNat) = (61, 61)
  rw [show 248 + 61 * 4 + c - 248 = 61 * 4 + c by omega, stepG_at _ hc, stepG_at _ hc, stepF_end (by omega), stepF_end (by omega)]; rfl
theorem isW_word {x : List Int} (h : isW 4 x) (hl : x.length ≤ 60) : wordB x = true := by
  unfold wordB
  rw [Bool.and_eq_true]
  refine ⟨by simpa using hl, lettersB_iff.2 fun i hi => ?_⟩
  obtain ⟨c, hc, e⟩ := isW_letter h hi
  omega

/-- The first word that tells two words apart. -/
def DifP (us ws : List Int) (y : List Int) : Prop := subB y us ≠ subB y ws
/-- What firstOfOne gives on two words. -/
def FDPost (us ws : List Int) (e : Ending) : Prop :=
  (∃ x : ByteArray, e = .returned (.tuple #[.string x, .bool true]) ∧ IsFirst 4 (DifP us ws) (some (bs x))) ∨ (e = .returned (.tuple #[.string ByteArray.empty, .bool false]) ∧ IsFirst 4 (DifP us ws) none)
theorem FDPost.of {us ws : List Int} (hu : us.length ≤ 60) (hw : ws.length ≤ 60) {e : Ending} (h : FPost 4 (join2 (stepG us) (stepG ws)) e) : FDPost us ws e := by
  rcases h with ⟨x, he, h1, h2, h3⟩ | ⟨he, h1⟩
  · exact .inl ⟨x, he, h1, (bad_two hu hw h1).1 h2, fun y hy hp => h3 y hy ((bad_two hu hw hy).2 hp)⟩
  · exact .inr ⟨he, fun y hy hp => h1 y hy ((bad_two hu hw hy).2 hp)⟩
theorem first_two (u s : ByteArray) (bT t : Nat) (w : World) (hu : u.size ≤ 60) (hs : s.size ≤ 60) (hr : Rw w bT t 496 (join2 (stepG (bs u)) (stepG (bs s)))) :
    Calls Try.prog 59 #[.pointer (some ⟨bT, 0, none⟩), .int .i64 4] w fun e w' => FDPost (bs u) (bs s) e ∧ Below w.heap.size w w' := by
  have hu' : (bs u).length ≤ 60 := by rw [bs_len]; exact hu
  have hs' : (bs s).length ≤ 60 := by rw [bs_len]; exact hs
  refine (first_any 4 bT t (join2 (stepG (bs u)) (stepG (bs s))) (fun s => s = (61, 61)) w (by omega) (by omega) (steps_two hu' hs') (fun _ _ _ _ _ _ => rfl) (fun s c hd hc => ?_) (fun s hd hb => ?_) hr).mono ?_
  · rw [hd]; exact dead_two hu' hs' c hc
  · rw [hd] at hb; exact hb ⟨fun _ => rfl, fun _ => rfl⟩
  · rintro e w' ⟨h, hb⟩
    exact ⟨FDPost.of hu' hs' h, hb⟩

theorem two_below {w w1 w2 w3 w4 : World} (h1 : Dr w w1) (h2 : Dr w1 w2) (h3 : Below w2.heap.size w2 w3) (h4 : Below w3.heap.size w3 w4) (o : Obj) : Below w.heap.size w (w4.alloc o) := by
  have e := (h1.trans h2).size
  have h5 := h3.size
  have h6 := h4.size
  have a := below_of_dr (B := w.heap.size) (h1.trans h2)
  exact (a.trans ((h3.mono (by omega)).trans (h4.mono (by omega)))).alloc (by omega) _
theorem differP_bad (u s : ByteArray) (w : World) (hu : u.size ≤ 1000000) (hs : s.size ≤ 1000000) (h : wordB (bs u) = false ∨ wordB (bs s) = false) :
    Calls Try.prog 36 #[.string u, .string s] w fun e w' => e = .returned (.tuple #[.string ByteArray.empty, .int .i64 2]) ∧ Dr w w' := by
  by_cases h1 : wordB (bs u) = true
  · have h2 : wordB (bs s) = false := by rcases h with h | h <;> simp_all
    have HU := Lib.hid (fun W => isWord_is u true W (by omega) h1)
    have HS := Lib.hid (fun W => isWord_is s false W (by omega) h2)
    clear h h1 h2
    go_enter Try.func36, Try.ntmps36
    go_wp2_with (first | (go_at_call 48; (with_reducible refine (HU.out _).mono ?_); rintro e w1 ⟨rfl, hd1⟩) | (go_at_call 48; (with_reducible refine (HS.out _).mono ?_); rintro e w2 ⟨rfl, hd2⟩))
    go_ret2
    exact ⟨rfl, hd1.trans hd2⟩
  · have HU := Lib.hid (fun W => isWord_is u false W (by omega) (by simpa using h1))
    clear h h1
    go_enter Try.func36, Try.ntmps36
    go_wp2_with (first | (go_at_call 48; (with_reducible refine (HU.out _).mono ?_); rintro e w1 ⟨rfl, hd1⟩))
    go_ret2
    exact ⟨rfl, hd1⟩
/-- What Differ gives. -/
def DPost (us ws : List Int) (e : Ending) : Prop :=
  (∃ x : ByteArray, e = .returned (.tuple #[.string x, .int .i64 0]) ∧ IsFirst 4 (DifP us ws) (some (bs x))) ∨ (e = .returned (.tuple #[.string ByteArray.empty, .int .i64 6]) ∧ IsFirst 4 (DifP us ws) none)
set_option maxRecDepth 100000 in
set_option maxHeartbeats 1600000 in
theorem differP_any (u s : ByteArray) (w : World) (hu : wordB (bs u) = true) (hs : wordB (bs s) = true) :
    Calls Try.prog 36 #[.string u, .string s] w fun e w' => DPost (bs u) (bs s) e ∧ Below w.heap.size w w' := by
  have hu60 := word_size hu
  have hs60 := word_size hs
  have HU := Lib.hid (fun W => isWord_is u true W (by omega) hu)
  have HS := Lib.hid (fun W => isWord_is s true W (by omega) hs)
  have HSU := Lib.hid (fun W => stepsOf_any u W hu)
  have HSS := Lib.hid (fun W => stepsOf_any s W hs)
  have HONE := Lib.hid (rowV_one 496 (join2 (stepG (bs u)) (stepG (bs s))))
  have HINF : Hid ((Try.prog.info? 76).map (·.size) = some (rowV 496 (join2 (stepG (bs u)) (stepG (bs s)))).size) := by rw [Hid, rowV_size]; exact Try.sizeTwo
  have HFI := Lib.hid (fun bT t W hr => first_two u s bT t W hu60 hs60 hr)
  clear hu hs
  go_enter Try.func36, Try.ntmps36
  go_wp2_with (first | (go_at_call 48; (with_reducible refine (HU.out _).mono ?_); rintro e w1 ⟨rfl, hd1⟩) | (go_at_call 48; (with_reducible refine (HS.out _).mono ?_); rintro e w2 ⟨rfl, hd2⟩) | (go_at_call 49; (with_reducible refine (HSU.out _).mono ?_); rintro e w3 ⟨rfl, hb3⟩) | (go_at_call 49; (with_reducible refine (HSS.out _).mono ?_); rintro e w4 ⟨rfl, hb4⟩) | (refine wpList_build_two (by rfl) (.tmp 18) (.tmp 20) (by rfl) (stepG (bs u)) (stepG (bs s)) (by rfl) (by rfl) ?_) | (refine wpList_alloc_row (by rfl) 76 (by rfl) _ Try.zeroTwo ?_) | (refine wpList_store_new (by rfl) 76 (.tmp 6) (.tmp 21) (by rfl) w4 _ _ (by rfl) (by rfl) HINF.out (rowV_same _ _ _) HONE.out ?_))
  have hb4' : Below w.heap.size w (w4.alloc (.cells (rowV 496 (join2 (stepG (bs u)) (stepG (bs s)))) 76)) := two_below hd1 hd2 hb3 hb4 _
  have HB4 := Lib.hid hb4'
  refine (HFI.out w4.heap.size 76 _ (Rw.new w4 76 496 _)).mono ?_
  clear hd1 hd2 hb3 hb4 hb4'
  rintro e w5 ⟨⟨x, rfl, hx⟩ | ⟨rfl, hx⟩, hb5⟩
  · have HX := Lib.hid hx; clear hx
    go_wp2
    go_ret2
    exact ⟨.inl ⟨x, rfl, HX.out⟩, HB4.out.trans (hb5.mono HB4.out.size)⟩
  · have HX := Lib.hid hx; clear hx
    go_wp2
    go_ret2
    exact ⟨.inr ⟨rfl, HX.out⟩, HB4.out.trans (hb5.mono HB4.out.size)⟩

/-- What Same gives. -/
def SPost (us ws : List Int) (n : Int) (e : Ending) : Prop := ∃ r, IsFirst 4 (DifP us ws) r ∧ e = .returned (.tuple #[.bool (match r with | some x => decide (n < (x.length : Int)) | none => true), .int .i64 0])
theorem SPost.some {us ws : List Int} {n : Int} {e : Ending} {x : ByteArray} (h : IsFirst 4 (DifP us ws) (some (bs x))) (he : e = .returned (.tuple #[.bool (decide (n < (x.size : Int))), .int .i64 0])) : SPost us ws n e := ⟨_, h, by rw [he, ← bs_len]⟩
theorem SPost.none {us ws : List Int} {n : Int} {e : Ending} (h : IsFirst 4 (DifP us ws) Option.none) (he : e = .returned (.tuple #[.bool true, .int .i64 0])) : SPost us ws n e := ⟨_, h, he⟩
set_option maxRecDepth 100000 in
set_option maxHeartbeats 1600000 in
theorem sameP_any (u s : ByteArray) (n : Int) (w : World) (hu : wordB (bs u) = true) (hs : wordB (bs s) = true) (hn : 0 ≤ n) :
    Calls Try.prog 37 #[.string u, .string s, .int .i64 n] w fun e w' => SPost (bs u) (bs s) n e ∧ Below w.heap.size w w' := by
  have hu60 := word_size hu
  have hs60 := word_size hs
  have HU := Lib.hid (fun W => isWord_is u true W (by omega) hu)
  have HS := Lib.hid (fun W => isWord_is s true W (by omega) hs)
  have HSU := Lib.hid (fun W => stepsOf_any u W hu)
  have HSS := Lib.hid (fun W => stepsOf_any s W hs)
  have HONE := Lib.hid (rowV_one 496 (join2 (stepG (bs u)) (stepG (bs s))))
  have HINF : Hid ((Try.prog.info? 76).map (·.size) = some (rowV 496 (join2 (stepG (bs u)) (stepG (bs s)))).size) := by rw [Hid, rowV_size]; exact Try.sizeTwo
  have HFI := Lib.hid (fun bT t W hr => first_two u s bT t W hu60 hs60 hr)
  clear hu hs
  have gn : decide (n < 0) = false := decide_eq_false (by omega)
  go_enter Try.func37, Try.ntmps37
  go_wp2_with (first | (go_at_call 48; (with_reducible refine (HU.out _).mono ?_); rintro e w1 ⟨rfl, hd1⟩) | (go_at_call 48; (with_reducible refine (HS.out _).mono ?_); rintro e w2 ⟨rfl, hd2⟩) | (go_at_call 49; (with_reducible refine (HSU.out _).mono ?_); rintro e w3 ⟨rfl, hb3⟩) | (go_at_call 49; (with_reducible refine (HSS.out _).mono ?_); rintro e w4 ⟨rfl, hb4⟩) | (refine wpList_build_two (by rfl) (.tmp 24) (.tmp 26) (by rfl) (stepG (bs u)) (stepG (bs s)) (by rfl) (by rfl) ?_) | (refine wpList_alloc_row (by rfl) 76 (by rfl) _ Try.zeroTwo ?_) | (refine wpList_store_new (by rfl) 76 (.tmp 8) (.tmp 27) (by rfl) w4 _ _ (by rfl) (by rfl) HINF.out (rowV_same _ _ _) HONE.out ?_))
  have hb4' : Below w.heap.size w (w4.alloc (.cells (rowV 496 (join2 (stepG (bs u)) (stepG (bs s)))) 76)) := two_below hd1 hd2 hb3 hb4 _
  have HB4 := Lib.hid hb4'
  refine (HFI.out w4.heap.size 76 _ (Rw.new w4 76 496 _)).mono ?_
  clear hd1 hd2 hb3 hb4 hb4'
  rintro e w5 ⟨⟨x, rfl, hx⟩ | ⟨rfl, hx⟩, hb5⟩
  · have HX := Lib.hid hx; clear hx
    go_wp2
    go_ret2
    exact ⟨SPost.some HX.out rfl, HB4.out.trans (hb5.mono HB4.out.size)⟩
  · have HX := Lib.hid hx; clear hx
    go_wp2
    go_ret2
    exact ⟨SPost.none HX.out rfl, HB4.out.trans (hb5.mono HB4.out.size)⟩
end Go.Proofs.Ytkemcmeagnggeaa
/- Layer 3: the program's Same and Absent: errors; Absent. -/
namespace Go.Proofs.Ytkemcmeagnggeaa
open Go.RowKit
set_option linter.unusedVariables false

set_option maxHeartbeats 800000 in
theorem sameP_bad (u s : ByteArray) (n : Int) (w : World) (hu : u.size ≤ 1000000) (hs : s.size ≤ 1000000) (h : wordB (bs u) = false ∨ wordB (bs s) = false ∨ n < 0) :
    Calls Try.prog 37 #[.string u, .string s, .int .i64 n] w fun e w' => e = .returned (.tuple #[.bool false, .int .i64 2]) ∧ Dr w w' := by
  by_cases h1 : wordB (bs u) = true
  · have HU := Lib.hid (fun W => isWord_is u true W (by omega) h1)
    by_cases h2 : wordB (bs s) = true
    · have HS := Lib.hid (fun W => isWord_is s true W (by omega) h2)
      have gn : decide (n < 0) = true := decide_eq_true (by rcases h with h | h | h <;> simp_all)
      clear h h1 h2
      go_enter Try.func37, Try.ntmps37
      go_wp2_with (first | (go_at_call 48; (with_reducible refine (HU.out _).mono ?_); rintro e w1 ⟨rfl, hd1⟩) | (go_at_call 48; (with_reducible refine (HS.out _).mono ?_); rintro e w2 ⟨rfl, hd2⟩))
      go_ret2
      exact ⟨rfl, hd1.trans hd2⟩
    · have HS := Lib.hid (fun W => isWord_is s false W (by omega) (by simpa using h2))
      clear h h1 h2
      go_enter Try.func37, Try.ntmps37
      go_wp2_with (first | (go_at_call 48; (with_reducible refine (HU.out _).mono ?_); rintro e w1 ⟨rfl, hd1⟩) | (go_at_call 48; (with_reducible refine (HS.out _).mono ?_); rintro e w2 ⟨rfl, hd2⟩))
      go_ret2
      exact ⟨rfl, hd1.trans hd2⟩
  · have HU := Lib.hid (fun W => isWord_is u false W (by omega) (by simpa using h1))
    clear h h1
    go_enter Try.func37, Try.ntmps37
    go_wp2_with (first | (go_at_call 48; (with_reducible refine (HU.out _).mono ?_); rintro e w1 ⟨rfl, hd1⟩))
    go_ret2
    exact ⟨rfl, hd1⟩
/-- May Arches and Absent be asked? -/
def archOk (s : ByteArray) (k : Int) : Bool := wordB (bs s) && lettersK k && lettersB (bs s) k
theorem isLetters_is (k : Int) (b : Bool) (w : World) (hb : lettersK k = b) : Calls Try.prog 56 #[.int .i64 k] w fun e w' => e = .returned (.bool b) ∧ w = w' := by subst hb; exact isLetters_any k w
theorem hasOnly_is (s : ByteArray) (k : Nat) (b : Bool) (w : World) (hk : k ≤ 4) (hs : s.size ≤ 1000000) (hb : lettersB (bs s) k = b) : Calls Try.prog 57 #[.string s, .int .i64 (k : Int)] w fun e w' => e = .returned (.bool b) ∧ Dr w w' := by subst hb; exact hasOnly_any s k w hk (by omega)
theorem lettersK_iff {k : Int} : lettersK k = true ↔ ∃ n : Nat, k = (n : Int) ∧ 1 ≤ n ∧ n ≤ 4 := by
  unfold lettersK
  rw [Bool.and_eq_true, decide_eq_true_iff, decide_eq_true_iff]
  constructor
  · intro h; exact ⟨k.toNat, by omega, by omega, by omega⟩
  · rintro ⟨n, rfl, h1, h2⟩; omega
set_option maxHeartbeats 800000 in
theorem absentP_bad (s : ByteArray) (k : Int) (w : World) (hs : s.size ≤ 1000000) (h : archOk s k = false) :
    Calls Try.prog 32 #[.string s, .int .i64 k] w fun e w' => e = .returned (.tuple #[.string ByteArray.empty, .int .i64 2]) ∧ Dr w w' := by
  by_cases h1 : wordB (bs s) = true
  · have HS := Lib.hid (fun W => isWord_is s true W (by omega) h1)
    by_cases h2 : lettersK k = true
    · obtain ⟨n, rfl, hn1, hn4⟩ := lettersK_iff.1 h2
      have h3 : lettersB (bs s) n = false := by unfold archOk at h; rw [h1, h2] at h; simpa using h
      have HL := Lib.hid (fun W => isLetters_is (n : Int) true W h2)
      have HO := Lib.hid (fun W => hasOnly_is s n false W hn4 hs h3)
      clear h h1 h2 h3
      go_enter Try.func32, Try.ntmps32
      go_wp2_with (first | (go_at_call 48; refine (HS.out _).mono ?_; rintro e w1 ⟨rfl, hd1⟩) | (go_at_call 56; refine (HL.out _).mono ?_; rintro e w2 ⟨rfl, rfl⟩) | (go_at_call 57; refine (HO.out _).mono ?_; rintro e w3 ⟨rfl, hd3⟩))
      go_ret2
      exact ⟨rfl, hd1.trans hd3⟩
    · have HL := Lib.hid (fun W => isLetters_is k false W (by simpa using h2))
      clear h h1 h2
      go_enter Try.func32, Try.ntmps32
      go_wp2_with (first | (go_at_call 48; refine (HS.out _).mono ?_; rintro e w1 ⟨rfl, hd1⟩) | (go_at_call 56; refine (HL.out _).mono ?_; rintro e w2 ⟨rfl, rfl⟩))
      go_ret2
      exact ⟨rfl, hd1⟩
  · have HS := Lib.hid (fun W => isWord_is s false W (by omega) (by simpa using h1))
    clear h h1
    go_enter Try.func32, Try.ntmps32
    go_wp2_with (go_at_call 48; refine (HS.out _).mono ?_; rintro e w1 ⟨rfl, hd1⟩)
    go_ret2
    exact ⟨rfl, hd1⟩

set_option maxRecDepth 1000000 in
theorem built_none : Try.prog.built 72 [] = some (rowV 248 fun _ => 0) := by kernel_rfl
set_option maxRecDepth 100000 in
theorem wpList_build_none {ops : Array Oper} {rest : List Oper} {o : Oper} {a : Act} {w : World} {Q : Exit → Act → World → Prop} (hg : o.guard = none) (ho : o.op = .build 72 #[])
    (hK : wpList Try.prog ops Q rest (a.put o.dst (.agg (rowV 248 fun _ => 0))) w) : wpList Try.prog ops Q (o :: rest) a w := by
  have e : ((#[] : Array (Nat × Operand)).map fun (p : Nat × Operand) => (p.1, a.eval p.2)).toList = [] := by simp
  have hb := built_none
  rw [← e] at hb
  refine wpList_build hg 72 #[] ho (by rw [hb]; rfl) ?_
  rw [hb]
  exact hK
theorem fold_zero (x : List Int) : x.foldl (fun (p : Nat) b => ((fun _ : Nat => (0 : Int)) (p * 4 + (b - 97).toNat)).toNat) 0 = 0 := by
  induction x with
  | nil => rfl
  | cons b x ih => exact ih
theorem bad_one {w : List Int} (hw : w.length ≤ 60) {k : Nat} (hk : k ≤ 4) {x : List Int} (hx : isW k x) : badP (runS (step2 (join2 (stepG w) (fun _ => 0))) (0, 0) x) ↔ subB x w = false := by
  unfold badP
  rw [run_fst, run_snd, sub_run hw hk hx (join2 (stepG w) (fun _ => 0)) (fun i hi => if_pos hi)]
  have e : (x.foldl (fun (p : Nat) b => ((join2 (stepG w) (fun _ => 0)) (248 + p * 4 + (b - 97).toNat)).toNat) 0) = x.foldl (fun (p : Nat) b => ((fun _ : Nat => (0 : Int)) (p * 4 + (b - 97).toNat)).toNat) 0 := by
    congr 1
    funext p b
    unfold join2
    rw [if_neg (by omega)]
  rw [e, fold_zero]
  simp
theorem steps_one {w : List Int} (hw : w.length ≤ 60) : Steps2 (join2 (stepG w) (fun _ => 0)) where
  fst i hi := by rw [join2, if_pos hi]; exact stepG_rng hw i
  snd i hi := by rw [join2, if_neg (by omega)]; exact ⟨0, rfl, by omega⟩
/-- What Absent gives. -/
def AbPost (k : Nat) (ws : List Int) (e : Ending) : Prop :=
  (∃ x : ByteArray, e = .returned (.tuple #[.string x, .int .i64 0]) ∧ IsFirst k (fun y => subB y ws = false) (some (bs x))) ∨ (e = .returned (.tuple #[.string ByteArray.empty, .int .i64 0]) ∧ IsFirst k (fun y => subB y ws = false) none)
set_option maxRecDepth 100000 in
set_option maxHeartbeats 1600000 in
theorem absentP_any (s : ByteArray) (k : Nat) (w : World) (h : archOk s k = true) :
    Calls Try.prog 32 #[.string s, .int .i64 (k : Int)] w fun e w' => AbPost k (bs s) e ∧ Below w.heap.size w w' := by
  unfold archOk at h
  rw [Bool.and_eq_true, Bool.and_eq_true] at h
  obtain ⟨⟨hs, h2⟩, h3⟩ := h
  obtain ⟨n, e, hk1, hk4⟩ := lettersK_iff.1 h2
  obtain rfl : k = n := by omega
  clear e
  have hs60 := word_size hs
  have hs' : (bs s).length ≤ 60 := by rw [bs_len]; exact hs60
  have HS := Lib.hid (fun W => isWord_is s true W (by omega) hs)
  have HL := Lib.hid (fun W => isLetters_is (k : Int) true W h2)
  have HO := Lib.hid (fun W => hasOnly_is s k true W hk4 (by omega) h3)
  have HST := Lib.hid (fun W => stepsOf_any s W hs)
  have HONE := Lib.hid (rowV_one 496 (join2 (stepG (bs s)) (fun _ => 0)))
  have HINF : Hid ((Try.prog.info? 76).map (·.size) = some (rowV 496 (join2 (stepG (bs s)) (fun _ => 0))).size) := by rw [Hid, rowV_size]; exact Try.sizeTwo
  have HFI : Hid (∀ bT t W, Rw W bT t 496 (join2 (stepG (bs s)) (fun _ => 0)) → Calls Try.prog 59 #[.pointer (some ⟨bT, 0, none⟩), .int .i64 (k : Int)] W fun e w' => FPost k (join2 (stepG (bs s)) (fun _ => 0)) e ∧ Below W.heap.size W w') := fun bT t W hr =>
    first_any k bT t (join2 (stepG (bs s)) (fun _ => 0)) (fun _ => False) W hk1 hk4 (steps_one hs') (fun sp c h1 h2 h3 he => by
      have h5 : (join2 (stepG (bs s)) (fun _ => 0) (248 + sp.2 * 4 + c)).toNat = 61 := congrArg Prod.snd he
      unfold join2 at h5
      rw [if_neg (by omega)] at h5
      simp at h5) (fun _ _ h _ => h) (fun _ h => h.elim) hr
  have HSL := Lib.hid hs'
  have HK4 := Lib.hid hk4
  clear hs h2 h3 hs'
  go_enter Try.func32, Try.ntmps32
  go_wp2_with (first | (go_at_call 48; refine (HS.out _).mono ?_; rintro e w1 ⟨rfl, hd1⟩) | (go_at_call 56; refine (HL.out _).mono ?_; rintro e w2 ⟨rfl, rfl⟩) | (go_at_call 57; refine (HO.out _).mono ?_; rintro e w2 ⟨rfl, hd2⟩) | (go_at_call 49; refine (HST.out _).mono ?_; rintro e w4 ⟨rfl, hb4⟩) | (refine wpList_build_none (by rfl) (by rfl) ?_) | (refine wpList_build_two (by rfl) (.tmp 24) (.tmp 25) (by rfl) (stepG (bs s)) (fun _ => 0) (by rfl) (by rfl) ?_) | (refine wpList_alloc_row (by rfl) 76 (by rfl) _ Try.zeroTwo ?_) | (refine wpList_store_new (by rfl) 76 (.tmp 6) (.tmp 26) (by rfl) w4 _ _ (by rfl) (by rfl) HINF.out (rowV_same _ _ _) HONE.out ?_))
  have hb4' : Below w.heap.size w (w4.alloc (.cells (rowV 496 (join2 (stepG (bs s)) (fun _ => 0))) 76)) := by
    have e := (hd1.trans hd2).size
    have a := below_of_dr (B := w.heap.size) (hd1.trans hd2)
    exact (a.trans (hb4.mono (by omega))).alloc (by have := hb4.size; omega) _
  have HB4 := Lib.hid hb4'
  refine (HFI.out w4.heap.size 76 _ (Rw.new w4 76 496 _)).mono ?_
  clear hd1 hd2 hb4 hb4'
  rintro e w5 ⟨⟨x, rfl, h1, h2, h3⟩ | ⟨rfl, hx⟩, hb5⟩
  · have HX : Hid (IsFirst k (fun y => subB y (bs s) = false) (some (bs x))) := ⟨h1, (bad_one HSL.out HK4.out h1).1 h2, fun y hy hp => h3 y hy ((bad_one HSL.out HK4.out hy).2 hp)⟩
    clear h1 h2 h3
    go_wp2
    go_ret2
    exact ⟨.inl ⟨x, rfl, HX.out⟩, HB4.out.trans (hb5.mono HB4.out.size)⟩
  · have HX : Hid (IsFirst k (fun y => subB y (bs s) = false) none) := fun y hy hp => hx y hy ((bad_one HSL.out HK4.out hy).2 hp)
    clear hx
    go_wp2
    go_ret2
    exact ⟨.inr ⟨rfl, HX.out⟩, HB4.out.trans (hb5.mono HB4.out.size)⟩
end Go.Proofs.Ytkemcmeagnggeaa
