import Derived.Test.YtcnjkdkkflpgnaaT13
import Derived.Deep.LoopGhost
/- Layer 8: lower. -/
namespace Go.Proofs.Ytcnjkdkkflpgnaa
open Go.RowKit
set_option linter.unusedVariables false

theorem atI_set {l : List Int} {k j : Nat} {x : Int} (hk : k < l.length) : atI (l.set k x) j = if j = k then x else atI l j := by
  unfold atI
  rw [List.getElem?_set]
  by_cases e : k = j
  · subst e; rw [if_pos rfl, if_pos hk, if_pos rfl]; rfl
  · rw [if_neg e, if_neg (fun h => e h.symm)]
/-- One order's cost after its first t neighbours have been looked at. -/
def lowJ (R : List (List Int)) (k : Nat) (cs : List Int) : Nat → List Int
  | 0 => cs
  | t + 1 => if atI (lowJ R k cs t) (atI (ordAt R k) t).toNat + 1 < atI (lowJ R k cs t) k then (lowJ R k cs t).set k (atI (lowJ R k cs t) (atI (ordAt R k) t).toNat + 1) else lowJ R k cs t
/-- The first k orders' costs. -/
def lowK (R : List (List Int)) (mm : Nat) (cs : List Int) : Nat → List Int
  | 0 => cs
  | k + 1 => lowJ R k (lowK R mm cs k) mm
/-- Round after round, until nothing changes. -/
def lowGo (R : List (List Int)) (mm n : Nat) : Nat → List Int → List Int
  | 0, cs => cs
  | f + 1, cs => if lowK R mm cs n = cs then cs else lowGo R mm n f (lowK R mm cs n)
def sumN (cs : List Int) : Nat := (cs.map Int.toNat).sum
def lowF (R : List (List Int)) (mm : Nat) (cs : List Int) : List Int := lowGo R mm cs.length (sumN cs + 1) cs
theorem sumN_set : ∀ {l : List Int} {k : Nat} {x : Int}, k < l.length → 0 ≤ x → x < atI l k → sumN (l.set k x) < sumN l
  | [], k, x, h, _, _ => absurd h (Nat.not_lt_zero _)
  | a :: l, 0, x, _, h0, hx => by
    have hx : x < a := hx
    simp only [List.set_cons_zero, sumN, List.map_cons, List.sum_cons]
    omega
  | a :: l, k + 1, x, h, h0, hx => by
    have := sumN_set (l := l) (k := k) (x := x) (by simpa using h) h0 hx
    simp only [sumN] at this
    simp only [List.set_cons_succ, sumN, List.map_cons, List.sum_cons]
    omega
theorem smallZ_set {l : List Int} {b : Int} (h : smallZ l b) {k : Nat} {x : Int} (hk : k < l.length) (hx : 0 ≤ x ∧ x ≤ b) : smallZ (l.set k x) b := fun j => by
  rw [atI_set hk]
  split
  · exact hx
  · exact h j
/-- What the costs are like while they are lowered, from those of the round's beginning on. -/
structure LowI (n : Nat) (b : Int) (cs cur : List Int) (ch : Bool) : Prop where
  len : cur.length = n
  small : smallZ cur b
  flag : (ch = true ∧ sumN cur < sumN cs) ∨ (ch = false ∧ cur = cs)
theorem LowI.start {n : Nat} {b : Int} {cs : List Int} (hl : cs.length = n) (hs : smallZ cs b) : LowI n b cs cs false := ⟨hl, hs, .inr ⟨rfl, rfl⟩⟩
theorem LowI.put {n : Nat} {b : Int} {cs cur : List Int} {ch : Bool} (h : LowI n b cs cur ch) {k : Nat} {x : Int} (hk : k < n) (hx : 0 ≤ x) (hlt : x < atI cur k) : LowI n b cs (cur.set k x) true := by
  have hk2 : k < cur.length := by rw [h.len]; exact hk
  have h1 := sumN_set hk2 hx hlt
  refine ⟨by rw [List.length_set]; exact h.len, smallZ_set h.small hk2 ⟨hx, by have := h.small k; omega⟩, .inl ⟨rfl, ?_⟩⟩
  rcases h.flag with ⟨_, h2⟩ | ⟨_, h2⟩
  · omega
  · rw [← h2]; exact h1
/-- What stands while costs are lowered: only block g changes. -/
structure LwS (w0 w : World) (g n : Nat) (cur : List Int) (wr : World) : Prop where
  ow : Ow wr w0.heap.size 3 (.slice (some ⟨g, 0, none⟩) n n) cur
  bl : Below w0.heap.size w0 wr
  sz : w.heap.size ≤ wr.heap.size
  oth : ∀ j, j < w.heap.size → j ≠ g → wr.heap[j]? = w.heap[j]?
theorem LwS.drew {w0 w : World} {g n : Nat} {cur : List Int} {wr : World} (h : LwS w0 w g n cur wr) : LwS w0 w g n cur wr.drew := ⟨h.ow.drewN 1, h.bl.drew, h.sz, h.oth⟩
theorem LwS.put {w0 w : World} {g n : Nat} {cur : List Int} {wr : World} (h : LwS w0 w g n cur wr) (hl : cur.length = n) (hg : w0.heap.size ≤ g) (k : Nat) (x : Int) : LwS w0 w g n (cur.set k x) (wr.setCell ⟨g, k, none⟩ (.int .i64 x)) :=
  ⟨h.ow.put hl k x, h.bl.setCell (p := ⟨g, k, none⟩) hg _, by simpa [World.setCell] using h.sz, fun j hj hne => (set_oth hne).trans (h.oth j hj hne)⟩
set_option maxRecDepth 100000 in
set_option maxHeartbeats 6400000 in
theorem lower_any (m : Nat) (L R : List (List Int)) (cs : List Int) (n g rb : Nat) (w0 w : World) (hL : LaidR m L R) (h : RowR w0 rb L R) (hb0 : Below w0.heap.size w0 w) (hg : w0.heap.size ≤ g) (hs : Ow w w0.heap.size 3 (.slice (some ⟨g, 0, none⟩) n n) cs) (hl : cs.length = n) (hn : n = L.length) (hz : smallZ cs 1000000) :
    Calls Try.prog 80 #[.pointer (some ⟨rb, 0, none⟩), .slice (some ⟨g, 0, none⟩) n n] w fun e w' => e = .returned (.tuple #[]) ∧ smallZ (lowF R (m - 1) cs) 1000000 ∧ LwS w0 w g n (lowF R (m - 1) cs) w' := by
  obtain ⟨A2, n2, c2, e2, h2⟩ := h.nx
  have hn2 : n2 = n := by have h3 := h2.len; have h4 := hL.len; omega
  subst hn2
  have hbig := h2.big
  have HE2 : Hid (∀ V, Below w0.heap.size w0 V → V.cell? ⟨rb, 2, none⟩ = some (.slice A2 n2 c2)) := fun V hV => (hV.cell (p := ⟨rb, 2, none⟩) h.lt).trans e2
  have HRO : Hid (∀ k, k < n2 → ∃ b off A' n' c', A2 = some ⟨b, off, none⟩ ∧ n' = m - 1 ∧ ∀ V, Below w0.heap.size w0 V → V.cell? ⟨b, off + k, none⟩ = some (.slice A' n' c') ∧ Sl V A' n' c' (ordAt R k)) := fun k hk => by
    obtain ⟨b, off, e, hlt, A', n', c', hc, hs'⟩ := h2.rows k hk
    refine ⟨b, off, A', n', c', e, ?_, fun V hV => ⟨(hV.cell (p := ⟨b, off + k, none⟩) (by show b < w0.heap.size; omega)).trans hc, hs'.below hV (Nat.le_refl _)⟩⟩
    have := (hL.row k (by omega)).1
    have := hs'.len
    omega
  have HLA := Lib.hid hL
  have HN := Lib.hid hn
  have hpos : 0 < n2 := by have := hL.pos; omega
  have HG := Lib.hid hg
  have HS0 : Hid (LwS w0 w g n2 cs w) := ⟨hs, hb0, Nat.le_refl _, fun _ _ _ => rfl⟩
  obtain ⟨fin, hfin⟩ : ∃ f, f = lowF R (m - 1) cs := ⟨_, rfl⟩
  rw [← hfin]
  have HFIN : Hid (fin = lowGo R (m - 1) n2 (sumN cs + 1) cs) := by rw [Hid, hfin]; unfold lowF; rw [hl]
  have HZ := Lib.hid hz
  have HLE := Lib.hid hl
  obtain ⟨mm, hmm⟩ : ∃ mm, mm = m - 1 := ⟨_, rfl⟩
  rw [← hmm] at HFIN
  have HMM : Hid (mm = m - 1 ∧ mm ≤ 5) := by have := hL.m6; rw [Hid]; omega
  clear hL hn hg hb0 hs hl hz hfin hmm h h2 e2
  go_enter Try.func80, Try.ntmps80
  go_wp2
  go_loopg [4] (sumN cs + 2) (fun kx s4 wr => ∃ (cur : List Int) (ch : Bool), s4 = .bool ch ∧ Hid (cur.length = n2 ∧ smallZ cur 1000000) ∧ Hid (LwS w0 w g n2 cur wr) ∧ (ch = true → sumN cur + 1 ≤ kx ∧ Hid (∃ f, sumN cur < f ∧ fin = lowGo R mm n2 f cur)) ∧ (ch = false → Hid (fin = cur)))
  case atStart => exact ⟨cs, true, rfl, ⟨HLE.out, HZ.out⟩, HS0.out, fun _ => ⟨by omega, _, by omega, HFIN.out⟩, fun h => by cases h⟩
  case round =>
    obtain ⟨cur, ch, rfl, HC, HS, hT, hF⟩ := hrel
    obtain ⟨wo, rfl⟩ : ∃ wo : World, wo = wr := ⟨_, rfl⟩
    clear HS0
    cases ch with
    | false =>
      have HE := hF rfl
      clear hT hF
      go_wp2
      go_end0
      rw [HE.out]
      exact ⟨rfl, HC.out.2, HS.out⟩
    | true =>
      obtain ⟨hkx, HE⟩ := hT rfl
      have HKX := Lib.hid hkx
      clear hT hF hkx
      have e2 := HE2.out wo HS.out.bl
      go_wp2
      clear e2
      go_loopw [4, 15] (fun s4 i w' => ∃ (k : Nat) (ch : Bool), k ≤ n2 ∧ i = .int .i64 (k : Int) ∧ s4 = .bool ch ∧ Hid (LowI n2 1000000 cur (lowK R mm cur k) ch) ∧ Hid (LwS w0 w g n2 (lowK R mm cur k) w')) (fun _ i _ => n2 - (intOf i).toNat)
      case atStart => exact ⟨0, false, Nat.zero_le _, by go_num, rfl, LowI.start HC.out.1 HC.out.2, HS.out⟩
      case round =>
        obtain ⟨k, ch, hk, rfl, rfl, HI, HS2⟩ := hrel
        obtain ⟨wk, rfl⟩ : ∃ wk : World, wk = wr := ⟨_, rfl⟩
        clear HS
        by_cases hlt : k < n2
        · have i1 : (k : Int) < (n2 : Int) := by omega
          obtain ⟨b4, o4, A3, n3, c3, rfl, hn3, hrow⟩ := HRO.out k hlt
          obtain ⟨e3, h3⟩ := hrow wk HS2.out.bl
          have HROW := Lib.hid (fun V hV => (hrow V hV).2)
          have hn3m : n3 = mm := by have := HMM.out; omega
          have hbig3 := h3.big
          subst hn3m
          have HQR : Hid (∀ p, p < n3 → ∃ q : Nat, atI (ordAt R k) p = (q : Int) ∧ q < n2) := fun p hp => by
            obtain ⟨q, e, hq⟩ := (HLA.out.row k (by have := HN.out; omega)).2 p (by omega)
            exact ⟨q, e, by have := HN.out; omega⟩
          clear hrow h3
          go_wp2
          clear e3 i1
          have HSK : Hid (lowK R n3 cur (k + 1) = lowJ R k (lowK R n3 cur k) n3) := rfl
          generalize lowK R n3 cur k = base at *
          go_loopw [4, 22] (fun s4 i w' => ∃ (t : Nat) (ch : Bool), t ≤ n3 ∧ i = .int .i64 (t : Int) ∧ s4 = .bool ch ∧ Hid (LowI n2 1000000 cur (lowJ R k base t) ch) ∧ Hid (LwS w0 w g n2 (lowJ R k base t) w')) (fun _ i _ => n3 - (intOf i).toNat)
          case atStart => exact ⟨0, ch, Nat.zero_le _, by go_num, rfl, HI.out, HS2.out⟩
          case round =>
            obtain ⟨t, c, ht, rfl, rfl, HI3, HS3⟩ := hrel
            obtain ⟨wi, rfl⟩ : ∃ wi : World, wi = wr := ⟨_, rfl⟩
            clear HS2 HI
            by_cases hlt3 : t < n3
            · have i1 : (t : Int) < (n3 : Int) := by omega
              obtain ⟨b3, o3, rfl, hc3⟩ := (HROW.out wi HS3.out.bl).at_ hlt3
              obtain ⟨q, hq, hqn⟩ := HQR.out t hlt3
              rw [show (ordAt R k)[t]?.getD 0 = atI (ordAt R k) t from rfl, hq] at hc3
              have HSJ : Hid (lowJ R k base (t + 1) = if atI (lowJ R k base t) q + 1 < atI (lowJ R k base t) k then (lowJ R k base t).set k (atI (lowJ R k base t) q + 1) else lowJ R k base t) := by
                show (if atI (lowJ R k base t) (atI (ordAt R k) t).toNat + 1 < _ then _ else _) = _
                rw [hq, Int.toNat_natCast]
              generalize lowJ R k base t = X at *
              have hxl := HI3.out.len
              have hsq := HI3.out.small q
              have hsk := HI3.out.small k
              have c1 := HS3.out.ow.cellAt hxl hqn
              have c2' := HS3.out.ow.cellAt hxl hlt
              have f2 := HS3.out.ow.free hxl k
              rw [show X[q]?.getD 0 = atI X q from rfl] at c1
              rw [show X[k]?.getD 0 = atI X k from rfl] at c2'
              have HHX : Hid (wi.drew.cell? ⟨g, q, none⟩ = some (.int .i64 (atI X q)) ∧ wi.drew.cell? ⟨g, k, none⟩ = some (.int .i64 (atI X k))) := ⟨c1, c2'⟩
              have i4 : (q : Int) < (n2 : Int) := by omega
              have i5 : (k : Int) < (n2 : Int) := by omega
              have v1 : IntKind.i64.wrap (atI X q + 1) = atI X q + 1 := IntWalk.i64_in _ (by omega)
              have HSD := Lib.hid HS3.out.drew
              have HPU := Lib.hid (HS3.out.drew.put hxl HG.out k (atI X q + 1))
              have HXL := Lib.hid hxl
              have g1 : wi.drew.cell? ⟨g, q, none⟩ = some (.int .i64 (atI X q)) := c1
              have g2 : wi.drew.cell? ⟨g, k, none⟩ = some (.int .i64 (atI X k)) := c2'
              have g3 : wi.drew.frozen? ⟨g, k, none⟩ = false := f2
              have HLP : Hid (atI X q + 1 < atI X k → LowI n2 1000000 cur (X.set k (atI X q + 1)) true) := fun h => HI3.out.put hlt (by omega) h
              clear hxl f2 hsq hsk hq
              generalize hz1 : atI X q = z1 at *
              generalize hz2 : atI X k = z2 at *
              clear hz1 hz2
              by_cases hlv : z1 + 1 < z2
              · rw [if_pos hlv] at HSJ
                have HLQ := Lib.hid (HLP.out hlv)
                go_upto_region 9 with (fail)
                go_region_held_law (fun V => V.cell? ⟨g, q, none⟩ = some (.int .i64 z1) ∧ V.cell? ⟨g, k, none⟩ = some (.int .i64 z2)) (first | assumption | exact HHX.out) (fail)
                all_goals
                  clear c1 c2'
                  go_wp2
                  exact ⟨⟨t + 1, true, by omega, by go_num, rfl, by rw [Hid, HSJ.out]; exact HLQ.out, by rw [Hid, HSJ.out]; exact HPU.out⟩, by simp [intOf]; omega⟩
              · rw [if_neg hlv] at HSJ
                go_upto_region 9 with (fail)
                go_region_held_law (fun V => V.cell? ⟨g, q, none⟩ = some (.int .i64 z1) ∧ V.cell? ⟨g, k, none⟩ = some (.int .i64 z2)) (first | assumption | exact HHX.out) (fail)
                all_goals
                  clear c1 c2'
                  go_wp2
                  exact ⟨⟨t + 1, c, by omega, by go_num, rfl, by rw [Hid, HSJ.out]; exact HI3.out, by rw [Hid, HSJ.out]; exact HSD.out⟩, by simp [intOf]; omega⟩
            · have htn : t = n3 := by omega
              subst htn
              have i1 : ¬ (t : Int) < (t : Int) := by omega
              go_wp2
              exact ⟨⟨k + 1, c, by omega, by go_num, rfl, by rw [Hid, HSK.out]; exact HI3.out, by rw [Hid, HSK.out]; exact HS3.out⟩, by simp [intOf]; omega⟩
        · have hkn : k = n2 := by omega
          subst hkn
          have i1 : ¬ (k : Int) < (k : Int) := by omega
          go_wp2
          obtain ⟨f, hf1, hf2⟩ := HE.out
          obtain ⟨f', rfl⟩ : ∃ f', f = f' + 1 := ⟨f - 1, by omega⟩
          have hf3 : fin = if lowK R mm cur k = cur then cur else lowGo R mm k f' (lowK R mm cur k) := hf2
          have hkx := HKX.out
          rcases HI.out.flag with ⟨rfl, h1⟩ | ⟨rfl, h1⟩
          · have hne : lowK R mm cur k ≠ cur := fun e => by rw [e] at h1; exact Nat.lt_irrefl _ h1
            rw [if_neg hne] at hf3
            go_roundg (sumN (lowK R mm cur k) + 1)
            case measure => omega
            case rel => exact ⟨lowK R mm cur k, true, rfl, ⟨HI.out.len, HI.out.small⟩, HS2.out, fun _ => ⟨Nat.le_refl _, f', by omega, hf3⟩, fun h => by cases h⟩
          · rw [if_pos h1] at hf3
            go_roundg 0
            case measure => omega
            case rel => exact ⟨lowK R mm cur k, false, rfl, ⟨HI.out.len, HI.out.small⟩, HS2.out, (fun h => absurd h (by decide)), (fun _ => (hf3.trans h1.symm : fin = _))⟩
end Go.Proofs.Ytcnjkdkkflpgnaa
/- Layer 8: a range over slices.Backward whose body makes memory that stays. -/
namespace Go.Proofs.Ytcnjkdkkflpgnaa
open Go.RowKit Go.Shelf
set_option linter.unusedVariables false

/-- The iterator's side, of an iterator that changes nothing: it yields what L lists. -/
def IterC (n : Nat) (P : Program) (gf : Nat) (lb : Array Value) (L : List (Array Value)) (Rd : Nat → Prop) (w : World) : Prop :=
  ∀ (l : Nat) (J : Nat → World → Prop) (W : World), W.heap.size = w.heap.size + 2 → (∀ k, k < w.heap.size → W.heap[k]? = w.heap[k]?) →
    (∀ j x W1, L[j]? = some x → J j W1 → YieldAt Fence.wide n P l x W1 fun e W' => e = .returned (.bool true) ∧ J (j + 1) W' ∧ KeepUp Rd W.heap.size W1 W') →
    J 0 W → Calls P gf (#[.func (.yield l) #[] #[]] ++ lb) W fun e W' => (∃ v, e = .returned v) ∧ J L.length W'
/-- The caller's side. -/
theorem range_lawC {n : Nat} {P : Program} {g : Operand} {ps : Array Tmp} {assign body : Code} {Q : Exit → Act → World → Prop} {a : Act} {w : World} {gf : Nat} {lb : Array Value}
    (hg : a.eval g = .func (.func gf) #[] lb) (eg : ∀ args w, (callFunc gf args).run P w = .ok (.enter gf args) w) {L : List (Array Value)} {Rd : Nat → Prop}
    (hit : IterC n P gf lb L Rd w) (hps : ∀ x ∈ L, x.size = ps.size) (hRd : ∀ k, Rd k → k < w.heap.size) (I : Nat → World → Prop) (hput : ∀ j l o W L, w.heap.size ≤ l → W.heap[l]? = some (.loop L) → I j W → I j (W.putObj l o)) (h0 : ∀ R, I 0 ((w.alloc (.deferred (some []))).alloc (.loop R)))
    (hround : ∀ (l : Nat) (j : Nat) (x : Array Value) (W : World), L[j]? = some x → w.heap.size ≤ l → (∃ L, W.heap[l]? = some (.loop L)) → I j W →
      assign.wpIn (Fence.wide.inRound l) n P (Exit.then (fun a₁ W₁ => Below W.heap.size W W₁ ∧ ∀ o, body.wpIn (Fence.wide.inRound l) n P (LeaveK Rd w.heap.size I (j + 1) (W₁.putObj l o)) a₁ (W₁.putObj l o)) (fun _ _ _ => False))
        { tmps := (ps.zip x).foldl (fun t (p, v) => t.setIfInBounds p v) a.tmps, defers := [] } W)
    (hdone : ∀ (D : Nat) (W : World), w.heap.size ≤ D → I L.length W → W.heap[D]? = some (.deferred (some [])) → Q .normal { a with defers := { target := .collected D, args := #[] } :: a.defers } W) :
    (Code.rangeFunc g ps assign body).wpIn Fence.wide (n + 1) P Q a w := by
  refine wpIn_rangeFunc fun fn hfn => ?_
  have hm : w.heap.size < w.heap.size + 1 := by omega
  let R : LoopState → Option Code → Loop := fun st pe => { state := st, pending := pe, fn, tmps := a.tmps, params := ps, assign, body, defers := w.heap.size }
  let W1 : World := (w.alloc (.deferred (some []))).alloc (.loop (R .ready none))
  have hz1 : W1.heap.size = w.heap.size + 2 := by simp [W1]
  have hold : ∀ k, k < w.heap.size → W1.heap[k]? = w.heap[k]? := fun k hk => by
    show ((w.heap.push _).push _)[k]? = _
    rw [Array.getElem?_push, if_neg (by simp; omega), Array.getElem?_push, if_neg (by omega)]
  have hD1 : W1.heap[w.heap.size]? = some (.deferred (some [])) := by
    show ((w.heap.push _).push _)[w.heap.size]? = _
    rw [Array.getElem?_push, if_neg (by simp), Array.getElem?_push, if_pos rfl]
  have hL1 : W1.heap[w.heap.size + 1]? = some (.loop (R .ready none)) := by
    show ((w.heap.push _).push _)[w.heap.size + 1]? = _
    rw [Array.getElem?_push, if_pos (by simp)]
  refine ⟨w.heap.size + 1, [{ target := .collected w.heap.size, args := #[] }], W1, { target := .fn (.func gf) lb, args := #[.func (.yield (w.heap.size + 1)) #[] #[]] }, W1, gf, #[.func (.yield (w.heap.size + 1)) #[] #[]] ++ lb, W1, run_enterLoop_outer _ _ _ _ _, ?_, fun _ _ => trivial, ?_, (fun h => (by cases h)), ?_⟩
  · simp only [resolve, hg]
    simp [go_sem]
  · simp [invoke, go_sem, eg]
  refine callsIn_wide.2 ((hit (w.heap.size + 1)
    (fun j W => I j W ∧ W.heap[w.heap.size + 1]? = some (.loop (R .ready none)) ∧ W.heap[w.heap.size]? = some (.deferred (some [])))
    W1 hz1 hold ?_ ⟨h0 _, hL1, hD1⟩).mono ?_)
  · -- a round
    rintro j x W hx ⟨hi, hl, hk⟩
    have hy := run_yield (P := P) (args := x) hl (hps x (List.mem_of_getElem? hx))
    refine ⟨fn, _, assign, body, hy, roundIn_of_wpIn trivial (wpIn_mono (hround (w.heap.size + 1) j x W hx (Nat.le_succ _) ⟨_, hl⟩ hi) ?_)⟩
    intro e a₁ W₁ he
    cases e with
    | normal =>
      obtain ⟨hb, hbody⟩ := he
      have hlt : w.heap.size + 1 < W.heap.size := (Array.getElem?_eq_some_iff.1 hl).1
      have hl1 : W₁.heap[w.heap.size + 1]? = some (.loop (R .ready none)) := (hb.block _ hlt).trans hl
      have hk1 : W₁.heap[w.heap.size]? = some (.deferred (some [])) := (hb.block _ (by omega)).trans hk
      have hlt1 : w.heap.size + 1 < W₁.heap.size := Nat.lt_of_lt_of_le hlt hb.size
      refine ⟨_, run_beginRound hl1 rfl, wpIn_mono (hbody _) ?_⟩
      intro e2 a₂ W₂ he2
      have hl2 : (W₁.putObj (w.heap.size + 1) (.loop { R .ready none with state := .busy })).heap[w.heap.size + 1]? = some (.loop { R .ready none with state := .busy }) := World.putObj_heap_same hlt1
      have hk2 : (W₁.putObj (w.heap.size + 1) (.loop { R .ready none with state := .busy })).heap[w.heap.size]? = some (.deferred (some [])) := (World.putObj_heap_other (by omega)).trans hk1
      cases e2 with
      | normal =>
        obtain ⟨hku, hi2⟩ := he2
        have hl3 := (hku.same (w.heap.size + 1) (by simpa using hlt1) (.inr (Nat.le_succ _))).trans hl2
        have hk3 := (hku.same w.heap.size (by simp; omega) (.inr (Nat.le_refl _))).trans hk2
        have hlt3 : w.heap.size + 1 < W₂.heap.size := (Array.getElem?_eq_some_iff.1 hl3).1
        refine ⟨_, _, run_endRound none hl3, rfl, ⟨hput _ _ _ _ _ (Nat.le_succ _) hl3 hi2, World.putObj_heap_same hlt3, (World.putObj_heap_other (by omega)).trans hk3⟩, ?_⟩
        refine ⟨hku.os.trans hb.os, hku.tape.trans hb.tape, hku.output.trans hb.output, ?_, fun k hk hor => ?_⟩
        · have h1 := hb.size
          have h2 := hku.size
          simp at h2 ⊢
          omega
        · have hne : k ≠ w.heap.size + 1 := fun e => by
            subst e
            rcases hor with h | h
            · have := hRd _ h; omega
            · omega
          have h2 := hb.size
          exact ((World.putObj_heap_other hne).trans (hku.same k (by simp; omega) (hor.imp id (fun h => by omega)))).trans ((World.putObj_heap_other hne).trans (hb.block k hk))
      | ret => exact he2.elim
      | exit id => exact he2.elim
      | goto t => exact he2.elim
      | panic ch => exact he2.elim
      | outgrown => exact he2.elim
    | ret => exact he.elim
    | exit id => exact he.elim
    | goto t => exact he.elim
    | panic ch => exact he.elim
    | outgrown => exact he.elim
  · -- behind the iterator
    rintro e W2 ⟨⟨v, rfl⟩, hi, hl, hk⟩
    exact ⟨none, _, run_endLoop hl (by simp [R]), hdone _ _ (Nat.le_refl _) (hput _ _ _ _ _ (Nat.le_succ _) hl hi) ((World.putObj_heap_other (by omega)).trans hk)⟩
set_option maxRecDepth 100000 in
set_option maxHeartbeats 1600000 in
theorem back_okC (r : Nat) (zs : List Int) (A : Option Addr) (n c bx : Nat) (w : World) (h : Sl w A n c zs) (hbx : w.heap[bx]? = some (.cells #[.slice A n c] 22 (0, 0))) :
    IterC r Try.prog 91 #[.pointer (some ⟨bx, 0, none⟩)] (backL zs) (backRd A n bx) w := by
  intro l J W hsz hold hY h0
  have hbig := h.big
  have HL : Hid (zs.length = n) := h.len
  have hbxl := (Array.getElem?_eq_some_iff.1 hbx).1
  obtain ⟨R, hR⟩ : ∃ R : Ending → World → Prop, R = fun e W' => (∃ v, e = .returned v) ∧ J (backL zs).length W' := ⟨_, rfl⟩
  rw [← hR]
  have HRR : Hid (∀ e W', (∃ v, e = .returned v) → J n W' → R e W') := fun e W' h1 h2 => by rw [hR]; refine ⟨h1, ?_⟩; rw [backL_len, HL.out]; exact h2
  clear hR
  have HBX : Hid (∀ V : World, V.heap[bx]? = W.heap[bx]? → V.cell? ⟨bx, 0, none⟩ = some (.slice A n c)) := fun V hV => cell_in ((hV.trans (hold bx hbxl)).trans hbx) rfl
  have HAT : Hid (∀ k, k < n → ∃ b off, A = some ⟨b, off, none⟩ ∧ ∀ V : World, V.heap[b]? = W.heap[b]? → V.cell? ⟨b, off + k, none⟩ = some (.int .i64 (atI zs k))) := fun k hk => by
    obtain ⟨b, off, hA, hc⟩ := h.at_ hk
    refine ⟨b, off, hA, fun V hV => ?_⟩
    have hb := cell_lt hc
    exact (World.cell?_of_block (a := ⟨b, off + k, none⟩) (hV.trans (hold b hb))).trans hc
  have HY : Hid (∀ j, j < n → ∀ W1, J j W1 → YieldAt Fence.wide r Try.prog l #[.int .i64 ((n - 1 - j : Nat) : Int), .int .i64 (atI zs (n - 1 - j))] W1 fun e W' => e = .returned (.bool true) ∧ J (j + 1) W' ∧ KeepUp (backRd A n bx) W.heap.size W1 W') := fun j hj W1 hJ1 => by
    have := backL_at zs (show j < zs.length by rw [HL.out]; exact hj)
    rw [HL.out] at this
    exact hY j _ W1 this hJ1
  have HRD : Hid (∀ k, backRd A n bx k → k < W.heap.size) := fun k hk => by have := backRd_lt h hbxl k hk; omega
  have H0 := Lib.hid h0
  clear h hbx hbxl hsz hold hY h0 w
  have b0 := HBX.out W rfl
  have v1 : IntKind.i64.wrap ((n : Int) - 1) = (n : Int) - 1 := IntWalk.i64_in _ (by omega)
  show Calls Try.prog 91 #[.func (.yield l) #[] #[], .pointer (some ⟨bx, 0, none⟩)] W _
  go_enter Try.func91, Try.ntmps91
  go_wp2
  go_loopw [3] (fun i wr => ∃ t : Nat, t ≤ n ∧ i = .int .i64 ((n : Int) - 1 - (t : Int)) ∧ Hid (J t wr) ∧ Hid (W.heap.size ≤ wr.heap.size ∧ ∀ k, backRd A n bx k → wr.heap[k]? = W.heap[k]?)) (fun i _ => (intOf i + 1).toNat)
  case atStart => exact ⟨0, Nat.zero_le _, by go_num, H0.out, Nat.le_refl _, fun _ _ => rfl⟩
  case round =>
    obtain ⟨t, ht, rfl, HJ, HU⟩ := hrel
    obtain ⟨wo, rfl⟩ : ∃ wo : World, wo = wr := ⟨_, rfl⟩
    clear H0 b0
    have b0 := HBX.out wo (HU.out.2 bx (.inl rfl))
    by_cases hlt : t < n
    · have i1 : (n : Int) - 1 - (t : Int) ≥ 0 := by omega
      have i2 : decide ((0 : Int) ≤ (n : Int) - 1 - (t : Int)) = true := by simp; omega
      obtain ⟨k, hk⟩ : ∃ k : Nat, (n : Int) - 1 - (t : Int) = (k : Int) := ⟨n - 1 - t, by omega⟩
      have hkn : k < n := by omega
      have hkt : n - 1 - t = k := by omega
      obtain ⟨b, off, rfl, hc⟩ := HAT.out k hkn
      have hc1 := hc wo (HU.out.2 b (.inr ⟨by omega, off, rfl⟩))
      obtain ⟨fn, tmps, assign, body, hy, hR5⟩ := HY.out t hlt wo HJ.out
      rw [hkt] at hy
      rw [hk]
      have i3 : (k : Int) ≥ 0 := by omega
      have i4 : (k : Int) < (n : Int) := by omega
      have i5 : (0 : Int) ≤ (k : Int) := by omega
      have v2 : IntKind.i64.wrap ((k : Int) - 1) = (k : Int) - 1 := IntWalk.i64_in _ (by omega)
      have HK1 : Hid ((k : Int) - 1 = (n : Int) - 1 - ((t + 1 : Nat) : Int)) := by rw [Hid]; omega
      clear hk i1 i2
      refine (wpIn_wide (n := r + 1)).1 ?_
      gi_wp2
      refine hR5.mono ?_
      rintro e W2 ⟨rfl, hJ2, hk2⟩
      have HJ2 := Lib.hid hJ2
      have HK2 := Lib.hid hk2
      clear hJ2 hk2 hy hR5 b0 hc1
      gi_wp2
      go_wp2
      refine ⟨⟨t + 1, by omega, by rw [HK1.out], HJ2.out, Nat.le_trans HU.out.1 HK2.out.size, fun k hk => (HK2.out.same k ?_ (.inl hk)).trans (HU.out.2 k hk)⟩, by rw [HK1.out]; simp [intOf]; omega⟩
      exact Nat.lt_of_lt_of_le (HRD.out k hk) HU.out.1
    · have htn : t = n := by omega
      subst htn
      have i1 : ¬ (t : Int) - 1 - (t : Int) ≥ 0 := by omega
      go_wp2
      go_end0
      exact HRR.out _ _ ⟨_, rfl⟩ HJ.out
end Go.Proofs.Ytcnjkdkkflpgnaa
