import Derived.Test.YthlccidbphkfaaaT26
import Derived.Test.YthlccidbphkfaaaT06
import Derived.Test.YthlccidbphkfaaaT22
import Derived.Deep.RegionHeldLaw
/- Layer 3: the program's Longest. -/
namespace Go.Proofs.Ythlccidbphkfaaa
open Go.RowKit
set_option linter.unusedVariables false

set_option maxRecDepth 100000 in
/-- 'm[k]' at ints, as a run. -/
theorem run_lookI (w : World) (t : TypeId) (ht : Try.prog.underlying t = some (.map 80 3)) (b n : Nat) (f : Nat × Nat → Option Lit)
    (hown : KM encPair w 3 b n f) {x : Nat × Nat} (hk : encPair.ok x) (r : Int) (hr : (f x).getD (.int .i64 0) = .int .i64 r) :
    (Instr.lookup t (.map (some b)) (encPair.kv x) false).run Try.prog w = .ok (.int .i64 r) w := by
  obtain ⟨D, hD, hR⟩ := hown
  obtain ⟨v, ps, hrun, hv⟩ := hD.lookup encPair.keyed ht (zeroI w) (plainElem_int Try.underlying3 (by decide)) (encPair.key x hk)
  obtain ⟨c, rfl, hc, _⟩ := plainElem_int_inv Try.underlying3 hv
  have hat := (hR.2 x hk).2 (.lit (.int .i64 0))
  have h1 : (DataW.lit (.int .i64 c) : DataW Unit) = ((f x).map DataW.lit).getD (.lit (.int .i64 0)) := by
    rw [← hat]; exact (congrArg Prod.fst hc).symm
  have h2 : ((f x).map (DataW.lit (H := Unit))).getD (.lit (.int .i64 0)) = .lit ((f x).getD (.int .i64 0)) := by cases f x <;> rfl
  rw [h2, hr] at h1
  injection h1 with h1
  injection h1 with _ h1
  subst h1
  exact hrun
theorem rows_below {w w' : World} {B e s n : Nat} {v : Value} {xs : List Value} (h : w.ownsRow B e s v n xs) (hb : Below w.heap.size w w') : w'.ownsRow B e s v n xs :=
  World.ownsRow.kept (row := none) h ⟨hb.os, hb.tape, hb.output, hb.size, fun k hk _ => hb.block k hk⟩ (by
    rcases hv : v.ownBlock with _ | k
    · exact .inl rfl
    · exact .inr (by simp))
/-- What Longest keeps between two letters: the place in both words, the letters so far. -/
structure LoS (us ws : List Int) (B i j b : Nat) (v : Value) (out : List UInt8) (w6 wr : World) : Prop where
  cell : wr.heap[b]? = some (.cells #[.int .i64 (i : Int), .int .i64 (j : Int)] 80 (0, 0))
  lo : B ≤ b
  own : Owb wr B 5 v out
  ap : v.ownBlock ≠ some b
  kp : Below B w6 wr
  go : ∀ z, IsG us ws i j z → IsG us ws 0 0 (bl out ++ z)
  le : out.length ≤ i
  hi : i ≤ us.length
  hj : j ≤ ws.length
theorem LoS.below {us ws : List Int} {B i j b : Nat} {v : Value} {out : List UInt8} {w6 wr w' : World} (h : LoS us ws B i j b v out w6 wr) (hB : w6.heap.size = B) (hb : Below wr.heap.size wr w') : LoS us ws B i j b v out w6 w' := by
  have hs : B ≤ wr.heap.size := by have := h.kp.size; omega
  have hlt := (Array.getElem?_eq_some_iff.1 h.cell).1
  exact ⟨(hb.block b hlt).trans h.cell, h.lo, rows_below h.own hb, h.ap, h.kp.trans (hb.mono hs), h.go, h.le, h.hi, h.hj⟩
theorem lcs_next {us ws : List Int} {i j d : Nat} (hi : i ≤ us.length) (h0 : lcs us ws i j ≠ 0) (hv : valL us ws i j d = lcs us ws i j) : ∃ x y : Nat, both us ws i j d = some (x, y) ∧ lcs us ws i j = 1 + lcs us ws x y ∧ x ≤ us.length ∧ y ≤ ws.length ∧ i < x := by
  cases hb : both us ws i j d with
  | none => unfold valL at hv; rw [hb] at hv; exact absurd hv.symm h0
  | some p =>
    obtain ⟨x, y⟩ := p
    obtain ⟨h1, h2⟩ := both_some hb
    have n1 := nx_some h1
    have n2 := nx_some h2
    exact ⟨x, y, rfl, by rw [← hv, valL_both hb], n1.2.2, n2.2.2, n1.2.1⟩
theorem val_some {us ws : List Int} {i j d : Nat} (hi : i ≤ us.length) (h0 : lcs us ws i j ≠ 0) (hf : ∀ e, e < d → valL us ws i j e ≠ lcs us ws i j) : d < 4 := by
  have he := lcs_eq us ws i j hi
  obtain ⟨c, c1, c2⟩ := valM_at (f := valL us ws i j) 4 (by omega)
  refine Classical.byContradiction fun h => hf c (by omega) (by omega)
theorem stepF_of_nx {w : List Int} {i c k : Nat} (h : nx w i c = some k) : stepF w i c = (k : Int) := by
  unfold stepF
  rw [(nx_some h).1, if_neg (by omega)]
theorem setRow_grown (w : World) (b : Nat) (cs : Array Value) : w.grownBy (w.setRow b cs) (some b) :=
  ⟨rfl, rfl, rfl, by simp [World.setRow], fun k hk hne => setRow_other _ _ _ _ (fun e => hne (by rw [e]))⟩
/-- One letter more. -/
theorem LoS.next {us ws : List Int} {i j b d x y : Nat} {v v9 : Value} {out : List UInt8} {w5 w w9 w10 : World} {z : UInt8} (h : LoS us ws w5.heap.size i j b v out w5 w) (hd : d < 4) (hb : both us ws i j d = some (x, y)) (he : lcs us ws i j = 1 + lcs us ws x y) (hf : ∀ e, e < d → valL us ws i j e ≠ lcs us ws i j)
    (hz : (z.toNat : Int) = 97 + (d : Int)) (hv9 : Owb w9 w5.heap.size 5 v9 (out ++ [z])) (hg : w.grownBy w9 v.ownBlock) (hat : v9.ownBlock = v.ownBlock ∨ ∃ g, v9.ownBlock = some g ∧ w.heap.size ≤ g) (hb10 : Below w9.heap.size w9 w10) :
    LoS us ws w5.heap.size x y w10.heap.size v9 (out ++ [z]) w5 ((w10.setRow b #[.int .i64 (x : Int), .int .i64 (y : Int)]).alloc (.cells #[.int .i64 (x : Int), .int .i64 (y : Int)] 80)) := by
  obtain ⟨h1, h2⟩ := both_some hb
  have n1 := nx_some h1
  have n2 := nx_some h2
  have hlt := (Array.getElem?_eq_some_iff.1 h.cell).1
  have hvb : v9.ownBlock ≠ some b := by
    rcases hat with e | ⟨g, e, hge⟩
    · rw [e]; exact h.ap
    · rw [e]; intro e2; injection e2 with e2; omega
  have k9 := grown_below h.kp hg fun q hq => (h.own.lt hq).1
  have k10 := k9.trans (hb10.mono k9.size)
  have gs := setRow_grown w10 b #[.int .i64 (x : Int), .int .i64 (y : Int)]
  have k11 := grown_below k10 gs fun q hq => by injection hq with hq; rw [← hq]; exact h.lo
  have o10 : Owb w10 w5.heap.size 5 v9 (out ++ [z]) := rows_below hv9 hb10
  have o11 : Owb (w10.setRow b #[.int .i64 (x : Int), .int .i64 (y : Int)]) w5.heap.size 5 v9 (out ++ [z]) := World.ownsRow.kept o10 gs (.inr hvb)
  have hsz : (w10.setRow b #[.int .i64 (x : Int), .int .i64 (y : Int)]).heap.size = w10.heap.size := by simp [World.setRow]
  rw [← hsz]
  refine ⟨heap_alloc_last _ _, k11.size, World.ownsRow.alloc o11 _, fun e => ?_, k11.alloc k11.size _, fun z' hz' => ?_, ?_, n1.2.2, n2.2.2⟩
  · have := (o11.lt e).2
    omega
  · have h5 := h.go _ (IsG.cons hd hb he hf hz')
    have h6 : bl (out ++ [z]) = bl out ++ [97 + (d : Int)] := by unfold bl; rw [List.map_append, List.map_singleton, hz]
    rw [h6, List.append_assoc]
    exact h5
  · have := h.le
    rw [List.length_append, List.length_singleton]
    omega
set_option maxRecDepth 100000 in
set_option maxHeartbeats 3200000 in
theorem longestP_any (u s : ByteArray) (w : World) (hu : wordB (bs u) = true) (hs : wordB (bs s) = true) :
    Calls Try.prog 19 #[.string u, .string s] w fun e w' => (∃ o : ByteArray, e = .returned (.tuple #[.string o, .int .i64 0]) ∧ IsG (bs u) (bs s) 0 0 (bs o)) ∧ Below w.heap.size w w' := by
  obtain ⟨i0, hi0, hz, hsz, hby⟩ := info_parts Try.infoByte
  have HIB := Lib.hid (And.intro hi0 (And.intro hz (And.intro hsz hby))); clear hi0 hz hsz hby
  have hu60 := word_size hu
  have hs60 := word_size hs
  have HU := Lib.hid (fun W => isWord_is u true W (by omega) hu)
  have HS := Lib.hid (fun W => isWord_is s true W (by omega) hs)
  have HSU := Lib.hid (fun W => stepsOf_any u W hu)
  have HSS := Lib.hid (fun W => stepsOf_any s W hs)
  have HONE := Lib.hid (rowV_one 496 (join2 (stepG (bs u)) (stepG (bs s))))
  have HINF : Hid ((Try.prog.info? 76).map (·.size) = some (rowV 496 (join2 (stepG (bs u)) (stepG (bs s)))).size) := by rw [Hid, rowV_size]; exact Try.sizeTwo
  have HLN := Lib.hid (fun bT t W hr => lengths_any bT t u.size s.size (bs u) (bs s) W (bs_len u) (bs_len s) hu60 hs60 hr)
  have HUL : Hid ((bs u).length = u.size) := bs_len u
  have HSL : Hid ((bs s).length = s.size) := bs_len s
  clear hu hs
  go_enter Try.func19, Try.ntmps19
  go_wp2_with (first | (go_at_call 48; (with_reducible refine (HU.out _).mono ?_); rintro e w1 ⟨rfl, hd1⟩) | (go_at_call 48; (with_reducible refine (HS.out _).mono ?_); rintro e w2 ⟨rfl, hd2⟩) | (go_at_call 49; (with_reducible refine (HSU.out _).mono ?_); rintro e w3 ⟨rfl, hb3⟩) | (go_at_call 49; (with_reducible refine (HSS.out _).mono ?_); rintro e w4 ⟨rfl, hb4⟩) | (refine wpList_build_two (by rfl) (.tmp 20) (.tmp 22) (by rfl) (stepG (bs u)) (stepG (bs s)) (by rfl) (by rfl) ?_) | (refine wpList_alloc_row (by rfl) 76 (by rfl) _ Try.zeroTwo ?_) | (refine wpList_store_new (by rfl) 76 (.tmp 6) (.tmp 23) (by rfl) w4 _ _ (by rfl) (by rfl) HINF.out (rowV_same _ _ _) HONE.out ?_))
  have hb4' : Below w.heap.size w (w4.alloc (.cells (rowV 496 (join2 (stepG (bs u)) (stepG (bs s)))) 76)) := two_below hd1 hd2 hb3 hb4 _
  have HB4 := Lib.hid hb4'
  refine (HLN.out w4.heap.size 76 _ (Rw.new w4 76 496 _)).mono ?_
  have HR4 := Lib.hid (Rw.new w4 76 496 (join2 (stepG (bs u)) (stepG (bs s))))
  clear hd1 hd2 hb3 hb4 hb4'
  generalize w4.alloc (.cells (rowV 496 (join2 (stepG (bs u)) (stepG (bs s)))) 76) = w4' at HB4 HR4 ⊢
  generalize w4.heap.size = bT at *
  rintro e w5 ⟨bm, q, rfl, hkm, hb5⟩
  have HKM := Lib.hid hkm
  have HR5 := Lib.hid (HR4.out.below hb5 HR4.out.lt)
  have HB5 := Lib.hid (HB4.out.trans (hb5.mono HB4.out.size))
  clear hkm hb5 HB4 HR4 HU HS HSU HSS HONE HINF HLN
  go_wp2
  have HS0 : Hid (LoS (bs u) (bs s) w5.heap.size 0 0 w5.heap.size (.slice none 0 0) [] w5 (w5.alloc (.cells #[.int .i64 0, .int .i64 0] 80))) :=
    ⟨heap_alloc_last _ _, Nat.le_refl _, Owb.nil _ _ _, (by simp [Value.ownBlock]), (Below.refl _ _).alloc (Nat.le_refl _) _, fun z hz => hz, Nat.le_refl _, Nat.zero_le _, Nat.zero_le _⟩
  generalize hW : w5.alloc (.cells #[.int .i64 0, .int .i64 0] 80) = w6 at HS0 ⊢
  clear hW
  go_loopg [8, 9] 61 (fun gk v p wr => ∃ i j b out, gk = 61 - i ∧ p = .pointer (some ⟨b, 0, none⟩) ∧ Hid (LoS (bs u) (bs s) w5.heap.size i j b v out w5 wr))
  case atStart => exact ⟨0, 0, _, [], by omega, rfl, HS0⟩
  case round =>
    obtain ⟨i, j, b, out, hgk, rfl, HI⟩ := hrel
    have HGK := Lib.hid hgk
    clear hgk HS0
    obtain ⟨wo, rfl⟩ : ∃ wo : World, wo = wr := ⟨_, rfl⟩
    have hi := HI.out.hi
    have hj := HI.out.hj
    rw [HUL.out] at hi
    rw [HSL.out] at hj
    obtain ⟨LL, hLL⟩ : ∃ LL, LL = lcs (bs u) (bs s) i j := ⟨_, rfl⟩
    have hLb : LL ≤ 60 := by have := lcs_bound HI.out.hi HI.out.hj; rw [HUL.out] at this; omega
    have HLK : Hid (∀ V, Below w5.heap.size w5 V → (Instr.lookup 77 (.map (some bm)) (encPair.kv (i, j)) false).run Try.prog V = .ok (.int .i64 ((LL : Int) + 1)) V) := fun V hV => by
      refine run_lookI V _ Try.underlying77 bm q _ (HKM.out.below hV HKM.out.lt) ⟨by show i ≤ 1000; omega, by show j ≤ 1000; omega⟩ _ ?_
      unfold tab
      rw [if_pos ⟨HI.out.hi, HI.out.hj, .inl (Nat.zero_le _)⟩, hLL]; rfl
    simp only [encPair] at HLK
    have c0 : wo.cell? ⟨b, 0, none⟩ = some (.int .i64 (i : Int)) := by rw [cell_of_row _ _ _ _ _ _ HI.out.cell]; rfl
    have c1 : wo.cell? ⟨b, 1, none⟩ = some (.int .i64 (j : Int)) := by rw [cell_of_row _ _ _ _ _ _ HI.out.cell]; rfl
    have hlk0 := HLK.out wo HI.out.kp
    by_cases hz : LL = 0
    · have HG := Lib.hid (HI.out.go [] (.nil (by rw [← hLL]; exact hz)))
      have hcv := conv_owb HI.out.own
      subst hz
      clear hLL
      go_wp2
      go_ret2
      exact ⟨⟨_, rfl, by show IsG _ _ 0 0 (bl out); have := HG.out; rwa [List.append_nil] at this⟩, HB5.out.trans (HI.out.kp.mono HB5.out.size)⟩
    · have hLp : 0 < LL := by omega
      have HH := Lib.hid hLL
      clear hLL
      have g0 : decide ((1 : Int) < (LL : Int) + 1) = true := decide_eq_true (by omega)
      go_wp2
      clear hlk0 c0 c1 g0
      have HHI := Lib.hid HI.out.hi
      have HHJ := Lib.hid HI.out.hj
      have HLO := Lib.hid (fun d => tab_look (by rw [HUL.out]; exact hu60) (by rw [HSL.out]; exact hs60) i j d 0 (s.size + 1) (Nat.zero_le _) (us := bs u) (ws := bs s))
      have hbl := (Array.getElem?_eq_some_iff.1 HI.out.cell).1
      have hw5 := HI.out.kp.size
      go_loopw [10] (fun c w' => ∃ d : Nat, d < 4 ∧ c = .int .i64 (d : Int) ∧ Hid (∀ e, e < d → valL (bs u) (bs s) i j e ≠ lcs (bs u) (bs s) i j) ∧ Below wo.heap.size wo w') (fun c _ => 4 - (intOf c).toNat)
      case atStart => exact ⟨0, by omega, by go_num, fun e he => absurd he (by omega), Below.refl _ _⟩
      case round =>
        obtain ⟨d, hd, rfl, HF, hW⟩ := hrel
        obtain ⟨wi, rfl⟩ : ∃ wi : World, wi = wr := ⟨_, rfl⟩
        obtain ⟨x, y, hx1, hy1, hx2, hy2, hlk⟩ := HLO.out d
        have HAF : Hid (∀ V, Rw V bT 76 496 (join2 (stepG (bs u)) (stepG (bs s))) → Calls Try.prog 52 #[.pointer (some ⟨bT, 0, none⟩), .agg #[.int .i64 (i : Int), .int .i64 (j : Int)], .int .i64 (d : Int)] V fun e w' =>
            e = .returned (.agg #[.int .i64 (x : Int), .int .i64 (y : Int)]) ∧ Below V.heap.size V w') := fun V hV => by
          have := after_any bT _ i j d _ V hV (by omega) (by omega) (by omega)
          rw [join2, if_pos (by omega), stepG_at _ (by omega), hx1, join2, if_neg (by omega), show 248 + j * 4 + d - 248 = j * 4 + d from by omega, stepG_at _ (by omega), hy1] at this
          exact this
        obtain ⟨va, hva⟩ : ∃ va, va = valL (bs u) (bs s) i j d := ⟨_, rfl⟩
        rw [← hva] at hlk
        have HVA := Lib.hid hva
        have HSV : Hid (∀ V, Below wo.heap.size wo V → V.cell? ⟨b, 0, none⟩ = some (.int .i64 (i : Int)) ∧ V.cell? ⟨b, 1, none⟩ = some (.int .i64 (j : Int)) ∧ (Instr.lookup 77 (.map (some bm)) (.agg #[.int .i64 (i : Int), .int .i64 (j : Int)]) false).run Try.prog V = .ok (.int .i64 ((LL : Int) + 1)) V ∧ (Instr.lookup 77 (.map (some bm)) (.agg #[.int .i64 (x : Int), .int .i64 (y : Int)]) false).run Try.prog V = .ok (.int .i64 (va : Int)) V) := fun V hV => by
          have hc := (hV.block b hbl).trans HI.out.cell
          have h5 : Below w5.heap.size w5 V := HI.out.kp.trans (hV.mono hw5)
          refine ⟨by rw [cell_of_row _ _ _ _ _ _ hc]; rfl, by rw [cell_of_row _ _ _ _ _ _ hc]; rfl, HLK.out V h5, ?_⟩
          exact run_lookI V _ Try.underlying77 bm q _ (HKM.out.below h5 HKM.out.lt) (x := (x, y)) ⟨by show x ≤ 1000; omega, by show y ≤ 1000; omega⟩ _ hlk
        have HR : Hid (∀ V, Below wo.heap.size wo V → Rw V bT 76 496 (join2 (stepG (bs u)) (stepG (bs s)))) := fun V hV => HR5.out.below (HI.out.kp.trans (hV.mono hw5)) HR5.out.lt
        have HX1 := Lib.hid hx1
        have HY1 := Lib.hid hy1
        have HWI : Hid (Below wo.heap.size wo wi) := hW
        clear hlk hx1 hy1 hva
        go_upto_region 9 with (fail)
        have hw1 : IntKind.i64.wrap (LL : Int) = (LL : Int) := IntWalk.i64_in _ (by omega)
        go_region_held_law (fun V => V.cell? ⟨b, 0, none⟩ = some (.int .i64 (i : Int)) ∧ V.cell? ⟨b, 1, none⟩ = some (.int .i64 (j : Int)) ∧ (Instr.lookup 77 (.map (some bm)) (.agg #[.int .i64 (i : Int), .int .i64 (j : Int)]) false).run Try.prog V = .ok (.int .i64 ((LL : Int) + 1)) V ∧ (Instr.lookup 77 (.map (some bm)) (.agg #[.int .i64 (x : Int), .int .i64 (y : Int)]) false).run Try.prog V = .ok (.int .i64 (va : Int)) V)
          (first | assumption | exact HSV.out _ hW | exact HSV.out _ hW.drew | exact HSV.out _ HW7.out)
          (first | (go_at_call 52; refine (HAF.out _ (by first | exact HR.out _ hW | exact HR.out _ hW.drew)).mono ?_; rintro e w7 ⟨rfl, hb7⟩; have HW7 : Hid (Below wo.heap.size wo w7) := (by first | exact hW.trans (hb7.mono hW.size) | exact hW.drew.trans (hb7.mono hW.size)); clear hb7))
        all_goals
          by_cases hve : va = LL
          · subst hve
            have hv2 := HVA.out
            have hv3 := HVA.out
            rw [HH.out] at hv2
            obtain ⟨x', y', hbt, hle, hxl, hyl, hix⟩ := lcs_next HHI.out (by rw [← HH.out]; omega) hv2.symm
            obtain rfl : x' = x := by have h1 := stepF_of_nx (both_some hbt).1; have h2 := HX1.out; omega
            obtain rfl : y' = y := by have h1 := stepF_of_nx (both_some hbt).2; have h2 := HY1.out; omega
            rw [HUL.out] at hxl
            clear hv2 hv3 hyl
            have HBT := Lib.hid hbt
            have HLE := Lib.hid hle
            clear hbt hle
            have HI7 := Lib.hid (HI.out.below rfl HW7.out)
            obtain ⟨z, hz⟩ : ∃ z : UInt8, z = UInt8.ofNat (97 + d) := ⟨_, rfl⟩
            have hzn : (z.toNat : Int) = 97 + (d : Int) := by rw [hz, UInt8.toNat_ofNat']; omega
            have HBY : Hid (∀ W, Calls Try.prog 53 #[.int .i64 (d : Int)] W fun e w' => e = .returned (.int .u8 (z.toNat : Int)) ∧ W = w') := fun W => by rw [hzn]; exact byteOf_any d W (by omega)
            have HZN := Lib.hid hzn
            have HLL : Hid (out.length ≤ 1099511627776) := by have := HI.out.le; rw [Hid]; omega
            have hws := HI7.out.kp.size
            have hlt7 := (Array.getElem?_eq_some_iff.1 HI7.out.cell).1
            have HR7 := Lib.hid (HR.out _ HW7.out)
            have HINF2 : Hid ((Try.prog.info? 80).map (·.size) = some (#[Value.int .i64 (x' : Int), Value.int .i64 (y' : Int)] : Array Value).size) := Try.infoPair
            clear hz hzn HAF
            have HAF : Hid (∀ V, Rw V bT 76 496 (join2 (stepG (bs u)) (stepG (bs s))) → Calls Try.prog 52 #[.pointer (some ⟨bT, 0, none⟩), .agg #[.int .i64 (i : Int), .int .i64 (j : Int)], .int .i64 (d : Int)] V fun e w' =>
                e = .returned (.agg #[.int .i64 (x' : Int), .int .i64 (y' : Int)]) ∧ Below V.heap.size V w') := fun V hV => by
              have := after_any bT _ i j d _ V hV (by omega) (by omega) (by omega)
              rw [join2, if_pos (by omega), stepG_at _ (by omega), HX1.out, join2, if_neg (by omega), show 248 + j * 4 + d - 248 = j * 4 + d from by omega, stepG_at _ (by omega), HY1.out] at this
              exact this
            go_wp2_with (first
              | (go_at_call 53; refine (HBY.out _).mono ?_; rintro e w8 ⟨rfl, rfl⟩)
              | (at_builtin; go_must (refine pushb_law _ rfl (.tmp 46) (.tmp 49) 64 rfl w5.heap.size 5 i0 Try.underlying64 HIB.out _ out z rfl rfl HI7.out.own HLL.out hws ?_); intro v9 w9 hv9 hg9 hat9; have HV9 := Lib.hid hv9; have HG9 := Lib.hid hg9; have HAT9 := Lib.hid hat9; have H9 := Lib.hid ((hg9.block b hlt7 (fun e => HI7.out.ap e.symm)).trans HI7.out.cell); have HR9 := Lib.hid (HR7.out.of_block (hg9.block bT HR7.out.lt (fun e => by have := (HI7.out.own.lt e.symm).1; have := HR5.out.lt; omega))); have n0 : w9.cell? ⟨b, 0, none⟩ = some (.int .i64 (i : Int)) := (by rw [cell_of_row _ _ _ _ _ _ H9.out]; rfl); have n1 : w9.cell? ⟨b, 1, none⟩ = some (.int .i64 (j : Int)) := (by rw [cell_of_row _ _ _ _ _ _ H9.out]; rfl); clear hv9 hg9 hat9)
              | (go_at_call 52; refine (HAF.out _ HR9.out).mono ?_; rintro e w10 ⟨rfl, hb10⟩; have H10 := Lib.hid ((hb10.block b (Array.getElem?_eq_some_iff.1 H9.out).1).trans H9.out); have HB10 := Lib.hid hb10; clear hb10 n0 n1)
              | (refine wpList_store_row (by rfl) 80 (.tmp 9) (.tmp 53) (by rfl) b _ (by rfl) (by rfl) 80 _ H10.out HINF2.out (by rfl) (by simp [Value.oneCell']) ?_; have s0 := cell_setRow_same w10 b 0 _ #[Value.int .i64 (x' : Int), Value.int .i64 (y' : Int)] 80 (0, 0) H10.out; have s1 := cell_setRow_same w10 b 1 _ #[Value.int .i64 (x' : Int), Value.int .i64 (y' : Int)] 80 (0, 0) H10.out))
            have HNX := Lib.hid (HI7.out.next hd HBT.out HLE.out HF.out HZN.out HV9.out HG9.out HAT9.out HB10.out)
            go_roundg (61 - x')
            case measure => rw [HGK.out]; omega
            case rel => exact ⟨x', y', _, out ++ [z], rfl, rfl, HNX⟩
          · have HF2 : Hid (∀ e, e < d + 1 → valL (bs u) (bs s) i j e ≠ lcs (bs u) (bs s) i j) := fun e he => by
              by_cases ee : e = d
              · subst ee; rw [← HVA.out, ← HH.out]; exact hve
              · exact HF.out e (by omega)
            have hd4 := val_some HHI.out (by rw [← HH.out]; omega) HF2.out
            have g1 : ((va : Int) != (LL : Int)) = true := by simpa using fun h => hve (by omega)
            go_wp2
            exact ⟨⟨d + 1, hd4, by go_num, HF2, HW7.out⟩, by simp [intOf] <;> omega⟩
end Go.Proofs.Ythlccidbphkfaaa
