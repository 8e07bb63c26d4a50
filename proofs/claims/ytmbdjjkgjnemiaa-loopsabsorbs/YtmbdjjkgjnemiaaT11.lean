import Derived.Test.YtmbdjjkgjnemiaaT10
import Derived.Deep.Cut
/- Layer 6: the law's package: tame. -/
namespace Go.Proofs.Ytmbdjjkgjnemiaa
open Go.RowKit
set_option linter.unusedVariables false

/-- One of n nodes. -/
def NodeOk (n : Nat) (x : Nd) : Prop := x.k < 6 ∧ (x.k < 4 → x.a = 0 ∧ x.b = 0) ∧ x.a < n ∧ x.b < n
theorem okN_of {N : List Nd} {n : Nat} (hn : N.length = n) (hp : 1 ≤ n) (h : ∀ x ∈ N, NodeOk n x) : OkN N := by
  have key : ∀ i, i < N.length → NodeOk n (nd N i) := fun i hi => h _ (by unfold nd; rw [List.getElem?_eq_getElem hi]; exact List.getElem_mem hi)
  exact ⟨by omega, fun i hi => (key i hi).1, fun i hi => (key i hi).2.1, fun i hi => by rw [hn]; exact (key i hi).2.2.1, fun i hi => by rw [hn]; exact (key i hi).2.2.2⟩
/-- What tame has made so far. -/
structure TmS (w : World) (n i : Nat) (v : Value) (wr : World) : Prop where
  nd : ∃ N : List Nd, N.length = i ∧ (∀ x ∈ N, NodeOk n x) ∧ Ow3 wr w.heap.size v N
  bl : Below w.heap.size w wr
theorem TmS.push {w : World} {n i : Nat} {v v' : Value} {wr w1 w2 : World} (h : Below w.heap.size w wr) {N : List Nd} (hN : N.length = i) (hall : ∀ x ∈ N, NodeOk n x) (ho : Ow3 wr w.heap.size v N) {x : Nd} (hx : NodeOk n x) (hb : Below wr.heap.size wr w1)
    (ho2 : Ow3 w2 w.heap.size v' (N ++ [x])) (hg : World.grownBy w1 w2 v.ownBlock) : TmS w n (i + 1) v' w2 := by
  refine ⟨⟨N ++ [x], by simp [hN], fun y hy => ?_, ho2⟩, ?_⟩
  · rcases List.mem_append.1 hy with hy | hy
    · exact hall y hy
    · rw [List.mem_singleton.1 hy]; exact hx
  · have h1 := h.trans (hb.mono h.size)
    exact h1.trans ⟨hg.os, hg.tape, hg.output, hg.size, fun k hk => hg.block k (by have := h1.size; omega) (fun e => by have := (ho.lt e.symm).1; omega)⟩
set_option maxRecDepth 100000 in
set_option maxHeartbeats 6400000 in
theorem tame_any (zs : List Ty) (A : Option Addr) (len cap most : Nat) (w : World) (hT : Tl w A len cap zs) (hm1 : 1 ≤ most) (hm2 : most ≤ 100) :
    Calls Try.prog 36 #[.slice A len cap, .int .i64 (most : Int)] w fun e w' => (∃ B n c N, e = .returned (.slice B n c) ∧ 1 ≤ n ∧ n ≤ most ∧ OkN N ∧ Nl w' B n c N ∧ Ow3 w' w.heap.size (.slice B n c) N) ∧ Below w.heap.size w w' := by
  have hbig := hT.big
  have HT := Lib.hid hT
  obtain ⟨i0, hi, hz0, hz1, hz2⟩ := info_parts Try.infoTy
  have HI : Hid (Try.prog.info? 59 = some i0 ∧ i0.zero = some (.agg #[.int .i64 0, .int .i64 0, .int .i64 0]) ∧ i0.size = 3 ∧ i0.bytes = 24) := ⟨hi, hz0, hz1, hz2⟩
  have HM : Hid (∀ (x : Int) (n : Nat) W, 1 ≤ n → n ≤ 100 → Calls Try.prog 37 #[.int .i64 x, .int .i64 (n : Int)] W fun e w' => (∃ r : Nat, e = .returned (.int .i64 (r : Int)) ∧ r < n) ∧ W = w') := fun x n W h1 h2 => by
    refine (mod_any x (n : Int) W (by omega) (by omega)).mono ?_
    rintro e w' ⟨⟨r, rfl, hr⟩, hw⟩
    exact ⟨⟨r, rfl, by omega⟩, hw⟩
  have HM0 := Lib.hid (fun x W => HM.out x most W hm1 hm2)
  clear hT hi hz0 hz1 hz2
  go_enter Try.func36, Try.ntmps36
  go_wp2_with (go_at_call 37; refine (HM0.out _ _).mono ?_; rintro e w1 ⟨⟨r, rfl, hr⟩, rfl⟩)
  rw [show (1 + (r : Int)) = ((r + 1 : Nat) : Int) from by omega]
  obtain ⟨n, hn⟩ : ∃ n, n = r + 1 := ⟨_, rfl⟩
  have hn1 : 1 ≤ n := by omega
  have hn2 : n ≤ most := by omega
  rw [← hn]
  clear hn hr
  go_loopw [6, 7] (fun v i w' => ∃ k : Nat, k ≤ n ∧ i = .int .i64 (k : Int) ∧ Hid (TmS w n k v w')) (fun _ i _ => n - (intOf i).toNat)
  case atStart => exact ⟨0, by omega, by go_num, ⟨⟨[], rfl, fun x hx => (by cases hx), Ow3.nil _ _⟩, Below.refl _ _⟩⟩
  case round =>
    obtain ⟨k, hk, rfl, HS⟩ := hrel
    obtain ⟨wo, rfl⟩ : ∃ wo : World, wo = wr := ⟨_, rfl⟩
    obtain ⟨⟨N, hN, hall, ho⟩, hbl⟩ := HS.out
    have HMK : Hid (∀ (x : Int) W, Calls Try.prog 37 #[.int .i64 x, .int .i64 6] W fun e w' => (∃ r : Nat, e = .returned (.int .i64 (r : Int)) ∧ r < 6) ∧ W = w') := fun x W => HM.out x 6 W (by omega) (by omega)
    have HMN := Lib.hid (fun x W => HM.out x n W hn1 (by omega))
    by_cases hlt : k < n
    · have i1 : (k : Int) < (n : Int) := by omega
      have HLN : Hid (N.length ≤ 1099511627776) := by rw [Hid]; omega
      have hsz := hbl.size
      have HPUSH : Hid (∀ {x : Nd} {v' : Value} {w1 w2 : World}, NodeOk n x → Below wo.heap.size wo w1 → Ow3 w2 w.heap.size v' (N ++ [x]) → World.grownBy w1 w2 u6.ownBlock → TmS w n (k + 1) v' w2) := fun hx hb ho2 hg => TmS.push hbl hN hall ho hx hb ho2 hg
      have HOW := Lib.hid ho
      have hA1 : ∀ o, Below wo.heap.size wo (wo.alloc o) := fun o => (Below.refl _ _).alloc (Nat.le_refl _) _
      have hA2 : ∀ o o', Below wo.heap.size wo ((wo.alloc o).alloc o') := fun o o' => (hA1 o).alloc (by simp) _
      have HA2 := Lib.hid hA2
      by_cases hlen : k < len
      · have i2 : (k : Int) < (len : Int) := by omega
        obtain ⟨b, off, rfl, hb, c0, c1, c2⟩ := (HT.out.below (hbl.trans ((hA1 (.cells #[.int .i64 0, .int .i64 0, .int .i64 0] 59)).mono hsz)) (Nat.le_refl _)).rows k hlen
        have hbo : b < wo.heap.size := by
          obtain ⟨b', off', e, hb', _⟩ := (HT.out.below hbl (Nat.le_refl _)).rows k hlen
          injection e with e
          injection e with e1 _
          omega
        generalize tyAt zs k = z at c0 c1 c2
        obtain ⟨zk, za, zb⟩ := z
        dsimp only at c0 c1 c2
        have HCF : Hid (∀ o, (wo.alloc o).cell? ⟨b, off + k * 3 + 1, none⟩ = some (.int .i64 za) ∧ (wo.alloc o).cell? ⟨b, off + k * 3 + 2, none⟩ = some (.int .i64 zb)) := fun o => by
          have hb' : b < wo.heap.size := hbo
          have x1 := ((hA1 (.cells #[.int .i64 0, .int .i64 0, .int .i64 0] 59)).cell (p := ⟨b, off + k * 3 + 1, none⟩) hb').symm.trans c1
          have x2 := ((hA1 (.cells #[.int .i64 0, .int .i64 0, .int .i64 0] 59)).cell (p := ⟨b, off + k * 3 + 2, none⟩) hb').symm.trans c2
          exact ⟨((hA1 o).cell (p := ⟨b, off + k * 3 + 1, none⟩) hb').trans x1, ((hA1 o).cell (p := ⟨b, off + k * 3 + 2, none⟩) hb').trans x2⟩
        clear hA1 hA2 hbl ho hall hN HS c1 c2
        go_upto_region 9 with (go_at_call 37; (with_reducible refine (HMK.out _ _).mono ?_); rintro e w1 ⟨⟨r1, rfl, hr1⟩, rfl⟩)
        by_cases h4 : 4 ≤ r1
        · have h5 : (4 : Int) ≤ (r1 : Int) := by omega
          have c1' := HCF.out (.cells #[.int .i64 (r1 : Int), .int .i64 0, .int .i64 0] 59)
          obtain ⟨c11, c12⟩ := c1'
          go_upto_region 11 with (go_at_call 37; (with_reducible refine (HMN.out _ _).mono ?_); rintro e w1 ⟨⟨r2, rfl, hr2⟩, rfl⟩)
          have c2' := HCF.out (.cells #[.int .i64 (r1 : Int), .int .i64 (r2 : Int), .int .i64 0] 59)
          obtain ⟨c21, c22⟩ := c2'
          go_wp2_with (first
            | (go_at_call 37; (with_reducible refine (HMN.out _ _).mono ?_); rintro e w1 ⟨⟨r3, rfl, hr3⟩, rfl⟩)
            | (at_builtin; go_must (refine push3_at _ rfl (.tmp 51) (.tmp 53) 22 rfl w.heap.size i0 Try.underlying22 HI.out _ N r1 r2 r3 _ rfl rfl (by simp) (HOW.out.alloc _) HLN.out (by simp; omega) ?_); intro v2 w2 hv2 hg2 hat2; have HV2 := Lib.hid hv2; have HG2 := Lib.hid hg2; clear hv2 hg2 hat2))
          exact ⟨⟨k + 1, by omega, by go_num, HPUSH.out (x := ⟨r1, r2, r3⟩) ⟨hr1, fun h => absurd h (by show ¬ r1 < 4; omega), hr2, hr3⟩ ((Below.refl _ _).alloc (Nat.le_refl _) _) HV2.out HG2.out⟩, by simp [intOf] <;> omega⟩
        · have h5 : ¬ (4 : Int) ≤ (r1 : Int) := by omega
          go_wp2_with (at_builtin; go_must (refine push3_at _ rfl (.tmp 51) (.tmp 53) 22 rfl w.heap.size i0 Try.underlying22 HI.out _ N r1 0 0 _ rfl rfl (by simp) (HOW.out.alloc _) HLN.out (by simp; omega) ?_); intro v2 w2 hv2 hg2 hat2; have HV2 := Lib.hid hv2; have HG2 := Lib.hid hg2; clear hv2 hg2 hat2)
          exact ⟨⟨k + 1, by omega, by go_num, HPUSH.out (x := ⟨r1, 0, 0⟩) ⟨hr1, fun _ => ⟨rfl, rfl⟩, hn1, hn1⟩ ((Below.refl _ _).alloc (Nat.le_refl _) _) HV2.out HG2.out⟩, by simp [intOf] <;> omega⟩
      · have i2 : ¬ (k : Int) < (len : Int) := by omega
        clear hA1 hA2 hbl ho hall hN HS
        go_wp2_with (at_builtin; go_must (refine push3_at _ rfl (.tmp 51) (.tmp 53) 22 rfl w.heap.size i0 Try.underlying22 HI.out _ N 0 0 0 _ rfl rfl (by simp) (HOW.out.alloc _) HLN.out (by simp; omega) ?_); intro v2 w2 hv2 hg2 hat2; have HV2 := Lib.hid hv2; have HG2 := Lib.hid hg2; clear hv2 hg2 hat2)
        exact ⟨⟨k + 1, by omega, by go_num, HPUSH.out (x := ⟨0, 0, 0⟩) ⟨by show 0 < 6; omega, fun _ => ⟨rfl, rfl⟩, hn1, hn1⟩ ((Below.refl _ _).alloc (Nat.le_refl _) _) HV2.out HG2.out⟩, by simp [intOf] <;> omega⟩
    · have hkn : k = n := by omega
      subst hkn
      have i1 : ¬ (k : Int) < (k : Int) := by omega
      obtain ⟨B, c, rfl, hnl⟩ := ho.nl hN hn1 (by omega)
      have hokn := okN_of hN hn1 hall
      clear HS
      go_wp2
      go_ret
      exact ⟨⟨B, k, c, rfl, hn1, hn2, N, hokn, hnl, ho⟩, hbl⟩
end Go.Proofs.Ytmbdjjkgjnemiaa
/- Layer 6: nodes of naturals as nodes of integers; Equal; mod as a value. -/
namespace Go.Proofs.Ytmbdjjkgjnemiaa
open Go.RowKit
set_option linter.unusedVariables false

def upTy (x : Nd) : Ty := ⟨(x.k : Int), (x.a : Int), (x.b : Int)⟩
def upN (N : List Nd) : List Ty := N.map upTy
theorem upN_len (N : List Nd) : (upN N).length = N.length := by simp [upN]
theorem upN_at {N : List Nd} {i : Nat} (h : i < N.length) : tyAt (upN N) i = upTy (nd N i) := by
  unfold tyAt upN nd
  rw [List.getElem?_map, List.getElem?_eq_getElem h]; rfl
theorem toN_up (N : List Nd) : toN (upN N) = N := by
  unfold toN upN
  rw [List.map_map]
  have : (toNd ∘ upTy) = id := by funext x; cases x; rfl
  rw [this, List.map_id]
theorem valB_up {N : List Nd} (h : OkN N) (h24 : N.length ≤ 24) : valB (upN N) = true := by
  unfold valB
  rw [upN_len, decide_eq_true h.pos, decide_eq_true h24]
  have : true = tysB N.length (upN N) := allB_good (p := fun j => nodeB N.length (tyAt (upN N) j)) fun j hj => by
    rw [upN_at hj, nodeB_iff]
    have h1 := h.kind j hj
    have h2 := h.leaf j hj
    have h3 := h.a j hj
    have h4 := h.b j hj
    unfold upTy
    dsimp only
    omega
  rw [← this]; rfl
theorem Nl.tl {w : World} {A : Option Addr} {n c : Nat} {N : List Nd} (h : Nl w A n c N) (hp : 1 ≤ n) : Tl w A n c (upN N) := by
  refine ⟨by rw [upN_len]; exact h.len, h.cap, h.big, fun e => ?_, fun k hk => ?_⟩
  · obtain ⟨b, off, e', _⟩ := h.rows 0 (by omega)
    rw [e] at e'; cases e'
  · obtain ⟨b, off, e, hb, h1, h2, h3⟩ := h.rows k hk
    rw [upN_at (by rw [h.len]; exact hk)]
    exact ⟨b, off, e, hb, h1, h2, h3⟩
theorem equal_bad (zs : List Ty) (A : Option Addr) (n c : Nat) (i j : Int) (w : World) (hN : Tl w A n c zs) (h : bad2 zs i j) :
    Calls Try.prog 23 #[.slice A n c, .int .i64 i, .int .i64 j] w fun e w' => e = .returned (.tuple #[.bool false, .int .i64 2]) ∧ Below w.heap.size w w' := by
  have hb : Below w.heap.size w (w.alloc (.cells #[.int .i64 i, .int .i64 j] 3)) := (Below.refl _ w).alloc (Nat.le_refl _) _
  have HV := Lib.hid (valid2 h (hN.below hb (Nat.le_refl _)) (Sl.two w 3 i j))
  have HB := Lib.hid hb
  clear hb hN h
  go_enter Try.func23, Try.ntmps23
  go_wp2_with (go_at_call 40; refine HV.out.mono ?_; rintro e w1 ⟨rfl, hb1⟩)
  go_ret2
  exact ⟨rfl, HB.out.trans (hb1.mono HB.out.size)⟩
set_option maxHeartbeats 1600000 in
theorem equal_any (zs : List Ty) (A : Option Addr) (n c p q : Nat) (w : World) (hN : Tl w A n c zs) (hv : valB zs = true) (hp : p < n) (hq : q < n) :
    Calls Try.prog 23 #[.slice A n c, .int .i64 (p : Int), .int .i64 (q : Int)] w fun e w' => (∃ b, e = .returned (.tuple #[.bool b, .int .i64 0]) ∧ (b = true ↔ EqT (toN zs) (p, q))) ∧ Below w.heap.size w w' := by
  have hb : Below w.heap.size w (w.alloc (.cells #[.int .i64 (p : Int), .int .i64 (q : Int)] 3)) := (Below.refl _ w).alloc (Nat.le_refl _) _
  have hl := hN.len
  have h24 := (valB_len hv).2
  have HLN : Hid ((toN zs).length = n) := by rw [Hid, toN_len]; exact hl
  have HV := Lib.hid (valid2 (b := true) (i := (p : Int)) (j := (q : Int)) (by rw [hv, inB_nat (by omega), inB_nat (by omega)]; rfl) (hN.below hb (Nat.le_refl _)) (Sl.two w 3 (p : Int) (q : Int)))
  have HA : Hid (∀ W, Below w.heap.size w W → Calls Try.prog 46 #[.slice A n c] W fun e w' => RefPost (toN zs) n W.heap.size e w' ∧ Below W.heap.size W w') := fun W hW => alike_any (toN zs) A n c W ((hN.nl hv).below hW (Nat.le_refl _)) (valB_ok hv) (by omega)
  have HB := Lib.hid hb
  have i1 : (p : Int) < (n : Int) := by omega
  have i2 : (q : Int) < (n : Int) := by omega
  clear hb hN hv
  go_enter Try.func23, Try.ntmps23
  go_wp2_with (first
    | (go_at_call 40; refine HV.out.mono ?_; rintro e w1 ⟨rfl, hb1⟩; have HB1 := Lib.hid (HB.out.trans (hb1.mono HB.out.size)); clear hb1)
    | (go_at_call 46; refine (HA.out _ HB1.out).mono ?_; rintro e w2 ⟨⟨v, cl, rfl, hcl, hov⟩, hb2⟩; obtain ⟨C, d, rfl, hsl⟩ := hov.sl_len (n := n) (tabL_len _ _) (by omega); obtain ⟨cb, co, rfl, hcc⟩ := hsl.cells (by omega); have c1 := hcc p hp; have c2 := hcc q hq; rw [tabL_at _ hp] at c1; rw [tabL_at _ hq] at c2; have HE := Lib.hid (hcl.iff p q (by rw [HLN.out]; exact hp) (by rw [HLN.out]; exact hq)); have HB2 := Lib.hid (HB1.out.trans (hb2.mono HB1.out.size)); clear hov hsl hcc hcl hb2))
  generalize cl p = x at *
  generalize cl q = y at *
  by_cases h : x = y
  · have g : ((x : Int) == (y : Int)) = true := by simp; omega
    have HX := Lib.hid (HE.out.1 h)
    clear h
    go_quiet (fail)
    go_wp2
    go_ret2
    exact ⟨⟨true, rfl, fun _ => HX.out, fun _ => rfl⟩, below_dn HB2.out _⟩
  · have g : ((x : Int) == (y : Int)) = false := by simp; omega
    have HX : Hid (¬ EqT (toN zs) (p, q)) := fun e => h (HE.out.2 e)
    clear h
    go_quiet (fail)
    go_wp2
    go_ret2
    exact ⟨⟨false, rfl, fun e => (by cases e), fun e => absurd e HX.out⟩, below_dn HB2.out _⟩
theorem mod_is (x : Int) (n : Nat) (hn : 1 ≤ n) (hn' : n ≤ 1000000) : ∃ r : Nat, r < n ∧ ∀ W, Calls Try.prog 37 #[.int .i64 x, .int .i64 (n : Int)] W fun e w' => e = .returned (.int .i64 (r : Int)) ∧ W = w' := by
  obtain ⟨r, h1, h2⟩ := mod_val x (n : Int) (by omega) (by omega)
  refine ⟨r, by omega, fun W => ?_⟩
  have H := Lib.hid h1; clear h1
  go_enter Try.func37, Try.ntmps37
  go_wp2
  go_ret
  exact ⟨iend H.out, rfl⟩
theorem eqT_dep {N : List Nd} : ∀ (r i j : Nat), EqT N (i, j) → dep N r i = dep N r j
  | 0, _, _, _ => rfl
  | r + 1, i, j, h => by
    have hs := eqT_clo N _ h
    have hk : (nd N i).k = (nd N j).k := hs.1
    rcases hs.2 with h4 | ⟨ha, hb⟩
    · have h4 : (nd N i).k < 4 := h4
      rw [dep_leaf (by omega), dep_leaf (by omega)]
    · by_cases h4 : 4 ≤ (nd N i).k
      · rw [dep_part h4, dep_part (by omega), eqT_dep r _ _ ha, eqT_dep r _ _ hb]
      · rw [dep_leaf h4, dep_leaf (by omega)]
end Go.Proofs.Ytmbdjjkgjnemiaa
