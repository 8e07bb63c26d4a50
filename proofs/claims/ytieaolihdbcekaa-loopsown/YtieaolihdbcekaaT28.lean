import Derived.Test.YtieaolihdbcekaaT09
import Derived.Test.YtieaolihdbcekaaT07
import Derived.Test.YtieaolihdbcekaaT10
import Derived.Test.YtieaolihdbcekaaT16
import Derived.Deep.Cut
/- Layer 6: the reference's Depth. -/
namespace Go.Proofs.Ytieaolihdbcekaa
open Go.RowKit
set_option linter.unusedVariables false

theorem upTo_same {f : Nat → Nat} {k : Nat} (h : f k = 0) (n : Nat) : tabL n (upTo f k) = tabL n (upTo f (k + 1)) := tabL_congr fun i _ => by
  unfold upTo
  by_cases e : i < k
  · rw [if_pos e, if_pos (by omega)]
  · by_cases e2 : i = k
    · subst e2; rw [if_neg e, if_pos (by omega), h]
    · rw [if_neg e, if_neg (by omega)]
theorem upTo_put {f : Nat → Nat} {k n v : Nat} (hk : k < n) (h : f k = v) : (tabL n (upTo f k)).set k (v : Int) = tabL n (upTo f (k + 1)) := by
  rw [tabL_set _ _ _ hk, ← upTo_succ, h]
set_option maxRecDepth 100000 in
set_option maxHeartbeats 6400000 in
theorem depthR0_any (N : List Nd) (A : Option Addr) (n c i : Nat) (w : World) (hN : Nl w A n c N) (hok : OkN N) (hi : i < n) (hn : n ≤ 24) :
    Calls Try.prog 52 #[.slice A n c, .int .i64 (i : Int), .int .i64 (n : Int)] w fun e w' => e = .returned (.tuple #[.int .i64 (dep N (n + 1) i : Nat), .bool (decide (dep N (n + 1) i ≤ n))]) ∧ Below w.heap.size w w' := by
  have HL : Hid (N.length = n) := hN.len
  have HN := Lib.hid hN
  have HOK := Lib.hid hok
  obtain ⟨i0, hi0, hz0, hz1, hz2⟩ := info_parts Try.infoInt
  have HI : Hid (Try.prog.info? 3 = some i0 ∧ i0.zero = some (.int .i64 0) ∧ i0.size = 1 ∧ i0.bytes = 8) := ⟨hi0, hz0, hz1, hz2⟩
  clear hN hok hi0 hz0 hz1 hz2
  go_enter Try.func52, Try.ntmps52
  go_wp2_with (at_make; go_must (refine make_law _ rfl (.tmp 13) (.tmp 13) 69 rfl w.heap.size 3 i0 Try.underlying69 HI.out _ _ n rfl rfl (by omega) (by omega) (by omega) (Nat.le_refl _) ?_); intro w2 ho2 hg2; have HO2 := Lib.hid ho2; have HB2 : Hid (Below w.heap.size w w2) := (Below.refl _ _).grown hg2 (Nat.le_refl _) (fun k h => by cases h); clear ho2 hg2)
  have HD0 : Hid (Ow w2 w.heap.size 3 (.slice (some ⟨w.heap.size, 0, none⟩) n n) (tabL n (dep N 0))) := by
    have := HO2.out
    rw [tabL_zero (fun _ => 0)] at this
    rw [show tabL n (upTo (fun _ => 0) 0) = tabL n (dep N 0) from tabL_congr fun i _ => by simp [upTo, dep]] at this
    exact this
  clear HO2
  go_loopw [8, 9] (fun dv rv w' => ∃ r g : Nat, r ≤ n + 1 ∧ dv = .slice (some ⟨g, 0, none⟩) n n ∧ rv = .int .i64 (r : Int) ∧ Hid (Ow w' w.heap.size 3 (.slice (some ⟨g, 0, none⟩) n n) (tabL n (dep N r))) ∧ Hid (Below w.heap.size w w')) (fun _ rv _ => n + 1 - (intOf rv).toNat)
  case atStart => exact ⟨0, w.heap.size, by omega, by go_num, by go_num, HD0.out, HB2.out⟩
  case round =>
    obtain ⟨r, g, hr, rfl, rfl, HD, HB⟩ := hrel
    obtain ⟨wo, rfl⟩ : ∃ wo : World, wo = wr := ⟨_, rfl⟩
    clear HD0 HB2
    by_cases hlt : r ≤ n
    · have i1 : (r : Int) ≤ (n : Int) := by omega
      have hgw : g < wo.heap.size := (HD.out.lt (k := g) rfl).2
      go_wp2_with (at_make; go_must (refine make_law _ rfl (.tmp 21) (.tmp 21) 69 rfl w.heap.size 3 i0 Try.underlying69 HI.out _ _ n rfl rfl (by omega) (by omega) (by omega) HB.out.size ?_); intro w3 ho3 hg3; have HN3 := Lib.hid ho3; have HB3 : Hid (Below w.heap.size w w3) := HB.out.trans (((Below.refl _ _).grown hg3 (Nat.le_refl _) (fun k h => by cases h)).mono HB.out.size); have HD3 : Hid (Ow w3 w.heap.size 3 (.slice (some ⟨g, 0, none⟩) n n) (tabL n (dep N r))) := Ow.same HD.out (fun k hk => hg3.block k (Ow.lt HD.out hk).2 (by simp)); clear ho3 hg3)
      rw [tabL_zero (dep N (r + 1))] at HN3
      generalize wo.heap.size = s at *
      go_loopw [11] (fun kv w' => ∃ k : Nat, k ≤ n ∧ kv = .int .i64 (k : Int) ∧ Hid (Ow w' w.heap.size 3 (.slice (some ⟨s, 0, none⟩) n n) (tabL n (upTo (dep N (r + 1)) k))) ∧ Hid (Ow w' w.heap.size 3 (.slice (some ⟨g, 0, none⟩) n n) (tabL n (dep N r))) ∧ Hid (Below w.heap.size w w')) (fun kv _ => n - (intOf kv).toNat)
      case atStart => exact ⟨0, by omega, by go_num, HN3.out, HD3.out, HB3.out⟩
      case round =>
        obtain ⟨k, hk, rfl, HNX, HDP, HBL⟩ := hrel
        obtain ⟨wi, rfl⟩ : ∃ wi : World, wi = wr := ⟨_, rfl⟩
        clear HN3 HD3 HB3 HD HB
        by_cases hkn : k < n
        · have i2 : (k : Int) < (n : Int) := by omega
          obtain ⟨b, off, rfl, hb, c0, c1, c2⟩ := (HN.out.below HBL.out (Nat.le_refl _)).rows k hkn
          have hap := HOK.out.a k (by rw [HL.out]; exact hkn)
          have hbp := HOK.out.b k (by rw [HL.out]; exact hkn)
          rw [HL.out] at hap hbp
          by_cases h4 : 4 ≤ (nd N k).k
          · have hde := dep_part h4 r
            have hd1 := dep_le N r (nd N k).a
            have hd2 := dep_le N r (nd N k).b
            obtain ⟨x, hx⟩ : ∃ x, x = nd N k := ⟨_, rfl⟩
            rw [← hx] at c0 c1 c2 hap hbp h4 hde hd1 hd2
            obtain ⟨kk, p, q⟩ := x
            dsimp only at c0 c1 c2 hap hbp h4 hde hd1 hd2
            have n1 := HDP.out.cellAt (tabL_len _ _) hap
            have n2 := HDP.out.cellAt (tabL_len _ _) hbp
            rw [tabL_at _ hap] at n1
            rw [tabL_at _ hbp] at n2
            have hce := HNX.out.cellAt (tabL_len _ _) hkn
            have hcf := HNX.out.free (tabL_len _ _) k
            obtain ⟨u, hu⟩ : ∃ u, (tabL n (upTo (dep N (r + 1)) k))[k]?.getD 0 = u := ⟨_, rfl⟩
            rw [hu] at hce
            have HRD : Hid (∀ z nq, dep N (r + 1) k = z → Ow ((wi.drewN nq).setCell ⟨s, k, none⟩ (.int .i64 (z : Nat))) w.heap.size 3 (.slice (some ⟨s, 0, none⟩) n n) (tabL n (upTo (dep N (r + 1)) (k + 1))) ∧ Ow ((wi.drewN nq).setCell ⟨s, k, none⟩ (.int .i64 (z : Nat))) w.heap.size 3 (.slice (some ⟨g, 0, none⟩) n n) (tabL n (dep N r)) ∧ Below w.heap.size w ((wi.drewN nq).setCell ⟨s, k, none⟩ (.int .i64 (z : Nat)))) := fun z nq hz => by
              refine ⟨?_, ?_, ?_⟩
              · rw [← upTo_put hkn hz]
                exact Ow.put (w := wi.drewN nq) HNX.out (tabL_len _ _) k (z : Int)
              · have hne : s ≠ g := by omega
                exact Ow.same (w := wi) HDP.out fun j hj => by
                  have e : g = j := Option.some.inj hj
                  simp [World.setCell, Array.getElem?_modify]
                  intro e2
                  omega
              · exact (below_dn HBL.out nq).setCell (p := ⟨s, k, none⟩) (by have := HNX.out.lt (k := s) rfl; exact this.1) _
            generalize dep N r p = d1 at *
            generalize dep N r q = d2 at *
            have j1 : (p : Int) < (n : Int) := by omega
            have j2 : (q : Int) < (n : Int) := by omega
            have i4 : (kk : Int) ≥ 4 := by omega
            have hw1 := i64_small (x := d1) (by omega)
            have hw2 := i64_small (x := d2) (by omega)
            have HDE := Lib.hid hde
            clear hx hu hde hap hbp h4 HNX HDP HBL
            rcases Nat.lt_or_ge d1 d2 with hm | hm
            · have hm1 : (d1 : Int) < (d2 : Int) := by omega
              have HZ := Lib.hid (HRD.out (1 + d2) 1 (by rw [HDE.out]; omega))
              go_wp2
              go_still_tail 21, (by kernel_rfl)
              go_wp2
              exact ⟨⟨k + 1, by omega, by go_num, HZ.out.1, HZ.out.2.1, HZ.out.2.2⟩, by simp [intOf] <;> omega⟩
            · have hm1 : ¬ (d1 : Int) < (d2 : Int) := by omega
              have HZ := Lib.hid (HRD.out (1 + d1) 1 (by rw [HDE.out]; omega))
              go_wp2
              go_still_tail 21, (by kernel_rfl)
              go_wp2
              exact ⟨⟨k + 1, by omega, by go_num, HZ.out.1, HZ.out.2.1, HZ.out.2.2⟩, by simp [intOf] <;> omega⟩
          · have HNS : Hid (Ow wi w.heap.size 3 (.slice (some ⟨s, 0, none⟩) n n) (tabL n (upTo (dep N (r + 1)) (k + 1)))) := by
              rw [Hid, ← upTo_same (dep_leaf h4 (r + 1))]
              exact HNX.out
            generalize nd N k = x at c0 c1 c2 h4
            obtain ⟨kk, p, q⟩ := x
            dsimp only at c0 c1 c2 h4
            have i4 : ¬ (kk : Int) ≥ 4 := by omega
            clear hap hbp h4 HNX
            go_wp2
            exact ⟨⟨k + 1, by omega, by go_num, HNS.out, HDP.out, HBL.out⟩, by simp [intOf] <;> omega⟩
        · have hkk : k = n := by omega
          subst hkk
          have i2 : ¬ (k : Int) < (k : Int) := by omega
          have HNS : Hid (Ow wi w.heap.size 3 (.slice (some ⟨s, 0, none⟩) k k) (tabL k (dep N (r + 1)))) := by rw [Hid, ← tabL_upTo]; exact HNX.out
          clear HNX HDP
          go_wp2
          exact ⟨⟨r + 1, s, by omega, by go_num, by go_num, HNS.out, HBL.out⟩, by simp [intOf] <;> omega⟩
    · have hrn : r = n + 1 := by omega
      subst hrn
      have i1 : ¬ ((n + 1 : Nat) : Int) ≤ (n : Int) := by omega
      have j1 : (i : Int) < (n : Int) := by omega
      have n1 := HD.out.cellAt (tabL_len _ _) hi
      rw [tabL_at _ hi] at n1
      have HB' := HB
      obtain ⟨d, hd0⟩ : ∃ d, dep N (n + 1) i = d := ⟨_, rfl⟩
      rw [hd0] at n1
      have HDD := Lib.hid hd0
      clear hd0
      clear HD
      by_cases hd : d ≤ n
      · have hd1 : (d : Int) ≤ (n : Int) := by omega
        have HX : Hid (true = decide (d ≤ n)) := (decide_eq_true hd).symm
        clear hd
        go_wp2
        go_quiet (fail)
        go_wp2
        go_ret2
        exact ⟨by rw [HDD.out, ← HX.out]; rfl, below_dn HB'.out _⟩
      · have hd1 : ¬ (d : Int) ≤ (n : Int) := by omega
        have HX : Hid (false = decide (d ≤ n)) := (decide_eq_false hd).symm
        clear hd
        go_wp2
        go_quiet (fail)
        go_wp2
        go_ret2
        exact ⟨by rw [HDD.out, ← HX.out]; rfl, below_dn HB'.out _⟩
theorem depthR_any (N : List Nd) (A : Option Addr) (n c i : Nat) (w : World) (hN : Nl w A n c N) (hok : OkN N) (hi : i < n) (hn : n ≤ 24) :
    Calls Try.prog 35 #[.slice A n c, .int .i64 (i : Int)] w fun e w' => e = .returned (.tuple #[.int .i64 (dep N (n + 1) i : Nat), .bool (decide (dep N (n + 1) i ≤ n))]) ∧ Below w.heap.size w w' := by
  have H := Lib.hid (depthR0_any N A n c i w hN hok hi hn)
  have hbig := hN.big
  clear hN hok
  go_enter Try.func35, Try.ntmps35
  go_wp2_with (go_at_call 52; refine H.out.mono ?_; rintro e w1 ⟨rfl, hb1⟩)
  go_ret2
  exact ⟨rfl, hb1⟩
end Go.Proofs.Ytieaolihdbcekaa
/- Layer 6: Order, mathematics and what stands between its rounds. -/
namespace Go.Proofs.Ytieaolihdbcekaa
open Go.RowKit Go.Maps
set_option linter.unusedVariables false

/-- Whether a pair is one of a subtype and its supertype. -/
noncomputable def subD (N : List Nd) (p : Pt) : Bool := @decide (SubT N p) (Classical.propDecidable _)
theorem subD_iff {N : List Nd} {p : Pt} : subD N p = true ↔ SubT N p := by unfold subD; exact @decide_eq_true_iff _ (Classical.propDecidable _)
/-- The pairs of row i, up to j. -/
def rowTo (P : Pt → Bool) (i j : Nat) : List Pt := ((List.range j).filter fun t => decide (i ≠ t) && P (i, t)).map fun t => (i, t)
def ordTo (P : Pt → Bool) (n i : Nat) : List Pt := (List.range i).flatMap fun t => rowTo P t n
theorem rowTo_zero (P : Pt → Bool) (i : Nat) : rowTo P i 0 = [] := rfl
theorem rowTo_put {P : Pt → Bool} {i j : Nat} (h : i ≠ j) (hP : P (i, j) = true) : rowTo P i (j + 1) = rowTo P i j ++ [(i, j)] := by
  unfold rowTo
  rw [List.range_succ, List.filter_append, List.map_append]
  simp [h, hP]
theorem rowTo_skip {P : Pt → Bool} {i j : Nat} (h : i = j ∨ P (i, j) = false) : rowTo P i (j + 1) = rowTo P i j := by
  unfold rowTo
  rw [List.range_succ, List.filter_append, List.map_append]
  rcases h with h | h
  · subst h; simp
  · simp [h]
theorem ordTo_zero (P : Pt → Bool) (n : Nat) : ordTo P n 0 = [] := rfl
theorem ordTo_succ (P : Pt → Bool) (n i : Nat) : ordTo P n (i + 1) = ordTo P n i ++ rowTo P i n := by
  unfold ordTo
  rw [List.range_succ, List.flatMap_append]
  simp
theorem rowTo_len (P : Pt → Bool) (i j : Nat) : (rowTo P i j).length ≤ j := by
  unfold rowTo
  rw [List.length_map]
  exact Nat.le_trans (List.length_filter_le _ _) (by simp)
theorem ordTo_len (P : Pt → Bool) (n : Nat) : ∀ i, (ordTo P n i).length ≤ i * n
  | 0 => by simp [ordTo]
  | i + 1 => by
    rw [ordTo_succ, List.length_append, Nat.succ_mul]
    have := ordTo_len P n i
    have := rowTo_len P i n
    omega
/-- Between two steps of Order: the map of what holds, the pairs so far. -/
structure OrS (N : List Nd) (n bm C : Nat) (w : World) (H : List Pt) (u : Value) (L : List Pt) (W : World) : Prop where
  km : KM encPt W 4 bm C (relM H)
  hs : ∀ q ∈ H, SubT N q
  ow : Owp W w.heap.size 23 u (L.map ptI)
  ne : u.ownBlock ≠ some bm
  lo : w.heap.size ≤ bm
  bl : Below w.heap.size w W
theorem OrS.below {N : List Nd} {n bm C : Nat} {w : World} {H : List Pt} {u : Value} {L : List Pt} {W W' : World} (h : OrS N n bm C w H u L W) (hb : Below W.heap.size W W') : OrS N n bm C w H u L W' :=
  ⟨h.km.below hb h.km.lt, h.hs, h.ow.below hb (Nat.le_refl _), h.ne, h.lo, h.bl.trans (hb.mono h.bl.size)⟩
theorem OrS.alloc {N : List Nd} {n bm C : Nat} {w : World} {H : List Pt} {u : Value} {L : List Pt} {W : World} (h : OrS N n bm C w H u L W) (o : Obj) : OrS N n bm C w H u L (W.alloc o) := h.below ((Below.refl _ W).alloc (Nat.le_refl _) _)
theorem OrS.mono {N : List Nd} {n bm C D : Nat} {w : World} {H : List Pt} {u : Value} {L : List Pt} {W : World} (h : OrS N n bm C w H u L W) (hC : C ≤ D) : OrS N n bm D w H u L W := ⟨h.km.mono hC, h.hs, h.ow, h.ne, h.lo, h.bl⟩
/-- A pair is put into the map. -/
theorem OrS.put {N : List Nd} {n bm C : Nat} {w : World} {H : List Pt} {u : Value} {L : List Pt} {W : World} (h : OrS N n bm C w H u L W) (hC : C ≤ 1000000) {x y : Nat} (hx : x ≤ 1000) (hy : y ≤ 1000) (hs : SubT N (x, y)) :
    ∃ W', (Instr.mapUpdate 83 (.map (some bm)) (.agg #[.int .i64 (x : Int), .int .i64 (y : Int)]) (.bool true)).run Try.prog W = .ok () W' ∧ OrS N n bm (C + 1) w (H ++ [(x, y)]) u L W' ∧ World.grownBy W W' (some bm) := by
  obtain ⟨W', h1, h2, h3⟩ := run_storeK _ h.km 83 Try.underlying83 (by omega) (k := ((x, y) : Pt)) ⟨by show x ≤ _; omega, by show y ≤ _; omega⟩ (.bool true) (.bool true) (plainElem_bool Try.underlying4 true)
  rw [relM_put] at h2
  refine ⟨W', h1, ⟨h2, fun q hq => ?_, h.ow.same fun k hk => h3.block k (h.ow.lt hk).2 (fun e => h.ne (by rw [hk, e])), h.ne, h.lo, h.bl.grown h3 h.bl.size (fun k e => by have e := Option.some.inj e; have := h.lo; omega)⟩, h3⟩
  rcases List.mem_append.1 hq with hq | hq
  · exact h.hs q hq
  · rw [List.mem_singleton.1 hq]; exact hs
theorem OrS.look {N : List Nd} {n bm C : Nat} {w : World} {H : List Pt} {u : Value} {L : List Pt} {W : World} (h : OrS N n bm C w H u L W) {x y : Nat} (hx : x ≤ 1000) (hy : y ≤ 1000) :
    (Instr.lookup 83 (.map (some bm)) (.agg #[.int .i64 (x : Int), .int .i64 (y : Int)]) false).run Try.prog W = .ok (.bool (decide ((x, y) ∈ H))) W :=
  run_lookB W 83 Try.underlying83 _ _ _ h.km (x := ((x, y) : Pt)) ⟨by show x ≤ _; omega, by show y ≤ _; omega⟩ (decide ((x, y) ∈ H)) (relM_at H (x, y))
theorem row_not_map {W : World} {b t C : Nat} {cs : Array Value} {f : Pt → Option Lit} {e : TypeId} (h : W.heap[b]? = some (.cells cs t (0, 0))) (k : KM encPt W e b C f) : False := by
  obtain ⟨D, ⟨es, ck, h1, _⟩, _⟩ := k
  rw [h] at h1
  cases h1
theorem field_fd (b : Bool) (X : Option Addr) (m d : Nat) (t : ByteArray) (W : World) : (Instr.field 27 (.agg #[.bool b, .slice X m d, .string t]) 1).run Try.prog W = .ok (.slice X m d) W := by kernel_rfl
end Go.Proofs.Ytieaolihdbcekaa
/- Layer 6: Order. -/
namespace Go.Proofs.Ytieaolihdbcekaa
open Go.RowKit Go.Maps
set_option linter.unusedVariables false

theorem OrS.push {N : List Nd} {n bm C : Nat} {w : World} {H : List Pt} {u : Value} {L : List Pt} {W W9 : World} {u' : Value} {i j : Nat} (h : OrS N n bm C w H u L W) (hv : Owp W9 w.heap.size 23 u' (L.map ptI ++ [((i : Int), (j : Int))])) (hg : World.grownBy W W9 u.ownBlock) (hat : u'.ownBlock = u.ownBlock ∨ ∃ g, u'.ownBlock = some g ∧ W.heap.size ≤ g) :
    OrS N n bm C w H u' (L ++ [(i, j)]) W9 :=
  ⟨h.km.grown hg (fun e => h.ne e.symm), h.hs, by rw [List.map_append]; exact hv, by
    rcases hat with e | ⟨g, e, hge⟩
    · rw [e]; exact h.ne
    · rw [e]; intro e2; have e2 := Option.some.inj e2; have := h.km.lt; omega, h.lo, h.bl.grown hg h.bl.size (fun k e => (h.ow.lt e).1)⟩
theorem validB_nil (zs : List Ty) : validB zs [] = valB zs := by rw [validB_is]; unfold insB allB; simp
theorem valid0 {zs : List Ty} {b : Bool} (hb : valB zs = b) {A : Option Addr} {n c : Nat} {W : World} (h : Tl W A n c zs) :
    Calls Try.prog 40 #[.slice A n c, .slice none 0 0] W fun e w' => e = .returned (.bool b) ∧ Below W.heap.size W w' := by
  have := valid_any A n c zs none 0 0 [] W h ⟨rfl, Nat.le_refl _, by omega, fun _ => ⟨rfl, rfl⟩, fun k hk => absurd hk (by simp), fun _ _ h _ => (by cases h)⟩
  rw [validB_nil, hb] at this
  exact this
theorem order_bad (zs : List Ty) (A : Option Addr) (n c : Nat) (w : World) (hN : Tl w A n c zs) (h : valB zs = false) :
    Calls Try.prog 32 #[.slice A n c] w fun e w' => e = .returned (.tuple #[.slice none 0 0, .int .i64 2]) ∧ Below w.heap.size w w' := by
  have HV := Lib.hid (valid0 h hN)
  clear hN h
  go_enter Try.func32, Try.ntmps32
  go_wp2_with (go_at_call 40; refine HV.out.mono ?_; rintro e w1 ⟨rfl, hb1⟩)
  go_ret2
  exact ⟨rfl, hb1⟩
set_option maxRecDepth 100000 in
set_option maxHeartbeats 6400000 in
theorem order_any (zs : List Ty) (A : Option Addr) (n c : Nat) (w : World) (hT : Tl w A n c zs) (hv : valB zs = true) :
    Calls Try.prog 32 #[.slice A n c] w fun e w' => (∃ u, e = .returned (.tuple #[u, .int .i64 0]) ∧ Owp w' w.heap.size 23 u ((ordTo (subD (toN zs)) n n).map ptI)) ∧ Below w.heap.size w w' := by
  have hn := (valB_len hv).2
  rw [hT.len] at hn
  have hbig := hT.big
  have HV := Lib.hid (valid0 hv hT)
  have HN := Lib.hid (hT.nl hv)
  have HOK := Lib.hid (valB_ok hv)
  obtain ⟨N, hNe⟩ : ∃ N, N = toN zs := ⟨_, rfl⟩
  rw [← hNe] at HN HOK ⊢
  have hmm := @run_makeMap Try.prog
  obtain ⟨ti, hi, hz0, hz1, hz2⟩ := info_parts Try.infoPt
  have HIP : Hid (Try.prog.info? 23 = some ti ∧ ti.zero = some (.agg #[.int .i64 0, .int .i64 0]) ∧ ti.size = 2 ∧ ti.bytes = 16) := ⟨hi, hz0, hz1, hz2⟩
  have HSE : Hid (∀ W p q, Below w.heap.size w W → p < n → q < n → Calls Try.prog 41 #[.slice A n c, .agg #[.int .i64 (p : Int), .int .i64 (q : Int)]] W fun e w' => (∃ (b : Bool) (X : Option Addr) (m d : Nat) (t : ByteArray) (Lp : List Pt), e = .returned (.agg #[.bool b, .slice X m d, .string t]) ∧ Lp.length = m ∧ m ≤ 576 ∧ Owp w' W.heap.size 23 (.slice X m d) (Lp.map ptI) ∧ (∀ q ∈ Lp, SubT N q ∧ q.1 < n ∧ q.2 < n) ∧ ((p, q) ∈ Lp ↔ SubT N (p, q))) ∧ Below W.heap.size W w') := fun W p q hW hp hq => by
    refine (search_fd N A n c p q W (HN.out.below hW (Nat.le_refl _)) HOK.out hp hq (by omega)).mono ?_
    rintro e w' ⟨⟨b, X, m, d, t, rfl, hfd⟩, hb⟩
    refine ⟨?_, hb⟩
    have hho := hfd.holds
    have hln : N.length = n := HN.out.len
    have hmul : N.length * N.length ≤ 24 * 24 := Nat.mul_le_mul (by omega) (by omega)
    rcases hfd with ⟨rfl, rfl, L, hl, ho, h5, h6, h7, h8⟩ | ⟨rfl, rfl, rfl, rfl, h5, _⟩
    · exact ⟨true, X, m, d, _, L, rfl, hl, by omega, ho, fun q hq => ⟨sub_of_closed h7 hq, by have := (h6 q hq).1; omega, by have := (h6 q hq).2; omega⟩, ⟨fun _ => hho.1 rfl, fun _ => h5⟩⟩
    · exact ⟨false, none, 0, 0, t, [], rfl, rfl, by omega, Owp.nil _ _ _, fun q hq => (by cases hq), ⟨fun h => (by cases h), fun h => by have := hho.2 h; cases this⟩⟩
  clear hT hv hNe hi hz0 hz1 hz2 HN HOK
  go_enter Try.func32, Try.ntmps32
  go_wp2_with (go_at_call 40; refine HV.out.mono ?_; rintro e w1 ⟨rfl, hb1⟩; have HB1 := Lib.hid hb1; clear hb1)
  have HS0 : Hid (OrS N n w1.heap.size 0 w [] (.slice none 0 0) (ordTo (subD N) n 0) (w1.alloc (.map #[] 0))) :=
    ⟨by have := KM.made encPt w1 4; rw [show relM [] = (fun _ => none) from by funext x; unfold relM; simp]; exact this, fun q hq => (by cases hq), Owp.nil _ _ _, (by simp [Value.ownBlock]), HB1.out.size, HB1.out.alloc HB1.out.size _⟩
  generalize w1.alloc (.map #[] 0) = W0 at *
  generalize w1.heap.size = bm at *
  clear HB1
  go_loopw [4, 17] (fun u iv w' => ∃ (i : Nat) (H : List Pt), i ≤ n ∧ iv = .int .i64 (i : Int) ∧ Hid (OrS N n bm (i * 24 * 576) w H u (ordTo (subD N) n i) w')) (fun _ iv _ => n - (intOf iv).toNat)
  case atStart => exact ⟨0, [], by omega, by go_num, HS0.out.mono (by omega)⟩
  case round =>
    obtain ⟨i, H, hi, rfl, HS⟩ := hrel
    obtain ⟨wo, rfl⟩ : ∃ wo : World, wo = wr := ⟨_, rfl⟩
    clear HS0
    by_cases hin : i < n
    · have i1 : (i : Int) < (n : Int) := by omega
      go_wp2
      go_loopw [4, 22] (fun u jv w' => ∃ (j : Nat) (H : List Pt), j ≤ n ∧ jv = .int .i64 (j : Int) ∧ Hid (OrS N n bm ((i * 24 + j) * 576) w H u (ordTo (subD N) n i ++ rowTo (subD N) i j) w')) (fun _ jv _ => n - (intOf jv).toNat)
      case atStart => exact ⟨0, H, by omega, by go_num, by rw [rowTo_zero, List.append_nil]; exact HS.out.mono (by omega)⟩
      case round =>
        obtain ⟨j, H, hj, rfl, HO⟩ := hrel
        obtain ⟨W, rfl⟩ : ∃ wo : World, wo = wr := ⟨_, rfl⟩
        clear HS
        by_cases hjn : j < n
        · have i2 : (j : Int) < (n : Int) := by omega
          obtain ⟨W1, hW1⟩ : ∃ W1, W1 = W.alloc (.cells #[.int .i64 (i : Int), .int .i64 (j : Int)] 23) := ⟨_, rfl⟩
          have HO1 : Hid (OrS N n bm ((i * 24 + j) * 576) w H u4 (ordTo (subD N) n i ++ rowTo (subD N) i j) W1) := by rw [hW1]; exact HO.out.alloc _
          have hrow1 : W1.heap[W.heap.size]? = some (.cells #[.int .i64 (i : Int), .int .i64 (j : Int)] 23 (0, 0)) := by rw [hW1]; exact heap_alloc_new _ _
          have HW1 := Lib.hid hW1
          have HLL : Hid (((ordTo (subD N) n i ++ rowTo (subD N) i j).map ptI).length ≤ 1099511627776) := by
            have h1 := ordTo_len (subD N) n i
            have h2 := rowTo_len (subD N) i j
            have h3 : i * n ≤ 24 * 24 := Nat.mul_le_mul (by omega) hn
            rw [Hid, List.length_map, List.length_append]
            omega
          have lk := HO1.out.look (x := i) (y := j) (by omega) (by omega)
          have e0 := cell_in hrow1 (i := 0) rfl
          have e1 := cell_in hrow1 (i := 1) rfl
          have HROW1 := Lib.hid hrow1
          clear hW1 hrow1 HO
          by_cases hmem : (i, j) ∈ H
          · have HMEM : Hid ((i, j) ∈ H ↔ SubT N (i, j)) := ⟨fun _ => HO1.out.hs _ hmem, fun _ => hmem⟩
            rw [decide_eq_true hmem] at lk
            have HOV := HO1
            go_upto_region 12 with (fail)
            rw [← HW1.out]
            have hij : i = j ∨ i ≠ j := by omega
            rcases hij with hij | hij
            · have g1 : ((i : Int) != (j : Int)) = false := by simp; omega
              have HX : Hid (ordTo (subD N) n i ++ rowTo (subD N) i j = ordTo (subD N) n i ++ rowTo (subD N) i (j + 1)) := by rw [Hid, rowTo_skip (.inl hij)]
              have HO' := HOV
              rw [HX.out] at HO'
              clear hij HOV HX
              go_wp2
              exact ⟨⟨j + 1, H, by omega, by go_num, HO'.out.mono (by omega)⟩, by simp [intOf]; omega⟩
            · have g1 : ((i : Int) != (j : Int)) = true := by simp; omega
              have lk2 := HOV.out.look (x := i) (y := j) (by omega) (by omega)
              by_cases hm : (i, j) ∈ H
              · rw [decide_eq_true hm] at lk2
                have HX : Hid (ordTo (subD N) n i ++ rowTo (subD N) i j ++ [(i, j)] = ordTo (subD N) n i ++ rowTo (subD N) i (j + 1)) := by
                  rw [Hid, rowTo_put hij (subD_iff.2 (HMEM.out.1 hm)), List.append_assoc]
                clear hm hij
                go_wp2_with (at_builtin; go_must (refine pushp_law _ rfl (.tmp 52) (.tmp 54) 25 rfl w.heap.size 23 ti Try.underlying25 HIP.out _ ((ordTo (subD N) n i ++ rowTo (subD N) i j).map ptI) (i : Int) (j : Int) rfl rfl HOV.out.ow HLL.out HOV.out.bl.size ?_); intro v9 W9 hv9 hg9 hat9; have HV9 := Lib.hid (HOV.out.push hv9 hg9 hat9); clear hv9 hg9 hat9)
                have HV8 : Hid (OrS N n bm ((i * 24 + j + 1) * 576) w H v9 (ordTo (subD N) n i ++ rowTo (subD N) i (j + 1)) W9) := by
                  have := HV9.out.mono (D := (i * 24 + j + 1) * 576) (by omega)
                  rw [HX.out] at this
                  exact this
                exact ⟨⟨j + 1, H, by omega, by go_num, HV8.out.mono (by omega)⟩, by simp [intOf]; omega⟩
              · exact absurd hmem hm
          · rw [decide_eq_false hmem] at lk
            go_upto_region 12 with (fail)
            rw [← HW1.out]
            go_wp2_with (go_at_call 41; refine (HSE.out W1 i j HO1.out.bl hin hjn).mono ?_; rintro e w2 ⟨⟨b, X, m, d, t, Lp, rfl, hlp, hm5, hop, hall, hmp⟩, hb2⟩; have HO2 := Lib.hid (HO1.out.below hb2); have hrow2 := (hb2.block W.heap.size (Array.getElem?_eq_some_iff.1 HROW1.out).1).trans HROW1.out; have HROW2 := Lib.hid hrow2; have HOP := Lib.hid hop; have HALL := Lib.hid hall; have HMP := Lib.hid hmp; have HSZ2 : Hid (bm < W1.heap.size ∧ W.heap.size < W1.heap.size ∧ W1.heap.size ≤ w2.heap.size) := ⟨HO1.out.km.lt, (Array.getElem?_eq_some_iff.1 HROW1.out).1, hb2.size⟩; have hfd := field_fd b X m d t; clear hb2 hrow2 hop hall hmp lk e0 e1)
            have HLP := Lib.hid hlp
            clear hlp
            go_loopw [37] (fun kv w' => ∃ k : Nat, k ≤ m ∧ kv = .int .i64 (k : Int) ∧ Hid (OrS N n bm ((i * 24 + j) * 576 + k) w (H ++ Lp.take k) u4 (ordTo (subD N) n i ++ rowTo (subD N) i j) w') ∧ Hid (w'.heap[W.heap.size]? = some (.cells #[.int .i64 (i : Int), .int .i64 (j : Int)] 23 (0, 0))) ∧ Hid (Owp w' W1.heap.size 23 (.slice X m d) (Lp.map ptI)) ∧ Hid (w2.heap.size ≤ w'.heap.size)) (fun kv _ => m - (intOf kv).toNat)
            case atStart => exact ⟨0, by omega, by go_num, by rw [List.take_zero, List.append_nil]; exact HO2.out, HROW2.out, HOP.out, Nat.le_refl _⟩
            case round =>
              obtain ⟨k, hk, rfl, HOK, HRK, HPK, HSK⟩ := hrel
              obtain ⟨wi, rfl⟩ : ∃ wo : World, wo = wr := ⟨_, rfl⟩
              clear HO2 HROW2 HOP
              by_cases hkm : k < m
              · have i3 : (k : Int) < (m : Int) := by omega
                obtain ⟨g, cap, hsl, hcap, hgb, hglt, hcell⟩ := HPK.out.form (n := m) (by rw [List.length_map]; exact HLP.out) (by omega)
                injection hsl with hX _ _
                subst hX
                obtain ⟨c0, c1⟩ := hcell k hkm
                rw [ptI_at (by rw [HLP.out]; exact hkm)] at c0 c1
                have hq : Lp[k]?.getD (0, 0) ∈ Lp := by rw [List.getElem?_eq_getElem (by rw [HLP.out]; exact hkm)]; exact List.getElem_mem _
                obtain ⟨hs, hq1, hq2⟩ := HALL.out _ hq
                have HTK : Hid (H ++ Lp.take k ++ [Lp[k]?.getD (0, 0)] = H ++ Lp.take (k + 1)) := by
                  rw [Hid, List.append_assoc, List.take_add_one, List.getElem?_eq_getElem (by rw [HLP.out]; exact hkm)]; rfl
                generalize Lp[k]?.getD (0, 0) = y at *
                obtain ⟨y1, y2⟩ := y
                change wi.cell? _ = some (.int .i64 (y1 : Int)) at c0
                change wi.cell? _ = some (.int .i64 (y2 : Int)) at c1
                dsimp only at hq1 hq2
                obtain ⟨W8, hup, ho8, hg8⟩ := (HOK.out.alloc (.cells #[.int .i64 (y1 : Int), .int .i64 (y2 : Int)] 23)).put (by omega) (x := y1) (y := y2) (by omega) (by omega) hs
                rw [HTK.out] at ho8
                have hz := HSZ2.out
                have hzk := HSK.out
                have hb8 : ∀ kk, kk < wi.heap.size → kk ≠ bm → W8.heap[kk]? = wi.heap[kk]? := fun kk h1 h2 => (hg8.block kk (by simp; omega) (fun e => h2 (Option.some.inj e))).trans (((Below.refl _ wi).alloc (Nat.le_refl _) _).block kk h1)
                have HO8 := Lib.hid ho8
                have HR8 : Hid (W8.heap[W.heap.size]? = some (.cells #[.int .i64 (i : Int), .int .i64 (j : Int)] 23 (0, 0))) := (hb8 _ (Array.getElem?_eq_some_iff.1 HRK.out).1 (by have := HO1.out.km.lt; have := HOK.out.km.lt; intro e; have h9 := HRK.out; have h8 := HOK.out.km; subst e; exact row_not_map HRK.out h8)).trans HRK.out
                have HP8 : Hid (Owp W8 W1.heap.size 23 (.slice (some ⟨g, 0, none⟩) m d) (Lp.map ptI)) := HPK.out.same fun kk e => hb8 kk (HPK.out.lt e).2 (by have := (HPK.out.lt e).1; omega)
                have HS8 : Hid (w2.heap.size ≤ W8.heap.size) := by have := hg8.size; simp at this; rw [Hid]; omega
                clear ho8 hg8 hb8 hcell hq hs HOK HRK HPK HTK hz
                go_wp2
                exact ⟨⟨k + 1, by omega, by go_num, HO8.out, HR8.out, HP8.out, HS8.out⟩, by simp [intOf]; omega⟩
              · have hkk : k = m := by omega
                subst hkk
                have i3 : ¬ (k : Int) < (k : Int) := by omega
                have HOV : Hid (OrS N n bm ((i * 24 + j) * 576 + k) w (H ++ Lp) u4 (ordTo (subD N) n i ++ rowTo (subD N) i j) wi) := by
                  have := HOK.out
                  rw [List.take_of_length_le (Nat.le_of_eq HLP.out)] at this
                  exact this
                have HMEM : Hid ((i, j) ∈ H ++ Lp ↔ SubT N (i, j)) := by
                  rw [Hid, List.mem_append]
                  exact ⟨fun h => by rcases h with h | h; exact absurd h hmem; exact HMP.out.1 h, fun h => .inr (HMP.out.2 h)⟩
                have e0 := cell_in HRK.out (i := 0) rfl
                have e1 := cell_in HRK.out (i := 1) rfl
                clear HOK HRK HPK hkm hk HO1 HROW1 HW1
                have hij : i = j ∨ i ≠ j := by omega
                rcases hij with hij | hij
                · have g1 : ((i : Int) != (j : Int)) = false := by simp; omega
                  have HX : Hid (ordTo (subD N) n i ++ rowTo (subD N) i j = ordTo (subD N) n i ++ rowTo (subD N) i (j + 1)) := by rw [Hid, rowTo_skip (.inl hij)]
                  have HO' := HOV
                  rw [HX.out] at HO'
                  clear hij HOV HX
                  go_wp2
                  exact ⟨⟨j + 1, (H ++ Lp), by omega, by go_num, HO'.out.mono (by omega)⟩, by simp [intOf]; omega⟩
                · have g1 : ((i : Int) != (j : Int)) = true := by simp; omega
                  have lk2 := HOV.out.look (x := i) (y := j) (by omega) (by omega)
                  by_cases hm : (i, j) ∈ (H ++ Lp)
                  · rw [decide_eq_true hm] at lk2
                    have HX : Hid (ordTo (subD N) n i ++ rowTo (subD N) i j ++ [(i, j)] = ordTo (subD N) n i ++ rowTo (subD N) i (j + 1)) := by
                      rw [Hid, rowTo_put hij (subD_iff.2 (HMEM.out.1 hm)), List.append_assoc]
                    clear hm hij
                    go_wp2_with (at_builtin; go_must (refine pushp_law _ rfl (.tmp 52) (.tmp 54) 25 rfl w.heap.size 23 ti Try.underlying25 HIP.out _ ((ordTo (subD N) n i ++ rowTo (subD N) i j).map ptI) (i : Int) (j : Int) rfl rfl HOV.out.ow HLL.out HOV.out.bl.size ?_); intro v9 W9 hv9 hg9 hat9; have HV9 := Lib.hid (HOV.out.push hv9 hg9 hat9); clear hv9 hg9 hat9)
                    have HV8 : Hid (OrS N n bm ((i * 24 + j + 1) * 576) w (H ++ Lp) v9 (ordTo (subD N) n i ++ rowTo (subD N) i (j + 1)) W9) := by
                      have := HV9.out.mono (D := (i * 24 + j + 1) * 576) (by omega)
                      rw [HX.out] at this
                      exact this
                    exact ⟨⟨j + 1, (H ++ Lp), by omega, by go_num, HV8.out.mono (by omega)⟩, by simp [intOf]; omega⟩
                  · rw [decide_eq_false hm] at lk2
                    have HX : Hid (ordTo (subD N) n i ++ rowTo (subD N) i j = ordTo (subD N) n i ++ rowTo (subD N) i (j + 1)) := by
                      rw [Hid, rowTo_skip (.inr (by rw [Bool.eq_false_iff]; intro h; exact hm (HMEM.out.2 (subD_iff.1 h))))]
                    have HO' := HOV
                    rw [HX.out] at HO'
                    clear hm hij HOV HX
                    go_wp2
                    exact ⟨⟨j + 1, (H ++ Lp), by omega, by go_num, HO'.out.mono (by omega)⟩, by simp [intOf]; omega⟩
        · have hjn2 : j = n := by omega
          subst hjn2
          have i2 : ¬ (j : Int) < (j : Int) := by omega
          have HX : Hid (OrS N j bm ((i * 24 + j) * 576) w H u4 (ordTo (subD N) j (i + 1)) W) := by rw [ordTo_succ]; exact HO.out
          clear HO
          go_wp2
          exact ⟨⟨i + 1, H, by omega, by go_num, HX.out.mono (by omega)⟩, by simp [intOf]; omega⟩
    · have hin2 : i = n := by omega
      subst hin2
      have i1 : ¬ (i : Int) < (i : Int) := by omega
      have HOW := Lib.hid HS.out.ow
      have HBL := Lib.hid HS.out.bl
      clear HS
      go_wp2
      go_ret2
      exact ⟨⟨_, rfl, HOW.out⟩, HBL.out⟩
end Go.Proofs.Ytieaolihdbcekaa
/- Layer 6: the law's pairs. -/
namespace Go.Proofs.Ytieaolihdbcekaa
open Go.RowKit
set_option linter.unusedVariables false

theorem run_size3 (w : World) : (sizeOf 3).run Try.prog w = .ok 1 w := by kernel_rfl
theorem run_part0 (w : World) (p q : Int) : (part 3 #[.int .i64 p, .int .i64 q] 0).run Try.prog w = .ok (.int .i64 p) w := by kernel_rfl
theorem run_part1 (w : World) (p q : Int) : (part 3 #[.int .i64 p, .int .i64 q] 1).run Try.prog w = .ok (.int .i64 q) w := by kernel_rfl
theorem run_equalIn_pair (w : World) (d : Nat) (p q : Int) : (Op.equalIn (d + 2) 23 (.agg #[.int .i64 p, .int .i64 q]) (.agg #[.int .i64 p, .int .i64 q])).run Try.prog w = .ok true w := by
  rw [Op.equalIn]
  simp only [Sem.run_bind, run_underlying Try.underlying23, Result.andThen_ok, run_size3]
  simp [Std.Legacy.Range.forIn_eq_forIn_range', show List.range' 0 2 = [0, 1] from rfl, List.forIn_cons, run_part0, run_part1, run_equalIn_int w d 3 .i64 .i64 _ _ Try.underlying3, Result.andThen]
theorem run_neq_pair (w : World) (p q : Int) : (binOp .neq 23 (.agg #[.int .i64 p, .int .i64 q]) (.agg #[.int .i64 p, .int .i64 q])).run Try.prog w = .ok (.bool false) w := by
  simp only [binOp]
  simp [Op.equal, Op.maxDepth, run_equalIn_pair w 9998 p q]
def prAt (ps : List (Int × Int)) (k : Nat) : Int × Int := ps[k]?.getD (0, 0)
set_option maxHeartbeats 1600000 in
/-- Equal lists are found equal. -/
theorem pairs_same (ps : List (Int × Int)) (A B : Option Addr) (n c d : Nat) (w : World) (hN : Plr w A n c ps) (hM : Plr w B n d ps) :
    Calls Try.prog 34 #[.slice A n c, .slice B n d] w fun e w' => e = .returned (.bool true) ∧ Dr w w' := by
  have hbn := hN.big
  have HN := Lib.hid hN
  have HM := Lib.hid hM
  clear hN hM
  have hb : ((n : Int) != n) = false := by simp
  go_enter Try.func34, Try.ntmps34
  go_wp2
  go_loopw [5] (fun i w' => ∃ k : Nat, k ≤ n ∧ i = .int .i64 (k : Int) ∧ Dr w w') (fun i _ => n - (intOf i).toNat)
  case atStart => exact ⟨0, Nat.zero_le _, by go_num, Dr.refl _⟩
  case round =>
    obtain ⟨k, hk, rfl, hW⟩ := hrel
    obtain ⟨wo, rfl⟩ : ∃ wo : World, wo = wr := ⟨_, rfl⟩
    by_cases hlt : k < n
    · have i1 : (k : Int) < (n : Int) := by omega
      obtain ⟨b, off, rfl, _, c0, c1⟩ := (HN.out.below (hW.below w.heap.size) (Nat.le_refl _)).rows k hlt
      obtain ⟨b2, off2, rfl, _, d0, d1⟩ := (HM.out.below (hW.below w.heap.size) (Nat.le_refl _)).rows k hlt
      generalize ps[k]?.getD (0, 0) = x at *
      obtain ⟨p, q⟩ := x
      dsimp only at c0 c1 d0 d1
      have heq := fun V => run_neq_pair V p q
      go_wp2
      go_quiet (fail)
      go_wp2
      exact ⟨⟨k + 1, by omega, by go_num, hW.more _⟩, by simp [intOf]; omega⟩
    · have i1 : ¬ (k : Int) < (n : Int) := by omega
      go_wp2
      go_ret
      exact ⟨rfl, hW⟩
end Go.Proofs.Ytieaolihdbcekaa
