import Derived.Test.YtieaolihdbcekaaT34
import Derived.Test.YtieaolihdbcekaaT25
import Derived.Test.YtieaolihdbcekaaT10
/- Layer 6: the walk of LoopsOwn. -/
namespace Go.Proofs.Ytieaolihdbcekaa
open Go.RowKit
set_option linter.unusedVariables false

theorem upN_cut {N : List Nd} (h : N.length ≤ 25) : cutT (upN N) = upN N := by
  unfold cutT
  rw [List.take_of_length_le (by rw [upN_len]; omega)]
theorem FdQ.rg {N : List Nd} {p : Pt} {s : Nat} {b : Bool} {X : Option Addr} {m c : Nat} {t : ByteArray} {w : World} (h : FdQ N p s b X m c t w) : Rg w s 23 2 (.slice X m c) m := by
  rcases h with ⟨_, _, L, hl, ho, _⟩ | ⟨_, rfl, rfl, rfl, _⟩
  · exact Rg.pts ho (by rw [List.length_map]; exact hl)
  · exact ⟨_, World.ownsRow_nil _ _ _ _⟩
theorem FdQ.len {N : List Nd} {p : Pt} {s : Nat} {b : Bool} {X : Option Addr} {m c : Nat} {t : ByteArray} {w : World} (h : FdQ N p s b X m c t w) (hn : N.length ≤ 24) : m ≤ 1000 := by
  have hm : N.length * N.length ≤ 24 * 24 := Nat.mul_le_mul hn hn
  rcases h with ⟨_, _, L, hl, _, _, _, _, h8⟩ | ⟨_, _, rfl, _⟩ <;> omega
theorem Rg.base {w : World} {B B' e s n : Nat} {v : Value} (h : Rg w B e s v n) (hB : B' ≤ B) : Rg w B' e s v n := by
  obtain ⟨xs, h⟩ := h
  refine ⟨xs, h.1, ?_⟩
  rcases h.2 with h1 | ⟨g, cap, cur, h1, h2, h3⟩
  · exact .inl h1
  · exact .inr ⟨g, cap, cur, h1, by omega, h3⟩
theorem Rg.below {w w' : World} {B b e s n : Nat} {v : Value} (h : Rg w B e s v n) (hb : Below b w w') (hB : w.heap.size ≤ b) : Rg w' B e s v n := h.same fun k hk => hb.block k (by have := (h.lt hk).2; omega)
set_option maxRecDepth 100000 in
set_option maxHeartbeats 12800000 in
theorem own_walk (zs : List Ty) (A : Option Addr) (len cap : Nat) (x0 x1 : Int) (w : World) (hT : Tl w A len cap zs) :
    Calls Try.prog 14 #[.slice A len cap, .agg #[.int .i64 x0, .int .i64 x1]] w fun e w' => e = .returned (.bool true) ∧ Below w.heap.size w w' := by
  obtain ⟨W, hW⟩ : ∃ W, W = w.alloc (.cells #[.int .i64 x0, .int .i64 x1] 23) := ⟨_, rfl⟩
  have hb : Below w.heap.size w W := by rw [hW]; exact (Below.refl _ w).alloc (Nat.le_refl _) _
  have hbx : W.heap[w.heap.size]? = some (.cells #[.int .i64 x0, .int .i64 x1] 23 (0, 0)) := by rw [hW]; exact heap_alloc_new _ _
  have hsz : w.heap.size < W.heap.size := by rw [hW]; simp
  have HTM : Hid (Calls Try.prog 36 #[.slice A len cap, .int .i64 12] W fun e w' => (∃ B n c N, e = .returned (.slice B n c) ∧ 1 ≤ n ∧ n ≤ 12 ∧ OkN N ∧ Nl w' B n c N ∧ Ow3 w' W.heap.size (.slice B n c) N) ∧ Below W.heap.size W w') := tame_any zs A len cap 12 W (hT.below hb (Nat.le_refl _)) (by omega) (by omega)
  have HB := Lib.hid hb
  have HBX := Lib.hid hbx
  have HW := Lib.hid hW
  have HSZ := Lib.hid hsz
  clear hW hb hbx hT hsz
  go_enter Try.func14, Try.ntmps14
  go_wp2_with (go_at_call 36; rw [← HW.out]; refine HTM.out.mono ?_; rintro e w0 ⟨⟨B, n, c, N, rfl, hn1, hn2, hok, hnl, ho⟩, hb0⟩)
  have HOK := Lib.hid hok
  have hll := hnl.len
  have HOWN : Hid (Calls Try.prog 15 #[.slice B n c] w0 fun e w' => (∃ Y k, e = .returned (.slice Y n k) ∧ Nl w' Y n k N) ∧ Below w0.heap.size w0 w') := by
    refine (own_any (upN N) B n c w0 (hnl.tl hn1)).mono ?_
    rintro e w' ⟨⟨Y, k, c9, rfl, _, htl⟩, hb⟩
    rw [upN_cut (by omega)] at htl
    have e1 : k = n := by rw [← htl.len, upN_len, hll]
    subst e1
    have := htl.nl (valB_up hok (by omega))
    rw [toN_up] at this
    exact ⟨⟨Y, c9, rfl, this⟩, hb⟩
  have HB0 := Lib.hid (HB.out.trans (hb0.mono HB.out.size))
  have hbx0 := (hb0.block _ HSZ.out).trans HBX.out
  have HBX0 := Lib.hid hbx0
  have HNL0 := Lib.hid hnl
  have hll2 := Lib.hid hll
  have HSZ0 : Hid (w.heap.size < w0.heap.size) := (Array.getElem?_eq_some_iff.1 hbx0).1
  clear hb0 hbx0 hnl ho hok hll HTM HB HBX HW HSZ
  refine HOWN.out.mono ?_
  rintro e w1 ⟨⟨Y, ky, rfl, hny⟩, hb1⟩
  have hbx1 := (hb1.block _ HSZ0.out).trans HBX0.out
  have k0 := cell_in hbx1 (i := 0) rfl
  have k1 := cell_in hbx1 (i := 1) rfl
  obtain ⟨p, hp, hmp⟩ := mod_is x0 n hn1 (by omega)
  obtain ⟨q, hq, hmq⟩ := mod_is x1 n hn1 (by omega)
  have HM1 := Lib.hid hmp
  have HM2 := Lib.hid hmq
  have HB1 := Lib.hid (HB0.out.trans (hb1.mono HB0.out.size))
  have HNL1 := Lib.hid (HNL0.out.below hb1 (Nat.le_refl _))
  have HNY1 := Lib.hid hny
  clear hmp hmq hb1 hny hbx1 HOWN HB0 HNL0 HBX0 HSZ0
  go_wp2
  go_quiet (first | (go_at_call 37; (with_reducible exact quiet_same (HM1.out _))) | (go_at_call 37; (with_reducible exact quiet_same (HM2.out _))))
  have HBQ : Hid (Below w.heap.size w (w1.drewN nq)) := below_dn HB1.out _
  have HNQ : Hid (Nl (w1.drewN nq) B n c N) := HNL1.out.below (below_dn (Below.refl _ w1) nq) (Nat.le_refl _)
  have HNY : Hid (Nl (w1.drewN nq) Y n ky N) := HNY1.out.below (below_dn (Below.refl _ w1) nq) (Nat.le_refl _)
  generalize w1.drewN nq = w2 at *
  clear k0 k1 HB1 HNL1 HNY1 HM1 HM2
  have HLN : Hid (N.length = n) := hll2
  have HSUB : Hid (∀ V, Below w2.heap.size w2 V → Calls Try.prog 16 #[.slice B n c, .int .i64 (p : Int), .int .i64 (q : Int)] V fun e w' => (∃ b X m d t, e = .returned (.tuple #[.agg #[.bool b, .slice X m d, .string t], .int .i64 0]) ∧ FdQ N (p, q) V.heap.size b X m d t w') ∧ Below V.heap.size V w') := fun V h => sub_at N B n c p q V (HNQ.out.below h (Nat.le_refl _)) HOK.out (by omega) hp hq
  have HCAN : Hid (∀ V, Below w2.heap.size w2 V → Calls Try.prog 24 #[.slice B n c, .int .i64 (p : Int)] V fun e w' => (∃ C m d out, e = .returned (.tuple #[.slice C m d, .int .i64 0]) ∧ IsCan N p out ∧ Nl w' C m d out ∧ Ow3 w' V.heap.size (.slice C m d) out) ∧ Below V.heap.size V w') := fun V h => canon_at N B n c p V (HNQ.out.below h (Nat.le_refl _)) HOK.out (by omega) hp
  have HORD : Hid (∀ V, Below w2.heap.size w2 V → Calls Try.prog 32 #[.slice B n c] V fun e w' => (∃ C m d, e = .returned (.tuple #[.slice C m d, .int .i64 0]) ∧ Rg w' V.heap.size 23 2 (.slice C m d) m ∧ m ≤ 1000) ∧ Below V.heap.size V w') := fun V h => by
    have hl := HLN.out
    refine (order_any (upN N) B n c V ((HNQ.out.below h (Nat.le_refl _)).tl hn1) (valB_up HOK.out (by omega))).mono ?_
    rintro e w' ⟨⟨u, rfl, hu⟩, hb⟩
    have h1 := ordTo_len (subD (toN (upN N))) n n
    have h2 : n * n ≤ 12 * 12 := Nat.mul_le_mul hn2 hn2
    obtain ⟨C, d, rfl, _⟩ := hu.plr (n := (ordTo (subD (toN (upN N))) n n).length) (by rw [List.length_map]) (by omega)
    exact ⟨⟨C, _, d, rfl, Rg.pts hu (by rw [List.length_map]), by omega⟩, hb⟩
  have HK2 : Hid (Below w2.heap.size w2 w2) := Below.refl _ _
  go_wp2_with (first
    | (go_at_call 16; (with_reducible refine (HSUB.out _ HK2.out).mono ?_); rintro e w3 ⟨⟨b, X, m, d, t, rfl, hfd⟩, hb3⟩; have HB3 : Hid (∀ o, Below w2.heap.size w2 (w3.alloc o)) := (fun o => hb3.alloc hb3.size o); have HN3 : Hid (∀ o, (w3.alloc (.cells o 27)).heap[w3.heap.size]? = some (.cells o 27 (0, 0))) := (fun o => heap_alloc_new w3 _); have HRF : Hid (Rg w3 w2.heap.size 23 2 (.slice X m d) m) := hfd.rg; have HSZ3 := Lib.hid hb3.size; have HM1 : Hid (m ≤ 1000) := hfd.len (by rw [HLN.out]; omega); clear hb3 hfd)
    | (go_at_call 24; (with_reducible refine (HCAN.out _ (HB3.out _)).mono ?_); rintro e w5 ⟨⟨C, m2, d2, out, rfl, hci, hnc, how⟩, hb5⟩; have HR5 := Lib.hid ((hb5.block _ (by simp)).trans (HN3.out #[.bool b, .slice X m d, .string t])); have HB5 := Lib.hid ((HB3.out _).trans (hb5.mono (HB3.out _).size)); have HRC := Lib.hid (Rg.nds how hnc.len); have HRF5 := Lib.hid ((HRF.out.below ((Below.refl _ w3).alloc (Nat.le_refl _) _) (Nat.le_refl _)).below hb5 (Nat.le_refl _)); have HM2 : Hid (m2 ≤ 1000) := (by have h := can_len hci HOK.out (by rw [HLN.out]; exact hp); rw [hnc.len, HLN.out] at h; rw [Hid]; omega); have HSZ5 := Lib.hid hb5.size; clear hb5 hci hnc how)
    | (go_at_call 32; refine (HORD.out _ HB5.out).mono ?_; rintro e w6 ⟨⟨E, m3, d3, rfl, hrl, hm3⟩, hb6⟩; have HR6 := Lib.hid ((hb6.block _ (Array.getElem?_eq_some_iff.1 HR5.out).1).trans HR5.out); have HB6 := Lib.hid (HB5.out.trans (hb6.mono HB5.out.size)); have HRC6 := Lib.hid (HRC.out.below hb6 (Nat.le_refl _)); have HRF6 := Lib.hid (HRF5.out.below hb6 (Nat.le_refl _)); have HRL := Lib.hid hrl; have HM3 := Lib.hid hm3; clear hb6 hrl hm3))
  have hz3 := HSZ3.out
  have hz5 : w3.heap.size + 1 ≤ w5.heap.size := by have := HSZ5.out; simp at this; exact this
  have HOV0 : Hid (Ovr N w2 (.slice X m d) (.slice C m2 d2) (.slice E m3 d3) m m2 m3 w3.heap.size #[.bool b, .slice X m d, .string t] w6) := by
    refine ⟨HB6.out, HRF6.out, HRC6.out.base (by simp; omega), HRL.out.base (by omega), HR6.out, fun e => ?_, fun k e => ⟨fun e2 => ?_, fun e2 => ?_⟩, fun k e e2 => ?_⟩
    · have := (HRF.out.lt e).2; omega
    · have h1 := (HRF.out.lt e).2; have h2 := (HRC.out.lt e2).1; simp at h2; omega
    · have h1 := (HRF.out.lt e).2; have h2 := (HRL.out.lt e2).1; omega
    · have h1 := (HRC.out.lt e).2; have h2 := (HRL.out.lt e2).1; omega
  have HGC : Hid (∀ g, (Value.slice C m2 d2).ownBlock = some g → w3.heap.size ≠ g) := fun g e => by have h2 := (HRC.out.lt e).1; simp at h2; omega
  have HGL : Hid (∀ g, (Value.slice E m3 d3).ownBlock = some g → w3.heap.size ≠ g) := fun g e => by have h2 := (HRL.out.lt e).1; omega
  clear HSZ3 HSZ5 hz3 hz5 HB3 HN3 HRF HR5 HB5 HRC HRF5 HR6 HB6 HRC6 HRF6 HRL HORD
  generalize w3.heap.size = r9 at *
  go_loopw [15] (fun kv w' => ∃ k : Nat, k ≤ m ∧ kv = .int .i64 (k : Int) ∧ Hid (Ovr N w2 (.slice X m d) (.slice C m2 d2) (.slice E m3 d3) m m2 m3 r9 #[.bool b, .slice X m d, .string t] w')) (fun kv _ => m - (intOf kv).toNat)
  case atStart => exact ⟨0, by omega, by go_num, HOV0.out⟩
  case round =>
    obtain ⟨k, hk, rfl, HO⟩ := hrel
    obtain ⟨wo, rfl⟩ : ∃ wo : World, wo = wr := ⟨_, rfl⟩
    clear HOV0
    have e1 := cell_in HO.out.r (i := 1) rfl
    have hm := HM1.out
    by_cases hkm : k < m
    · have i1 : (k : Int) < (m : Int) := by omega
      obtain ⟨g, cp, hv, hcp, _, _⟩ := HO.out.f.form (by omega)
      injection hv with h1 _ h3
      subst h1 h3
      obtain ⟨⟨u1, c1⟩, f1⟩ := HO.out.f.cell (j := k * 2) (by omega)
      obtain ⟨⟨u2, c2⟩, f2⟩ := HO.out.f.cell (j := k * 2 + 1) (by omega)
      have HX := Lib.hid ((HO.out.putF (k * 2) (.int .i64 (-1))).putF (k * 2 + 1) (.int .i64 (-1)))
      clear HO
      go_wp2
      exact ⟨⟨k + 1, by omega, by go_num, HX.out⟩, by simp [intOf]; omega⟩
    · have hkm2 : k = m := by omega
      subst hkm2
      have i1 : ¬ (k : Int) < (k : Int) := by omega
      go_wp2
      go_loopw [16] (fun kv w' => ∃ j : Nat, j ≤ m2 ∧ kv = .int .i64 (j : Int) ∧ Hid (Ovr N w2 (.slice X k d) (.slice C m2 d2) (.slice E m3 d3) k m2 m3 r9 #[.bool b, .slice X k d, .string t] w')) (fun kv _ => m2 - (intOf kv).toNat)
      case atStart => exact ⟨0, by omega, by go_num, HO.out⟩
      case round =>
        obtain ⟨j, hj, rfl, HO2⟩ := hrel
        obtain ⟨wi, rfl⟩ : ∃ wo : World, wo = wr := ⟨_, rfl⟩
        clear HO e1
        have hmm := HM2.out
        by_cases hjm : j < m2
        · have i2 : (j : Int) < (m2 : Int) := by omega
          obtain ⟨g, cp, hv, hcp, _, _⟩ := HO2.out.c.form (by omega)
          injection hv with h1 _ h3
          subst h1 h3
          obtain ⟨⟨u1, c1⟩, f1⟩ := HO2.out.c.cell (j := j * 3) (by omega)
          obtain ⟨⟨u2, c2⟩, f2⟩ := HO2.out.c.cell (j := j * 3 + 1) (by omega)
          obtain ⟨⟨u3, c3⟩, f3⟩ := HO2.out.c.cell (j := j * 3 + 2) (by omega)
          have hr9 := HGC.out g rfl
          have HX := Lib.hid (((HO2.out.putC hr9 (j * 3) (.int .i64 9)).putC hr9 (j * 3 + 1) (.int .i64 0)).putC hr9 (j * 3 + 2) (.int .i64 0))
          clear HO2 hr9
          go_wp2
          exact ⟨⟨j + 1, by omega, by go_num, HX.out⟩, by simp [intOf]; omega⟩
        · have hjm2 : j = m2 := by omega
          subst hjm2
          have i2 : ¬ (j : Int) < (j : Int) := by omega
          go_wp2
          go_loopw [17] (fun kv w' => ∃ l : Nat, l ≤ m3 ∧ kv = .int .i64 (l : Int) ∧ Hid (Ovr N w2 (.slice X k d) (.slice C j d2) (.slice E m3 d3) k j m3 r9 #[.bool b, .slice X k d, .string t] w')) (fun kv _ => m3 - (intOf kv).toNat)
          case atStart => exact ⟨0, by omega, by go_num, HO2.out⟩
          case round =>
            obtain ⟨l, hl, rfl, HO3⟩ := hrel
            obtain ⟨wj, rfl⟩ : ∃ wo : World, wo = wr := ⟨_, rfl⟩
            clear HO2
            have hm3 := HM3.out
            by_cases hlm : l < m3
            · have i3 : (l : Int) < (m3 : Int) := by omega
              obtain ⟨g, cp, hv, hcp, _, _⟩ := HO3.out.l.form (by omega)
              injection hv with h1 _ h3
              subst h1 h3
              obtain ⟨⟨u1, c1⟩, f1⟩ := HO3.out.l.cell (j := l * 2) (by omega)
              obtain ⟨⟨u2, c2⟩, f2⟩ := HO3.out.l.cell (j := l * 2 + 1) (by omega)
              have hr9 := HGL.out g rfl
              have HX := Lib.hid ((HO3.out.putL hr9 (l * 2) (.int .i64 (-1))).putL hr9 (l * 2 + 1) (.int .i64 (-1)))
              clear HO3 hr9
              go_wp2
              exact ⟨⟨l + 1, by omega, by go_num, HX.out⟩, by simp [intOf]; omega⟩
            · have hlm2 : l = m3 := by omega
              subst hlm2
              have i3 : ¬ (l : Int) < (l : Int) := by omega
              have HB7 := Lib.hid HO3.out.bl
              have HTX : Hid (∀ V, Below w2.heap.size w2 V → Calls Try.prog 25 #[.slice B n c, .slice Y n ky] V fun e w' => e = .returned (.bool true) ∧ Dr V w') := fun V h => by
                have := types_any N N B Y n c n ky V (HNQ.out.below h (Nat.le_refl _)) (HNY.out.below h (Nat.le_refl _))
                have e2 : eqN N N = true := by unfold eqN; rw [decide_eq_true rfl]
                rw [e2] at this
                exact this
              have HRT : Hid (∀ V b X m d ps t, Below w2.heap.size w2 V → Plr V X m d ps → t.size ≤ 1099511627776 → prB N (p, q) b ps t = true → Calls Try.prog 21 #[.slice Y n ky, .int .i64 (p : Int), .int .i64 (q : Int), .agg #[.bool b, .slice X m d, .string t]] V fun e w' => e = .returned (.bool true) ∧ Below V.heap.size V w') := fun V b X m d ps t hV hP ht hr => right_any N Y n ky p q b X m d ps t V (HNY.out.below hV (Nat.le_refl _)) HOK.out hp hq (by omega) hP ht true hr
              have HCR : Hid (∀ V, Below w2.heap.size w2 V → Calls Try.prog 26 #[.slice Y n ky, .int .i64 (p : Int)] V fun e w' => (∃ B n d out, e = .returned (.slice B n d) ∧ IsCan N p out ∧ Nl w' B n d out) ∧ Below V.heap.size V w') := fun V h => by
                refine (canonR_any N Y n ky p V (HNY.out.below h (Nat.le_refl _)) HOK.out hp (by omega)).mono ?_
                rintro e w' ⟨⟨u, out, rfl, hu, ho⟩, hb⟩
                have hlc := can_len hu HOK.out (by rw [HLN.out]; exact hp)
                rw [HLN.out] at hlc
                obtain ⟨B, d, rfl, hn⟩ := ho.nl (n := out.length) rfl (can_pos hu) (by omega)
                exact ⟨⟨B, _, d, out, rfl, hu, hn⟩, hb⟩
              have HTY : Hid (∀ V A B n c m d N' M, Nl V A n c N' → Nl V B m d M → IsCan N p N' → IsCan N p M → Calls Try.prog 25 #[.slice A n c, .slice B m d] V fun e w' => e = .returned (.bool true) ∧ Dr V w') := fun V A B n' c m d N' M h1 h2 h3 h4 => by
                have e := h3.uniq HOK.out (by rw [HLN.out]; exact hp) h4
                have := types_any N' M A B n' c m d V h1 h2
                rw [e] at this
                have e2 : eqN M M = true := by unfold eqN; rw [decide_eq_true rfl]
                rw [e2] at this
                exact this
              clear HO3 HGC HGL HM1 HM2 HM3 HNQ
              go_wp2_with (first
                | (go_at_call 16; (with_reducible refine (HSUB.out _ HB7.out).mono ?_); rintro e w8 ⟨⟨b8, X8, m8, d8, t8, rfl, hfd⟩, hb8⟩; obtain ⟨ps, hps, hpr⟩ := prB_right hfd (by rw [HLN.out]; omega); have HPS := Lib.hid hps; have HPR := Lib.hid hpr; have HTS : Hid (t8.size ≤ 1099511627776) := hfd.short (by rw [HLN.out]; omega); have HB8 : Hid (∀ o, Below w2.heap.size w2 (w8.alloc o)) := (fun o => (HB7.out.trans (hb8.mono HB7.out.size)).alloc (Nat.le_trans HB7.out.size hb8.size) o); have HN8 : Hid (∀ o, (w8.alloc (.cells o 27)).heap[w8.heap.size]? = some (.cells o 27 (0, 0))) := (fun o => heap_alloc_new w8 _); clear hb8 hps hpr hfd)
                | (go_at_call 24; (with_reducible refine (HCAN.out _ (HB8.out _)).mono ?_); rintro e w9 ⟨⟨C9, m9, d9, out9, rfl, hci9, hnc9, _⟩, hb9⟩; have HR9 := Lib.hid ((hb9.block _ (by simp)).trans (HN8.out #[.bool b8, .slice X8 m8 d8, .string t8])); have HB9 := Lib.hid ((HB8.out _).trans (hb9.mono (HB8.out _).size)); have HP9 := Lib.hid ((HPS.out.below ((Below.refl _ w8).alloc (Nat.le_refl _) _) (Nat.le_refl _)).below hb9 (Nat.le_refl _)); have HC9 := Lib.hid hci9; have HL9 := Lib.hid hnc9; clear hb9 hci9 hnc9)
                | (go_at_call 25; (with_reducible refine (HTX.out _ HB9.out).mono ?_); rintro e wa ⟨rfl, hda⟩; have hka := hda.below w9.heap.size; have hfa := (hka.block _ (Array.getElem?_eq_some_iff.1 HR9.out).1).trans HR9.out; have g0 := cell_in hfa (i := 0) rfl; have g1 := cell_in hfa (i := 1) rfl; have g2 := cell_in hfa (i := 2) rfl; have HBA := Lib.hid (HB9.out.trans (hka.mono HB9.out.size)); have HPA := Lib.hid (HP9.out.below hka (Nat.le_refl _)); have HLA := Lib.hid (HL9.out.below hka (Nat.le_refl _)); clear hda hka hfa)
                | (go_at_call 21; refine (HRT.out _ _ _ _ _ _ _ HBA.out HPA.out HTS.out HPR.out).mono ?_; rintro e wb ⟨rfl, hbb⟩; have HBB := Lib.hid (HBA.out.trans (hbb.mono HBA.out.size)); have HLB := Lib.hid (HLA.out.below hbb (Nat.le_refl _)); clear hbb g0 g1 g2)
                | (go_at_call 26; refine (HCR.out _ HBB.out).mono ?_; rintro e wc ⟨⟨Cc, mc, dc, oc, rfl, hcc, hlc⟩, hbc⟩; have HBC := Lib.hid (HBB.out.trans (hbc.mono HBB.out.size)); have HLC := Lib.hid (HLB.out.below hbc (Nat.le_refl _)); have HCC := Lib.hid hcc; have HLCC := Lib.hid hlc; clear hbc hcc hlc)
                | (go_at_call 25; (with_reducible refine (HTY.out _ _ _ _ _ _ _ _ _ HLC.out HLCC.out HC9.out HCC.out).mono ?_); rintro e wd ⟨rfl, hdd⟩; have HBD := Lib.hid (HBC.out.trans ((hdd.below wc.heap.size).mono HBC.out.size)); clear hdd)
                | (go_at_call 19; refine (awake_here _).mono ?_; rintro e we ⟨rfl, hbe⟩))
              go_ret
              exact ⟨rfl, HBQ.out.trans ((HBD.out.trans (hbe.mono HBD.out.size)).mono HBQ.out.size)⟩
end Go.Proofs.Ytieaolihdbcekaa
