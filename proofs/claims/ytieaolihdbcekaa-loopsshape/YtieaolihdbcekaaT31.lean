import Derived.Test.YtieaolihdbcekaaT30
import Derived.Test.YtieaolihdbcekaaT19
import Derived.Test.YtieaolihdbcekaaT10
/- Layer 6: the walk of LoopsShape. -/
namespace Go.Proofs.Ytieaolihdbcekaa
open Go.RowKit
set_option linter.unusedVariables false

set_option maxRecDepth 100000 in
set_option maxHeartbeats 12800000 in
theorem shape_walk (zs : List Ty) (A : Option Addr) (len cap : Nat) (x0 x1 : Int) (w : World) (hT : Tl w A len cap zs) :
    Calls Try.prog 10 #[.slice A len cap, .agg #[.int .i64 x0, .int .i64 x1]] w fun e w' => e = .returned (.bool true) ∧ Below w.heap.size w w' := by
  obtain ⟨W, hW⟩ : ∃ W, W = w.alloc (.cells #[.int .i64 x0, .int .i64 x1] 23) := ⟨_, rfl⟩
  have hb : Below w.heap.size w W := by rw [hW]; exact (Below.refl _ w).alloc (Nat.le_refl _) _
  have hbx : W.heap[w.heap.size]? = some (.cells #[.int .i64 x0, .int .i64 x1] 23 (0, 0)) := by rw [hW]; exact heap_alloc_new _ _
  have hsz : w.heap.size < W.heap.size := by rw [hW]; simp
  have HTM : Hid (Calls Try.prog 36 #[.slice A len cap, .int .i64 12] W fun e w' => (∃ B n c N, e = .returned (.slice B n c) ∧ 1 ≤ n ∧ n ≤ 12 ∧ OkN N ∧ Nl w' B n c N ∧ Ow3 w' W.heap.size (.slice B n c) N) ∧ Below W.heap.size W w') := tame_any zs A len cap 12 W (hT.below hb (Nat.le_refl _)) (by omega) (by omega)
  have HB := Lib.hid hb
  have HBX := Lib.hid hbx
  have HW := Lib.hid hW
  clear hW hb hbx hT
  go_enter Try.func10, Try.ntmps10
  go_wp2_with (go_at_call 36; rw [← HW.out]; refine HTM.out.mono ?_; rintro e w1 ⟨⟨B, n, c, N, rfl, hn1, hn2, hok, hnl, ho⟩, hb1⟩)
  have hbx1 := (hb1.block _ hsz).trans HBX.out
  have k0 := cell_in hbx1 (i := 0) rfl
  have k1 := cell_in hbx1 (i := 1) rfl
  obtain ⟨p, hp, hmp⟩ := mod_is x0 n hn1 (by omega)
  obtain ⟨q, hq, hmq⟩ := mod_is x1 n hn1 (by omega)
  have HM1 := Lib.hid hmp
  have HM2 := Lib.hid hmq
  have HB1 := Lib.hid (HB.out.trans (hb1.mono HB.out.size))
  have HOK := Lib.hid hok
  have HNL := Lib.hid hnl
  clear hmp hmq hb1 hok hnl ho hbx1 HTM HB HBX HW hsz
  go_quiet (first | (go_at_call 37; (with_reducible exact quiet_same (HM1.out _))) | (go_at_call 37; (with_reducible exact quiet_same (HM2.out _))))
  have HBQ : Hid (Below w.heap.size w (w1.drewN nq)) := below_dn HB1.out _
  have HNQ : Hid (Nl (w1.drewN nq) B n c N) := HNL.out.below (below_dn (Below.refl _ w1) nq) (Nat.le_refl _)
  generalize w1.drewN nq = w2 at *
  clear k0 k1 HB1 HNL HM1 HM2
  have HLN : Hid (N.length = n) := HNQ.out.len
  have HCI : Hid (Calls Try.prog 24 #[.slice B n c, .int .i64 (p : Int)] w2 fun e w' => (∃ C m d out, e = .returned (.tuple #[.slice C m d, .int .i64 0]) ∧ IsCan N p out ∧ Nl w' C m d out ∧ Ow3 w' w2.heap.size (.slice C m d) out) ∧ Below w2.heap.size w2 w') := canon_at N B n c p w2 HNQ.out HOK.out (by omega) hp
  have HCJ : Hid (∀ W, Below w2.heap.size w2 W → Calls Try.prog 24 #[.slice B n c, .int .i64 (q : Int)] W fun e w' => (∃ C m d out, e = .returned (.tuple #[.slice C m d, .int .i64 0]) ∧ IsCan N q out ∧ Nl w' C m d out ∧ Ow3 w' W.heap.size (.slice C m d) out) ∧ Below W.heap.size W w') := fun W h => canon_at N B n c q W (HNQ.out.below h (Nat.le_refl _)) HOK.out (by omega) hq
  have HTYR : Hid (∀ W C m d out, Nl W C m d out → OkN out → m ≤ n → Calls Try.prog 33 #[.slice C m d, .int .i64 (n : Int)] W fun e w' => e = .returned (.bool true) ∧ Below W.heap.size W w') := fun W C m d out hnl hok hm => by
    have h := typesR_any (upN out) C m d n W (hnl.tl (by rw [← hnl.len]; exact hok.pos)) (by omega)
    rw [typB_up hok (by rw [hnl.len]; exact hm)] at h
    exact h
  have HEQ : Hid (∀ W, Below w2.heap.size w2 W → Calls Try.prog 23 #[.slice B n c, .int .i64 (p : Int), .int .i64 (q : Int)] W fun e w' => (∃ b, e = .returned (.tuple #[.bool b, .int .i64 0]) ∧ (b = true ↔ EqT N (p, q))) ∧ Below W.heap.size W w') := fun W h => equal_at' N B n c p q W (HNQ.out.below h (Nat.le_refl _)) HOK.out (by omega) hp hq
  go_wp2_with (go_at_call 24; (with_reducible refine HCI.out.mono ?_); rintro e w3 ⟨⟨C, m, d, out, rfl, hci, hnlc, how⟩, hb3⟩; have HB3 := Lib.hid hb3; have HCAN := Lib.hid hci; have HNC := Lib.hid hnlc; clear hb3 hci hnlc how)
  refine (HCJ.out _ HB3.out).mono ?_
  rintro e w4 ⟨⟨D, m2, d2, out2, rfl, hcj, hnld, how⟩, hb4⟩
  have HB4 := Lib.hid (HB3.out.trans (hb4.mono HB3.out.size))
  have HNC4 := Lib.hid (HNC.out.below hb4 (Nat.le_refl _))
  have HND := Lib.hid hnld
  have HCAN2 := Lib.hid hcj
  clear hb4 hcj hnld how HNC HB3
  obtain ⟨cl, L, hrep⟩ := can_rep HCAN.out HOK.out (by rw [HLN.out]; exact hp)
  obtain ⟨cl2, L2, hrep2⟩ := can_rep HCAN2.out HOK.out (by rw [HLN.out]; exact hq)
  have HOKC := Lib.hid (hrep.ok HOK.out)
  have HOKD := Lib.hid (hrep2.ok HOK.out)
  have HLC : Hid (out.length = m) := HNC4.out.len
  have HLD : Hid (out2.length = m2) := HND.out.len
  have hmn : m ≤ n := by
    have := can_len HCAN.out HOK.out (by rw [HLN.out]; exact hp)
    rw [HLC.out, HLN.out] at this
    exact this
  have hmn2 : m2 ≤ n := by
    have := can_len HCAN2.out HOK.out (by rw [HLN.out]; exact hq)
    rw [HLD.out, HLN.out] at this
    exact this
  have hm1 : 0 < m := by rw [← HLC.out]; exact can_pos HCAN.out
  have HAG := Lib.hid (hrep.again HOK.out (by rw [HLN.out]; exact hp))
  have HINJ : Hid (∀ a b, a < m → b < m → b < a → ¬ EqT out (a, b)) := fun a b ha hb hba he => by
    have := hrep.inj HOK.out (by rw [HLC.out]; exact ha) (by rw [HLC.out]; exact hb) he
    omega
  have HJO := Lib.hid (hrep.join HOK.out (by rw [HLN.out]; exact hp))
  have HIFF : Hid (∀ b : Bool, (b = true ↔ EqT N (p, q)) → b = eqN out out2) := fun b hb => by
    rw [Bool.eq_iff_iff, hb]
    unfold eqN
    rw [decide_eq_true_iff]
    constructor
    · intro h
      have h2 := can_of_eq (by rw [HLN.out]; exact hp) (by rw [HLN.out]; exact hq) h HCAN.out
      exact h2.uniq HOK.out (by rw [HLN.out]; exact hq) HCAN2.out
    · intro h
      have h2 := HCAN2.out
      rw [← h] at h2
      exact can_eq HOK.out (by rw [HLN.out]; exact hp) (by rw [HLN.out]; exact hq) HCAN.out h2
  clear hrep hrep2
  have HCA : Hid (∀ W, Below w4.heap.size w4 W → Calls Try.prog 24 #[.slice C m d, .int .i64 0] W fun e w' => (∃ E d3, e = .returned (.tuple #[.slice E m d3, .int .i64 0]) ∧ Nl w' E m d3 out) ∧ Below W.heap.size W w') := fun W h => by
    refine (canon_at out C m d 0 W (HNC4.out.below h (Nat.le_refl _)) HOKC.out (by omega) hm1).mono ?_
    rintro e w' ⟨⟨E, m3, d3, out3, rfl, hc3, hnl3, _⟩, hb⟩
    have e3 := hc3.uniq HOKC.out (by rw [HLC.out]; exact hm1) HAG.out
    subst e3
    have : m3 = m := by rw [← hnl3.len, HLC.out]
    subst this
    exact ⟨⟨E, d3, rfl, hnl3⟩, hb⟩
  have HEC : Hid (∀ W a b, Below w4.heap.size w4 W → a < m → b < a → Calls Try.prog 23 #[.slice C m d, .int .i64 (a : Int), .int .i64 (b : Int)] W fun e w' => e = .returned (.tuple #[.bool false, .int .i64 0]) ∧ Below W.heap.size W w') := fun W a b h ha hb => by
    refine (equal_at' out C m d a b W (HNC4.out.below h (Nat.le_refl _)) HOKC.out (by omega) ha (by omega)).mono ?_
    rintro e w' ⟨⟨r, rfl, hr⟩, hb'⟩
    have : r = false := by
      rw [Bool.eq_false_iff]
      intro e
      exact HINJ.out a b ha (by omega) hb (hr.1 e)
    subst this
    exact ⟨rfl, hb'⟩
  have HJN : Hid (∀ W, Below w4.heap.size w4 W → Calls Try.prog 39 #[.slice B n c, .slice C m d] W fun e w' => (∃ Y k, e = .returned (.slice Y (n + m) k) ∧ Nl w' Y (n + m) k (joinN N out)) ∧ Below W.heap.size W w') := fun W h => joined_any N out B C n c m d W (HNQ.out.below (HB4.out.trans (h.mono HB4.out.size)) (Nat.le_refl _)) (HNC4.out.below h (Nat.le_refl _)) HOK.out HOKC.out (by omega) (by omega)
  have HEJ : Hid (∀ W Y k, Nl W Y (n + m) k (joinN N out) → Calls Try.prog 23 #[.slice Y (n + m) k, .int .i64 (p : Int), .int .i64 (n : Int)] W fun e w' => e = .returned (.tuple #[.bool true, .int .i64 0]) ∧ Below W.heap.size W w') := fun W Y k h => by
    refine (equal_at' (joinN N out) Y (n + m) k p n W h (joinN_ok HOK.out HOKC.out) (by omega) (by omega) (by omega)).mono ?_
    rintro e w' ⟨⟨r, rfl, hr⟩, hb'⟩
    have hj := HJO.out
    rw [HLN.out] at hj
    have : r = true := hr.2 hj
    subst this
    exact ⟨rfl, hb'⟩
  have HTSA : Hid (∀ W E d3, Below w4.heap.size w4 W → Nl W E m d3 out → Calls Try.prog 25 #[.slice E m d3, .slice C m d] W fun e w' => e = .returned (.bool true) ∧ Dr W w') := fun W E d3 h hE => by
    have := types_any out out E C m d3 m d W hE (HNC4.out.below h (Nat.le_refl _))
    have e2 : eqN out out = true := by unfold eqN; rw [decide_eq_true rfl]
    rw [e2] at this
    exact this
  have HTSB : Hid (∀ W b, Below w4.heap.size w4 W → (b = true ↔ EqT N (p, q)) → Calls Try.prog 25 #[.slice C m d, .slice D m2 d2] W fun e w' => e = .returned (.bool b) ∧ Dr W w') := fun W b h hb => by
    have := types_any out out2 C D m d m2 d2 W (HNC4.out.below h (Nat.le_refl _)) (HND.out.below h (Nat.le_refl _))
    rw [← HIFF.out b hb] at this
    exact this
  have HK4 : Hid (Below w4.heap.size w4 w4) := Below.refl _ _
  have HTC := Lib.hid (HTYR.out w4 C m d out HNC4.out HOKC.out hmn)
  have HTD : Hid (∀ W, Below w4.heap.size w4 W → Calls Try.prog 33 #[.slice D m2 d2, .int .i64 (n : Int)] W fun e w' => e = .returned (.bool true) ∧ Below W.heap.size W w') := fun W h => HTYR.out W D m2 d2 out2 (HND.out.below h (Nat.le_refl _)) HOKD.out hmn2
  have HEQ4 : Hid (∀ W, Below w4.heap.size w4 W → Calls Try.prog 23 #[.slice B n c, .int .i64 (p : Int), .int .i64 (q : Int)] W fun e w' => (∃ b, e = .returned (.tuple #[.bool b, .int .i64 0]) ∧ (b = true ↔ EqT N (p, q))) ∧ Below W.heap.size W w') := fun W h => HEQ.out W (HB4.out.trans (h.mono HB4.out.size))
  have HBF : Hid (Below w.heap.size w w4) := HBQ.out.trans (HB4.out.mono HBQ.out.size)
  clear HCI HCJ HTYR HEQ HCAN HCAN2 HAG HINJ HJO HIFF HND HOKD HLD HBQ hmn2
  go_wp2_with (first
    | (go_at_call 33; (with_reducible refine HTC.out.mono ?_); rintro e w5 ⟨rfl, hb5⟩; have HB5 := Lib.hid hb5; clear hb5)
    | (go_at_call 33; (with_reducible refine (HTD.out _ HB5.out).mono ?_); rintro e w6 ⟨rfl, hb6⟩; have HB6 := Lib.hid (HB5.out.trans (hb6.mono HB5.out.size)); clear hb6)
    | (go_at_call 24; (with_reducible refine (HCA.out _ HB6.out).mono ?_); rintro e w7 ⟨⟨E, d3, rfl, hnl3⟩, hb7⟩; have HB7 := Lib.hid (HB6.out.trans (hb7.mono HB6.out.size)); have HN3 := Lib.hid hnl3; clear hb7 hnl3)
    | (go_at_call 23; (with_reducible refine (HEQ4.out _ HB7.out).mono ?_); rintro e w8 ⟨⟨b8, rfl, hb8i⟩, hb8⟩; have HB8 := Lib.hid (HB7.out.trans (hb8.mono HB7.out.size)); have HN8 := Lib.hid (HN3.out.below hb8 (Nat.le_refl _)); have HI8 := Lib.hid hb8i; have hb88 : (b8 != b8) = false := (by simp); clear hb8 hb8i)
    | (go_at_call 25; (with_reducible refine (HTSA.out _ _ _ HB8.out HN8.out).mono ?_); rintro e w9 ⟨rfl, hd9⟩; have HB9 : Hid (Below w4.heap.size w4 w9) := HB8.out.trans ((hd9.below w8.heap.size).mono HB8.out.size); clear hd9)
    | (go_at_call 25; (with_reducible refine (HTSB.out _ b8 HB9.out HI8.out).mono ?_); rintro e w10 ⟨rfl, hd10⟩; have HB10 : Hid (Below w4.heap.size w4 w10) := HB9.out.trans ((hd10.below w9.heap.size).mono HB9.out.size); clear hd10))
  clear HCA HTSA HTSB HTC HTD HEQ4 HB5 HB6 HB7 HB8 HB9 HN3 HN8 HI8
  go_loopw [16] (fun iv w' => ∃ a : Nat, a ≤ m ∧ iv = .int .i64 (a : Int) ∧ Hid (Below w4.heap.size w4 w')) (fun iv _ => m - (intOf iv).toNat)
  case atStart => exact ⟨0, by omega, by go_num, HB10.out⟩
  case round =>
    obtain ⟨a, ha, rfl, HBa⟩ := hrel
    obtain ⟨wo, rfl⟩ : ∃ wo : World, wo = wr := ⟨_, rfl⟩
    clear HB10
    by_cases ham : a < m
    · have i1 : (a : Int) < (m : Int) := by omega
      go_wp2
      go_loopw [17] (fun iv w' => ∃ b : Nat, b ≤ a ∧ iv = .int .i64 (b : Int) ∧ Hid (Below w4.heap.size w4 w')) (fun iv _ => a - (intOf iv).toNat)
      case atStart => exact ⟨0, by omega, by go_num, HBa.out⟩
      case round =>
        obtain ⟨b, hb, rfl, HBb⟩ := hrel
        obtain ⟨wi, rfl⟩ : ∃ wo : World, wo = wr := ⟨_, rfl⟩
        clear HBa
        by_cases hba : b < a
        · have i2 : (b : Int) < (a : Int) := by omega
          have HE := Lib.hid (HEC.out wi a b HBb.out ham hba)
          go_wp2_with (go_at_call 23; (with_reducible refine HE.out.mono ?_); rintro e wj ⟨rfl, hbj⟩; have HBJ := Lib.hid (HBb.out.trans (hbj.mono HBb.out.size)); clear hbj)
          exact ⟨⟨b + 1, by omega, by go_num, HBJ.out⟩, by simp [intOf]; omega⟩
        · have i2 : ¬ (b : Int) < (a : Int) := by omega
          go_wp2
          exact ⟨⟨a + 1, by omega, by go_num, HBb.out⟩, by simp [intOf]; omega⟩
    · have i1 : ¬ (a : Int) < (m : Int) := by omega
      go_wp2_with (first
        | (go_at_call 39; refine (HJN.out _ HBa.out).mono ?_; rintro e wa ⟨⟨Y, k, rfl, hnlj⟩, hba⟩; have HBB := Lib.hid (HBa.out.trans (hba.mono HBa.out.size)); have HNJ := Lib.hid hnlj; clear hba hnlj)
        | (go_at_call 23; refine (HEJ.out _ _ _ HNJ.out).mono ?_; rintro e wb ⟨rfl, hbb⟩; have HBC := Lib.hid (HBB.out.trans (hbb.mono HBB.out.size)); clear hbb)
        | (go_at_call 19; refine (awake_here _).mono ?_; rintro e wc ⟨rfl, hbc⟩))
      go_ret
      exact ⟨rfl, HBF.out.trans ((HBC.out.trans (hbc.mono HBC.out.size)).mono HBF.out.size)⟩
end Go.Proofs.Ytieaolihdbcekaa
