import Derived.Test.YtmnnehpoaedifaaJ17
import Derived.Test.YtmnnehpoaedifaaJ10
import Derived.Test.YtmnnehpoaedifaaJ00
/- The promise of package shunt: CheckStack. -/
namespace Go.Proofs.Ytmnnehpoaedifaa
open Go.RowKit

theorem sblock_len {o b : List Int} (h : sblockB o b = true) : b.length = 3 ∧ 0 < o.length := by
  rw [sblock_pos] at h
  simp only [Bool.and_eq_true] at h
  obtain ⟨h1, h2⟩ := posB_at h.1
  refine ⟨by omega, ?_⟩
  have := h2 0 (by omega)
  omega

set_option maxHeartbeats 1600000 in
theorem checkStack_ok : CheckStackOk := by
  intro A B n c m d o b p w hs hl hp hm
  have H1 := Lib.hid (isOrder_any A n c o w hs)
  have HS := Lib.hid hs; clear hs
  have HL := Lib.hid hl; clear hl
  cases ho : ordB o 60 with
  | false =>
    rw [ho] at H1
    have HR : Hid (checkStackOf o p b = 2) := by unfold checkStackOf; rw [Hid, if_pos ho]
    clear ho
    go_enter Try.func21, Try.ntmps21
    go_wp2_with (go_at_call 52; refine H1.out.mono ?_; clear H1; rintro e w1 ⟨rfl, hb1⟩)
    go_ret
    exact ⟨iend HR.out.symm, hb1⟩
  | true =>
    rw [ho] at H1
    obtain ⟨hord, h60⟩ := ordB_iff.1 ho
    have hn : n ≤ 60 := by rw [HS.out.len] at h60; omega
    clear h60 hord
    have HR0 : Hid (checkStackOf o p b = if (planB o p.data.toList = true ∧ b.length = 0) ∨ (p.size = 0 ∧ 0 < o.length ∧ sblockB o b = true) then 0 else 10) := by unfold checkStackOf; rw [Hid, if_neg (by rw [ho]; simp)]
    clear ho
    have HPL : Hid (∀ W, Below w.heap.size w W → Calls Try.prog 56 #[.slice A n c, .string p] W fun e w' => e = .returned (.bool (planB o p.data.toList)) ∧ Below w.heap.size w w') := fun W h =>
      (planSortsL_any A n c o p W (HS.out.below h (Nat.le_refl _)) hn hp).mono fun e w' ⟨he, hb⟩ => ⟨he, h.trans (hb.mono h.size)⟩
    have HBK : Hid (∀ W, Below w.heap.size w W → Calls Try.prog 57 #[.slice A n c, .slice B m d] W fun e w' => e = .returned (.bool (sblockB o b)) ∧ Below w.heap.size w w') := fun W h =>
      (isBlock_any A B n c m d o b W (HS.out.below h (Nat.le_refl _)) (HL.out.below h (Nat.le_refl _)) (by omega) hm).mono fun e w' ⟨he, hb⟩ => ⟨he, h.trans (hb.below _)⟩
    have hbl := HL.out.len
    by_cases hm0 : m = 0
    · subst hm0
      have hsf : sblockB o b = false := by
        cases h : sblockB o b with
        | false => rfl
        | true => have := (sblock_len h).1; omega
      cases hpl : planB o p.data.toList with
      | true =>
        have HR : Hid (checkStackOf o p b = 0) := by rw [Hid, HR0.out, if_pos (.inl ⟨hpl, hbl⟩)]
        rw [hpl] at HPL
        clear hpl hsf hbl
        go_enter Try.func21, Try.ntmps21
        go_wp2_with (first | (go_at_call 52; refine H1.out.mono ?_; clear H1; rintro e w1 ⟨rfl, hb1⟩) | (go_at_call 56; refine (HPL.out _ hb1).mono ?_; clear HPL; rintro e w2 ⟨rfl, hb2⟩))
        go_ret
        exact ⟨iend HR.out.symm, hb2⟩
      | false =>
        have HR : Hid (checkStackOf o p b = 10) := by rw [Hid, HR0.out, if_neg (by rintro (h | h); rw [hpl] at h; cases h.1; rw [hsf] at h; cases h.2.2)]
        rw [hpl] at HPL
        rw [hsf] at HBK
        clear hpl hsf hbl
        by_cases hp0 : p = ⟨#[]⟩
        · subst hp0
          go_enter Try.func21, Try.ntmps21
          go_wp2_with (first | (go_at_call 52; refine H1.out.mono ?_; clear H1; rintro e w1 ⟨rfl, hb1⟩) | (go_at_call 56; refine (HPL.out _ hb1).mono ?_; clear HPL; rintro e w2 ⟨rfl, hb2⟩) | (go_at_call 57; refine (HBK.out _ hb2).mono ?_; clear HBK; rintro e w3 ⟨rfl, hb3⟩))
          go_ret
          exact ⟨iend HR.out.symm, hb3⟩
        · have gp : p.toList.isEmpty = false := by
              rw [ByteArray.toList_eq, Bool.eq_false_iff]
              intro h
              exact hp0 (ByteArray.ext (Array.toList_inj.1 (List.isEmpty_iff.1 h)))
          go_enter Try.func21, Try.ntmps21
          go_wp2_with (first | (go_at_call 52; refine H1.out.mono ?_; clear H1; rintro e w1 ⟨rfl, hb1⟩) | (go_at_call 56; refine (HPL.out _ hb1).mono ?_; clear HPL; rintro e w2 ⟨rfl, hb2⟩))
          go_ret
          exact ⟨iend HR.out.symm, hb2⟩
    · have gm : ((m : Int) == 0) = false := by simp; omega
      by_cases hp0 : p = ⟨#[]⟩
      · subst hp0
        cases hsb : sblockB o b with
        | true =>
          have HR : Hid (checkStackOf o ⟨#[]⟩ b = 0) := by rw [Hid, HR0.out, if_pos (.inr ⟨rfl, (sblock_len hsb).2, hsb⟩)]
          rw [hsb] at HBK
          clear hsb hbl
          go_enter Try.func21, Try.ntmps21
          go_wp2_with (first | (go_at_call 52; refine H1.out.mono ?_; clear H1; rintro e w1 ⟨rfl, hb1⟩) | (go_at_call 57; refine (HBK.out _ hb1).mono ?_; clear HBK; rintro e w3 ⟨rfl, hb3⟩))
          go_ret
          exact ⟨iend HR.out.symm, hb3⟩
        | false =>
          have HR : Hid (checkStackOf o ⟨#[]⟩ b = 10) := by rw [Hid, HR0.out, if_neg (by rintro (h | h); omega; rw [hsb] at h; cases h.2.2)]
          rw [hsb] at HBK
          clear hsb hbl
          go_enter Try.func21, Try.ntmps21
          go_wp2_with (first | (go_at_call 52; refine H1.out.mono ?_; clear H1; rintro e w1 ⟨rfl, hb1⟩) | (go_at_call 57; refine (HBK.out _ hb1).mono ?_; clear HBK; rintro e w3 ⟨rfl, hb3⟩))
          go_ret
          exact ⟨iend HR.out.symm, hb3⟩
      · have gp : p.toList.isEmpty = false := by
            rw [ByteArray.toList_eq, Bool.eq_false_iff]
            intro h
            exact hp0 (ByteArray.ext (Array.toList_inj.1 (List.isEmpty_iff.1 h)))
        have hps : p.size ≠ 0 := fun h => hp0 (ByteArray.ext (Array.eq_empty_of_size_eq_zero h))
        have HR : Hid (checkStackOf o p b = 10) := by rw [Hid, HR0.out, if_neg (by rintro (h | h); omega; exact hps h.1)]
        clear hps hbl
        go_enter Try.func21, Try.ntmps21
        go_wp2_with (go_at_call 52; refine H1.out.mono ?_; clear H1; rintro e w1 ⟨rfl, hb1⟩)
        go_ret
        exact ⟨iend HR.out.symm, hb1⟩
end Go.Proofs.Ytmnnehpoaedifaa
/- The law ShuntStack, from what the program's functions promise. -/
namespace Go.Proofs.Ytmnnehpoaedifaa
open Go.RowKit

theorem stack_bad (hA : AwakeOk) (hS : StackOk) (hC : CheckStackOk) (A : Option Addr) (n c : Nat) (zs : List Int) (w : World) (hs : Sl w A n c zs) (m : Nat) (o : List Int) (hm : m = min n 61) (hoe : o = zs.take 61) (hlen : o.length = m) (hm61 : m ≤ 61)
    (hbe : false = ordB o 60) :
    Calls Try.prog 3 #[.slice A n c] w fun e w' => e = .returned (.bool true) ∧ Below w.heap.size w w' := by
  have HA := Lib.hid hA; clear hA
  have HS := Lib.hid hS; clear hS
  have HC := Lib.hid hC; clear hC
  have HL := Lib.hid (list_sl A n c zs w hs m o hm hoe); clear hs hm hoe
  have HBE := Lib.hid hbe; clear hbe
  go_enter Try.func3, Try.ntmps3
  go_wp2_with (go_at_call 18; refine HL.out.mono ?_; rintro e w1 ⟨B, d, rfl, hsl, hb1⟩)
  have HK : ∀ (u : World) (B B' : Option Addr) (d d' : Nat), Sl u B m d o → Sl u B' 0 d' [] → Hid (Calls Try.prog 21 #[.slice B m d, .string ⟨#[]⟩, .slice B' 0 d'] u fun e w' => e = .returned (.int .i64 2) ∧ Below u.heap.size u w') := fun u B B' d d' h1 h2 => by
    have h := HC.out B B' m d 0 d' o [] ⟨#[]⟩ u h1 h2 (by decide) (by omega)
    rw [show checkStackOf o ⟨#[]⟩ [] = 2 from by unfold checkStackOf; rw [if_pos HBE.out.symm]] at h
    exact h
  go_wp2_with (go_at_call 19; refine (HS.out B m d o w1 hsl).mono ?_; rintro e w2 ⟨p, v, x, b, rfl, ho, z0, z1, h1, z2, z3, hb2⟩; clear z0 z1 z2 z3; obtain ⟨rfl, rfl, rfl⟩ := h1 HBE.out.symm; clear h1; obtain ⟨B', d', rfl, hv2⟩ := ho.sl_len (n := 0) rfl (by omega))
  have hsl2 := hsl.below hb2 (Nat.le_refl _)
  have HO := Lib.hid (order_sl B m d o w2 hsl2 (by omega) false HBE.out)
  go_wp2_with (go_at_call 20; refine HO.out.mono ?_; rintro e w3 ⟨rfl, hb3⟩)
  have hsl3 := hsl2.below hb3 (Nat.le_refl _)
  have hv3 := hv2.below hb3 (Nat.le_refl _)
  go_wp2_with (first | (go_at_call 21; refine (HK w3 B B' d d' hsl3 hv3).out.mono ?_; rintro e w4 ⟨rfl, hb4⟩) | (go_at_call 22; refine (HA.out _).mono ?_; rintro e w5 ⟨rfl, hb5⟩))
  go_ret
  exact ⟨rfl, (((Kp.call hb1 hb2).call hb3).call hb4).call hb5⟩
theorem stack_one (hA : AwakeOk) (hS : StackOk) (hC : CheckStackOk) (A : Option Addr) (n c : Nat) (zs : List Int) (w : World) (hs : Sl w A n c zs) (m : Nat) (o : List Int) (hm : m = min n 61) (hoe : o = zs.take 61) (hlen : o.length = m) (hm61 : m ≤ 61)
    (hbe : true = ordB o 60) (hge : true = ascB (passOf o)) :
    Calls Try.prog 3 #[.slice A n c] w fun e w' => e = .returned (.bool true) ∧ Below w.heap.size w w' := by
  have HA := Lib.hid hA; clear hA
  have HS := Lib.hid hS; clear hS
  have HC := Lib.hid hC; clear hC
  have HL := Lib.hid (list_sl A n c zs w hs m o hm hoe); clear hs hm hoe
  have HBE := Lib.hid hbe; clear hbe
  have HGE := Lib.hid hge; clear hge
  go_enter Try.func3, Try.ntmps3
  go_wp2_with (go_at_call 18; refine HL.out.mono ?_; rintro e w1 ⟨B, d, rfl, hsl, hb1⟩)
  go_wp2_with (go_at_call 19; refine (HS.out B m d o w1 hsl).mono ?_; rintro e w2 ⟨p, v, x, b, rfl, ho, hp, z1, z2, h1, z3, hb2⟩; clear z1 z2 z3; obtain ⟨hpl, rfl, rfl⟩ := h1 HBE.out.symm HGE.out.symm; clear h1; have HPL := Lib.hid hpl; clear hpl; obtain ⟨B', d', rfl, hv2⟩ := ho.sl_len (n := 0) rfl (by omega))
  have hsl2 := hsl.below hb2 (Nat.le_refl _)
  have HO := Lib.hid (order_sl B m d o w2 hsl2 (by omega) true HBE.out)
  go_wp2_with (go_at_call 20; refine HO.out.mono ?_; rintro e w3 ⟨rfl, hb3⟩)
  have hsl3 := hsl2.below hb3 (Nat.le_refl _)
  have hv3 := hv2.below hb3 (Nat.le_refl _)
  have HK : Hid (Calls Try.prog 21 #[.slice B m d, .string p, .slice B' 0 d'] w3 fun e w' => e = .returned (.int .i64 0) ∧ Below w3.heap.size w3 w') := by
    have h := HC.out B B' m d 0 d' o [] p w3 hsl3 hv3 (by omega) (by omega)
    rw [show checkStackOf o p [] = 0 from by unfold checkStackOf; rw [if_neg (by rw [← HBE.out]; decide), if_pos (.inl ⟨HPL.out, rfl⟩)]] at h
    exact h
  go_wp2_with (go_at_call 21; refine HK.out.mono ?_; rintro e w4 ⟨rfl, hb4⟩)
  have hsl4 := hsl3.below hb4 (Nat.le_refl _)
  have HOS := Lib.hid (oneStack_any B m d o w4 hsl4 (by omega))
  rw [← HGE.out] at HOS
  go_wp2_with (go_at_call 23; refine HOS.out.mono ?_; rintro e w5 ⟨rfl, hb5⟩)
  have hsl5 := hsl4.below hb5 (Nat.le_refl _)
  have HP := Lib.hid (planSorts_any B m d o p w5 hsl5 (by omega) (by omega))
  rw [HPL.out] at HP
  go_wp2_with (first | (go_at_call 24; refine HP.out.mono ?_; rintro e w6 ⟨rfl, hb6⟩) | (go_at_call 22; refine (HA.out _).mono ?_; rintro e w7 ⟨rfl, hb7⟩))
  go_ret
  exact ⟨rfl, (((((Kp.call hb1 hb2).call hb3).call hb4).call hb5).call hb6).call hb7⟩
theorem stack_none (hA : AwakeOk) (hS : StackOk) (hC : CheckStackOk) (A : Option Addr) (n c : Nat) (zs : List Int) (w : World) (hs : Sl w A n c zs) (m : Nat) (o : List Int) (hm : m = min n 61) (hoe : o = zs.take 61) (hlen : o.length = m) (hm61 : m ≤ 61)
    (hbe : true = ordB o 60) (hge : false = ascB (passOf o)) :
    Calls Try.prog 3 #[.slice A n c] w fun e w' => e = .returned (.bool true) ∧ Below w.heap.size w w' := by
  have HA := Lib.hid hA; clear hA
  have HS := Lib.hid hS; clear hS
  have HC := Lib.hid hC; clear hC
  have HL := Lib.hid (list_sl A n c zs w hs m o hm hoe); clear hs hm hoe
  have HN : Hid (0 < o.length) := by
    rw [Hid]
    rcases Nat.eq_zero_or_pos o.length with h | h
    · rw [List.eq_nil_of_length_eq_zero h] at hge; exact absurd hge (by decide)
    · exact h
  have HBE := Lib.hid hbe; clear hbe
  have HGE := Lib.hid hge; clear hge
  go_enter Try.func3, Try.ntmps3
  go_wp2_with (go_at_call 18; refine HL.out.mono ?_; rintro e w1 ⟨B, d, rfl, hsl, hb1⟩)
  go_wp2_with (go_at_call 19; refine (HS.out B m d o w1 hsl).mono ?_; rintro e w2 ⟨p, v, x, b, rfl, ho, hp, hbl, z2, z3, h1, hb2⟩; clear z2 z3; obtain ⟨rfl, hpl, rfl⟩ := h1 HBE.out.symm HGE.out.symm; clear h1 hp; have HPL := Lib.hid hpl; clear hpl; obtain ⟨q, hq⟩ : ∃ q, b.length = q := ⟨_, rfl⟩; obtain ⟨B', d', rfl, hv2⟩ := ho.sl_len hq (by omega); rw [hq] at hbl; clear hq)
  have hsl2 := hsl.below hb2 (Nat.le_refl _)
  have HO := Lib.hid (order_sl B m d o w2 hsl2 (by omega) true HBE.out)
  go_wp2_with (go_at_call 20; refine HO.out.mono ?_; rintro e w3 ⟨rfl, hb3⟩)
  have hsl3 := hsl2.below hb3 (Nat.le_refl _)
  have hv3 := hv2.below hb3 (Nat.le_refl _)
  have HK : Hid (Calls Try.prog 21 #[.slice B m d, .string ⟨#[]⟩, .slice B' q d'] w3 fun e w' => e = .returned (.int .i64 0) ∧ Below w3.heap.size w3 w') := by
    have h := HC.out B B' m d q d' o b ⟨#[]⟩ w3 hsl3 hv3 (by decide) (by omega)
    rw [show checkStackOf o ⟨#[]⟩ b = 0 from by unfold checkStackOf; rw [if_neg (by rw [← HBE.out]; decide), if_pos (.inr ⟨rfl, HN.out, HPL.out⟩)]] at h
    exact h
  go_wp2_with (go_at_call 21; refine HK.out.mono ?_; rintro e w4 ⟨rfl, hb4⟩)
  have hsl4 := hsl3.below hb4 (Nat.le_refl _)
  have hv4 := hv3.below hb4 (Nat.le_refl _)
  have HOS := Lib.hid (oneStack_any B m d o w4 hsl4 (by omega))
  rw [← HGE.out] at HOS
  go_wp2_with (go_at_call 23; refine HOS.out.mono ?_; rintro e w5 ⟨rfl, hb5⟩)
  have hsl5 := hsl4.below hb5 (Nat.le_refl _)
  have hv5 := hv4.below hb5 (Nat.le_refl _)
  have HP := Lib.hid (stackBlock_any B B' m d q d' o b w5 hsl5 hv5 (by omega) (by omega))
  rw [HPL.out] at HP
  go_wp2_with (first | (go_at_call 25; refine HP.out.mono ?_; rintro e w6 ⟨rfl, hd6⟩) | (go_at_call 22; refine (HA.out _).mono ?_; rintro e w7 ⟨rfl, hb7⟩))
  go_ret
  exact ⟨rfl, (((((Kp.call hb1 hb2).call hb3).call hb4).call hb5).call (hd6.below _)).call hb7⟩
theorem stack_law (hA : AwakeOk) (hS : StackOk) (hC : CheckStackOk) (A : Option Addr) (n c : Nat) (zs : List Int) (w : World) (hs : Sl w A n c zs) :
    Calls Try.prog 3 #[.slice A n c] w fun e w' => e = .returned (.bool true) ∧ Below w.heap.size w w' := by
  obtain ⟨m, o, hm, hoe, hlen, h61⟩ := list_has hs
  cases hb : ordB o 60 with
  | false => exact stack_bad hA hS hC A n c zs w hs m o hm hoe hlen h61 hb.symm
  | true =>
    cases hg : ascB (passOf o) with
    | false => exact stack_none hA hS hC A n c zs w hs m o hm hoe hlen h61 hb.symm hg.symm
    | true => exact stack_one hA hS hC A n c zs w hs m o hm hoe hlen h61 hb.symm hg.symm
end Go.Proofs.Ytmnnehpoaedifaa
