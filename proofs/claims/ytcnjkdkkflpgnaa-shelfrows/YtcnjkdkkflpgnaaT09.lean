import Derived.Test.YtcnjkdkkflpgnaaT08
import Derived.Shelf.SlIterI.Nil
import Derived.Shelf.SortM.Plain
import Derived.Shelf.SortM.SortNone
/- Layer 8: what of the library the pages' order wants: maps.Keys, slices.Sorted, slices.Sort, and their like at ints. -/
namespace Go.Proofs.Ytcnjkdkkflpgnaa
open Go.Shelf
set_option linter.unusedVariables false

def keysA_ren : Go.Shelf.Ren := ⟨fun | 7 => 88 | 10 => 95 | n => n, fun | 23 => 75 | 26 => 3 | 3 => 69 | 28 => 115 | 0 => 0 | 27 => 114 | 33 => 65 | 4 => 4 | n => n, fun | n => n⟩
theorem keysA : SlLaysZI.n7 Try.prog keysA_ren := {
  mixed := by kernel_rfl
  f7 := ⟨Try.f88.name, by decide, Try.func88.trans (congrArg some (by kernel_rfl))⟩
  f10 := ⟨Try.f95.name, by decide, Try.func95.trans (congrArg some (by kernel_rfl))⟩
  t0 := Try.underlying0
  a0 := Try.isAgg0
  z0 := Try.sizeOf0
  v0 := Try.zeroValue0
  t4 := Try.underlying4
  a4 := Try.isAgg4
  z4 := Try.sizeOf4
  v4 := Try.zeroValue4
  t23 := Try.underlying75
  a23 := Try.isAgg75
  z23 := Try.sizeOf75
  v23 := Try.zeroValue75
  t26 := Try.underlying3
  a26 := Try.isAgg3
  z26 := Try.sizeOf3
  v26 := Try.zeroValue3
  t27 := Try.underlying114
  a27 := Try.isAgg114
  z27 := Try.sizeOf114
  v27 := Try.zeroValue114
  t28 := Try.underlying115
  a28 := Try.isAgg115
  z28 := Try.sizeOf115
  v28 := Try.zeroValue115
  t33 := Try.underlying65
  a33 := Try.isAgg65
  z33 := Try.sizeOf65
  v33 := Try.zeroValue65 }
def sortedA_ren : Go.Shelf.Ren := ⟨fun | 6 => 87 | 8 => 93 | 9 => 94 | 11 => 97 | 13 => 99 | 12 => 98 | 23 => 109 | 24 => 110 | 14 => 100 | 15 => 101 | 16 => 102 | 17 => 103 | 18 => 104 | 19 => 105 | 20 => 106 | 21 => 107 | 22 => 108 | 25 => 111 | 26 => 112 | 27 => 113 | 28 => 114 | 29 => 115 | 30 => 96 | 31 => 116 | n => n, fun | 26 => 3 | 28 => 115 | 24 => 22 | 0 => 0 | 3 => 3 | 37 => 99 | 48 => 128 | 50 => 130 | 4 => 4 | 40 => 123 | 39 => 122 | 45 => 31 | 5 => 5 | 9 => 9 | 51 => 131 | 55 => 135 | 57 => 137 | 58 => 138 | 33 => 65 | n => n, fun | n => n⟩
theorem sortedA : SlLaysZI.n6 Try.prog sortedA_ren := {
  mixed := by kernel_rfl
  f6 := ⟨Try.f87.name, by decide, Try.func87.trans (congrArg some (by kernel_rfl))⟩
  f8 := ⟨Try.f93.name, by decide, Try.func93.trans (congrArg some (by kernel_rfl))⟩
  f11 := ⟨Try.f97.name, by decide, Try.func97.trans (congrArg some (by kernel_rfl))⟩
  t0 := Try.underlying0
  a0 := Try.isAgg0
  z0 := Try.sizeOf0
  v0 := Try.zeroValue0
  t24 := Try.underlying22
  a24 := Try.isAgg22
  z24 := Try.sizeOf22
  v24 := Try.zeroValue22
  t26 := Try.underlying3
  a26 := Try.isAgg3
  z26 := Try.sizeOf3
  v26 := Try.zeroValue3
  t28 := Try.underlying115
  a28 := Try.isAgg115
  z28 := Try.sizeOf115
  v28 := Try.zeroValue115
  i26 := by kernel_rfl }
def sortA_ren : Go.Shelf.Ren := ⟨fun | 5 => 94 | 8 => 99 | 7 => 98 | 19 => 109 | 20 => 110 | 10 => 100 | 11 => 101 | 12 => 102 | 13 => 103 | 14 => 104 | 15 => 105 | 16 => 106 | 17 => 107 | 18 => 108 | 30 => 111 | 31 => 112 | 32 => 113 | 33 => 114 | 34 => 115 | 35 => 96 | 40 => 116 | n => n, fun | 23 => 22 | 25 => 3 | 3 => 3 | 32 => 99 | 22 => 22 | 0 => 0 | 44 => 128 | 46 => 130 | 4 => 4 | 36 => 123 | 35 => 122 | 41 => 31 | 5 => 5 | 9 => 9 | 53 => 131 | 57 => 135 | 63 => 137 | 64 => 138 | n => n, fun | n => n⟩
theorem sortA : SlLaysM.n5 Try.prog sortA_ren := {
  mixed := by kernel_rfl
  f5 := ⟨Try.f94.name, by decide, Try.func94.trans (congrArg some (by kernel_rfl))⟩
  f7 := ⟨Try.f98.name, by decide, Try.func98.trans (congrArg some (by kernel_rfl))⟩
  f8 := Try.func99.trans (congrArg some (by kernel_rfl))
  f10 := ⟨Try.f100.name, by decide, Try.func100.trans (congrArg some (by kernel_rfl))⟩
  f11 := ⟨Try.f101.name, by decide, Try.func101.trans (congrArg some (by kernel_rfl))⟩
  f12 := ⟨Try.f102.name, by decide, Try.func102.trans (congrArg some (by kernel_rfl))⟩
  f13 := ⟨Try.f103.name, by decide, Try.func103.trans (congrArg some (by kernel_rfl))⟩
  f14 := ⟨Try.f104.name, by decide, Try.func104.trans (congrArg some (by kernel_rfl))⟩
  f15 := ⟨Try.f105.name, by decide, Try.func105.trans (congrArg some (by kernel_rfl))⟩
  f16 := ⟨Try.f106.name, by decide, Try.func106.trans (congrArg some (by kernel_rfl))⟩
  f17 := ⟨Try.f107.name, by decide, Try.func107.trans (congrArg some (by kernel_rfl))⟩
  f18 := ⟨Try.f108.name, by decide, Try.func108.trans (congrArg some (by kernel_rfl))⟩
  f19 := Try.func109.trans (congrArg some (by kernel_rfl))
  f20 := Try.func110.trans (congrArg some (by kernel_rfl))
  f30 := ⟨Try.f111.name, by decide, Try.func111.trans (congrArg some (by kernel_rfl))⟩
  f31 := Try.func112.trans (congrArg some (by kernel_rfl))
  f32 := Try.func113.trans (congrArg some (by kernel_rfl))
  f33 := ⟨Try.f114.name, by decide, Try.func114.trans (congrArg some (by kernel_rfl))⟩
  f34 := ⟨Try.f115.name, by decide, Try.func115.trans (congrArg some (by kernel_rfl))⟩
  f35 := ⟨Try.f96.name, by decide, Try.func96.trans (congrArg some (by kernel_rfl))⟩
  f40 := ⟨Try.f116.name, by decide, Try.func116.trans (congrArg some (by kernel_rfl))⟩
  t0 := Try.underlying0
  a0 := Try.isAgg0
  z0 := Try.sizeOf0
  v0 := Try.zeroValue0
  t3 := Try.underlying3
  a3 := Try.isAgg3
  z3 := Try.sizeOf3
  v3 := Try.zeroValue3
  t4 := Try.underlying4
  a4 := Try.isAgg4
  z4 := Try.sizeOf4
  v4 := Try.zeroValue4
  t5 := Try.underlying5
  a5 := Try.isAgg5
  z5 := Try.sizeOf5
  v5 := Try.zeroValue5
  t9 := Try.underlying9
  a9 := Try.isAgg9
  z9 := Try.sizeOf9
  v9 := Try.zeroValue9
  t22 := Try.underlying22
  a22 := Try.isAgg22
  z22 := Try.sizeOf22
  v22 := Try.zeroValue22
  t23 := Try.underlying22
  a23 := Try.isAgg22
  z23 := Try.sizeOf22
  v23 := Try.zeroValue22
  t25 := Try.underlying3
  a25 := Try.isAgg3
  z25 := Try.sizeOf3
  v25 := Try.zeroValue3
  t32 := Try.underlying99
  a32 := Try.isAgg99
  z32 := Try.sizeOf99
  v32 := Try.zeroValue99
  t35 := Try.underlying122
  a35 := Try.isAgg122
  z35 := Try.sizeOf122
  v35 := Try.zeroValue122
  t36 := Try.underlying123
  a36 := Try.isAgg123
  z36 := Try.sizeOf123
  v36 := Try.zeroValue123
  t41 := Try.underlying31
  a41 := Try.isAgg31
  z41 := Try.sizeOf31
  v41 := Try.zeroValue31
  t44 := Try.underlying128
  a44 := Try.isAgg128
  z44 := Try.sizeOf128
  v44 := Try.zeroValue128
  t46 := Try.underlying130
  a46 := Try.isAgg130
  z46 := Try.sizeOf130
  v46 := Try.zeroValue130
  t53 := Try.underlying131
  a53 := Try.isAgg131
  z53 := Try.sizeOf131
  v53 := Try.zeroValue131
  t57 := Try.underlying135
  a57 := Try.isAgg135
  z57 := Try.sizeOf135
  v57 := Try.zeroValue135
  t63 := Try.underlying137
  a63 := Try.isAgg137
  z63 := Try.sizeOf137
  v63 := Try.zeroValue137
  t64 := Try.underlying138
  a64 := Try.isAgg138
  z64 := Try.sizeOf138
  v64 := Try.zeroValue138 }
end Go.Proofs.Ytcnjkdkkflpgnaa
/- Layer 8: the pages in their order; slices.MinFunc; cmp.Compare. -/
namespace Go.Proofs.Ytcnjkdkkflpgnaa
open Go.RowKit Go.Maps Go.Sort Go.Shelf
set_option linter.unusedVariables false

theorem sortsA_in (m : Nat) : AnyZI.SortsIn Try.prog sortedA_ren Fence.wide m :=
  ⟨fun blk off cap ss W hH hblk hsz => callsIn_wide.2 (AnyM.slices_Sort_int sortA blk off cap ss W hH hblk hsz),
   fun p cap W => callsIn_wide.2 (AnyM.slices_Sort_int_none sortA p cap W)⟩
theorem keys_any (mb : Option Nat) (W : World) : Calls Try.prog 88 #[.map mb] W fun e w' => e = .returned (.func (.func 95) #[] #[.pointer (some ⟨W.heap.size, 0, none⟩)]) ∧ w' = W.alloc (.cells #[.map mb] 75) :=
  (callsIn_wide (n := 5)).1 (AnyZI.keys_in keysA Fence.wide 5 trivial rfl mb W)
theorem sorted_any (b p : Nat) (f : Int → Option Stay) (V : World) (h : SM V b f) (hp : p < V.heap.size) (hc : V.cell? ⟨p, 0, none⟩ = some (.map (some b))) :
    Calls Try.prog 87 #[.func (.func 95) #[] #[.pointer (some ⟨p, 0, none⟩)]] V fun e w' => (∃ v, e = .returned v ∧ Ow w' V.heap.size 3 v (keysS f)) ∧ Below V.heap.size V w' := by
  obtain ⟨D, hown, hr⟩ := h
  have hsz := SM.size hown hr
  have hk := keysS_le f
  have hmax : Maps.size D ≤ maxLen := by rw [hsz]; unfold maxLen; omega
  have hbytes : Maps.size D * 8 ≤ 140737488355328 := by rw [hsz]; omega
  have hseq : SeqGives Fence.wide 2 Try.prog 95 #[.pointer (some ⟨p, 0, none⟩)] encZ (fun ss => ss.Perm (intKeys D)) (Maps.size D) V :=
    AnyZI.keys_gives (ρ := keysA_ren) { keysA with } Fence.wide _ trivial rfl (by omega) p b _ D _ hp hc hown
  have cS := AnyZI.sorted_in sortedA Fence.wide 5 trivial trivial trivial trivial rfl (by omega) (sortsA_in _) (enters_of Try.func94 (by kernel_rfl) rfl) 95 #[.pointer (some ⟨p, 0, none⟩)] trivial (enters_of Try.func95 (by kernel_rfl) rfl) _ _ hmax hbytes _ hseq
  change CallsIn _ _ Try.prog 87 _ _ _ at cS
  refine ((callsIn_wide (n := 5)).1 cS).mono ?_
  rintro e w' ⟨v, ss, rfl, hS, hrow, hnil, hb⟩
  refine ⟨⟨v, rfl, ?_⟩, hb⟩
  have hp2 : ss.Perm (keysS f) := hS.trans (SM.perm hown hr).symm
  have he : ss.mergeSort leI = keysS f := by rw [mergeSort_of_perm_i hp2, keysS_sorted]
  have hl : ss.length = (keysS f).length := hp2.length_eq
  rw [he, hl] at hrow
  exact hrow
theorem isNaN_any (x : Int) (w : World) : Calls Try.prog 96 #[.int .i64 x] w fun e w' => e = .returned (.bool false) ∧ w' = w := by
  have h1 : (x != x) = false := by simp
  go_enter Try.func96, Try.ntmps96
  go_wp2
  go_ret
  exact ⟨by simp, rfl⟩
def cmpI (x y : Int) : Int := if x < y then -1 else if y < x then 1 else 0
theorem compare_any (x y : Int) (w : World) : Calls Try.prog 90 #[.int .i64 x, .int .i64 y] w fun e w' => e = .returned (.int .i64 (cmpI x y)) ∧ w' = w := by
  have HN := Lib.hid (fun z V => isNaN_any z V)
  unfold cmpI
  go_enter Try.func90, Try.ntmps90
  by_cases h1 : x < y
  · rw [if_pos h1]
    go_wp2_with (go_at_call 96; refine (HN.out _ _).mono ?_; rintro e w' ⟨rfl, rfl⟩)
    go_ret
    exact ⟨rfl, rfl⟩
  · rw [if_neg h1]
    by_cases h2 : y < x
    · rw [if_pos h2]
      go_wp2_with (go_at_call 96; refine (HN.out _ _).mono ?_; rintro e w' ⟨rfl, rfl⟩)
      go_ret
      exact ⟨rfl, rfl⟩
    · rw [if_neg h2]
      go_wp2_with (go_at_call 96; refine (HN.out _ _).mono ?_; rintro e w' ⟨rfl, rfl⟩)
      go_ret
      exact ⟨rfl, rfl⟩
/-- The first of the least ones, among the first t + 1. -/
def minZ (cf : Int → Int → Int) (zs : List Int) : Nat → Int
  | 0 => atI zs 0
  | t + 1 => if cf (atI zs (t + 1)) (minZ cf zs t) < 0 then atI zs (t + 1) else minZ cf zs t
set_option maxRecDepth 100000 in
set_option maxHeartbeats 6400000 in
theorem minFunc_any (cf : Int → Int → Int) (zs : List Int) (A : Option Addr) (n c : Nat) (g : Nat) (cb : Array Value) (w : World) (h : Sl w A n c zs) (hn : 1 ≤ n) (eg : ∀ args w, (callFunc g args).run Try.prog w = .ok (.enter g args) w)
    (hc : ∀ x y, x ∈ zs → y ∈ zs → ∀ V, Below w.heap.size w V → Calls Try.prog g (#[.int .i64 x, .int .i64 y] ++ cb) V fun e w' => e = .returned (.int .i64 (cf x y)) ∧ Below V.heap.size V w') :
    Calls Try.prog 86 #[.slice A n c, .func (.func g) #[] cb] w fun e w' => e = .returned (.int .i64 (minZ cf zs (n - 1))) ∧ Below w.heap.size w w' := by
  have hbig := h.big
  have HL : Hid (zs.length = n) := h.len
  have HSL := Lib.hid (fun V (hV : Below w.heap.size w V) => h.below hV (Nat.le_refl _))
  have HC := Lib.hid hc
  have HMEM : Hid (∀ t, t < n → atI zs t ∈ zs) := fun t ht => by unfold atI; rw [List.getElem?_eq_getElem (by rw [HL.out]; exact ht)]; exact List.getElem_mem _
  have HMIN : Hid (∀ t, t < n → minZ cf zs t ∈ zs) := by
    intro t
    induction t with
    | zero => exact fun h0 => HMEM.out 0 h0
    | succ t ih =>
      intro ht
      unfold minZ
      split
      · exact HMEM.out _ ht
      · exact ih (by omega)
  obtain ⟨b0, o0, rfl, hc0⟩ := h.at_ (k := 0) (by omega)
  have hn1 : ¬ (n : Int) < 1 := by omega
  have hn0 : (0 : Int) < (n : Int) := by omega
  clear h hc
  rw [show zs[0]?.getD 0 = atI zs 0 from rfl, Nat.add_zero] at hc0
  have HM0 : Hid (atI zs 0 = minZ cf zs 0) := rfl
  generalize atI zs 0 = z0 at hc0 HM0
  go_enter Try.func86, Try.ntmps86
  go_wp2
  go_loopw [5, 6] (fun m i w' => ∃ t : Nat, t + 1 ≤ n ∧ i = .int .i64 ((t : Int) + 1) ∧ m = .int .i64 (minZ cf zs t) ∧ Hid (Below w.heap.size w w')) (fun _ i _ => n - (intOf i).toNat)
  case atStart => exact ⟨0, by omega, by go_num, by rw [HM0.out], Below.refl _ _⟩
  case round =>
    obtain ⟨t, ht, rfl, rfl, HB⟩ := hrel
    obtain ⟨wo, rfl⟩ : ∃ wo : World, wo = wr := ⟨_, rfl⟩
    clear hc0 HM0
    by_cases hlt : t + 1 < n
    · have i1 : (t : Int) + 1 < (n : Int) := by omega
      have hso := HSL.out wo HB.out
      obtain ⟨b1, o1, e1, hc1⟩ := hso.at_ hlt
      obtain ⟨rfl, rfl⟩ : b1 = b0 ∧ o1 = o0 := by
        have e1 := Option.some.inj e1
        injection e1 with e2 e3 _
        exact ⟨e2.symm, e3.symm⟩
      rw [show zs[t + 1]?.getD 0 = atI zs (t + 1) from rfl] at hc1
      have hcc := HC.out (atI zs (t + 1)) (minZ cf zs t) (HMEM.out _ hlt) (HMIN.out t (by omega)) wo HB.out
      have HS : Hid (minZ cf zs (t + 1) = if cf (atI zs (t + 1)) (minZ cf zs t) < 0 then atI zs (t + 1) else minZ cf zs t) := rfl
      have v1 : IntKind.i64.wrap ((t : Int) + 1 + 1) = (t : Int) + 1 + 1 := IntWalk.i64_in _ (by omega)
      have t1 : ((t : Int) + 1).toNat = t + 1 := by omega
      have t2 : (0 : Int) ≤ (t : Int) + 1 := by omega
      have HSO := Lib.hid hso
      clear hso e1 HC HMEM HMIN
      obtain ⟨x, hx⟩ : ∃ x, x = atI zs (t + 1) := ⟨_, rfl⟩
      rw [← hx] at hc1 hcc HS
      have HX : Hid (atI zs (t + 1) = x) := hx.symm
      clear hx
      generalize minZ cf zs t = m at *
      by_cases hlv : cf x m < 0
      · rw [if_pos hlv] at HS
        go_wp2
        refine hcc.mono ?_
        rintro e w2 ⟨rfl, hb⟩
        have HB2 := Lib.hid (HB.out.trans (hb.mono HB.out.size))
        obtain ⟨b2, o2, e2, hc2⟩ := (HSO.out.below hb (Nat.le_refl _)).at_ hlt
        obtain ⟨rfl, rfl⟩ : b2 = b1 ∧ o2 = o1 := by
          have e1 := Option.some.inj e2
          injection e1 with e2 e3 _
          exact ⟨e2.symm, e3.symm⟩
        rw [show zs[t + 1]?.getD 0 = atI zs (t + 1) from rfl, HX.out] at hc2
        clear hb hc1 hcc e2
        go_wp2
        exact ⟨⟨t + 1, by omega, by go_num, by rw [HS.out], HB2.out⟩, by simp [intOf]; omega⟩
      · rw [if_neg hlv] at HS
        go_wp2
        refine hcc.mono ?_
        rintro e w2 ⟨rfl, hb⟩
        have HB2 := Lib.hid (HB.out.trans (hb.mono HB.out.size))
        clear hb hc1 hcc
        go_wp2
        exact ⟨⟨t + 1, by omega, by go_num, by rw [HS.out], HB2.out⟩, by simp [intOf]; omega⟩
    · have htn : t + 1 = n := by omega
      have i1 : ¬ (t : Int) + 1 < (n : Int) := by omega
      go_wp2
      go_ret
      exact ⟨by rw [show n - 1 = t by omega]; rfl, HB.out⟩
end Go.Proofs.Ytcnjkdkkflpgnaa
