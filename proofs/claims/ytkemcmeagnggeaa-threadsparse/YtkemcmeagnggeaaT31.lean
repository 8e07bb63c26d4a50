import Derived.Test.YtkemcmeagnggeaaT03
import Derived.Test.YtkemcmeagnggeaaT02
import Derived.Test.YtkemcmeagnggeaaT00
import Derived.Deep.RegionHeldLaw
import Derived.Deep.Cut
/- Layer 3: append of a slice of strings; what Minimal makes. -/
namespace Go.Proofs.Ytkemcmeagnggeaa
open Go.RowKit
set_option linter.unusedVariables false

theorem strs_at {zs : List ByteArray} {j : Nat} {u : Value} (h : (strs zs)[j]? = some u) : j < zs.length ∧ u = .string (zs[j]?.getD ByteArray.empty) := by
  rw [List.getElem?_map] at h
  rcases hz : zs[j]? with _ | z
  · rw [hz] at h; cases h
  · rw [hz] at h
    have hj : j < zs.length := by
      rcases Nat.lt_or_ge j zs.length with h' | h'
      · exact h'
      · rw [List.getElem?_eq_none h'] at hz; cases hz
    exact ⟨hj, by injection h with h; exact h.symm⟩
/-- append of a slice of strings that is read. -/
theorem apps_any {P : Program} (w : World) {ops : Array Oper} {rest : List Oper} {o : Oper} {a : Act} {Q : Exit → Act → World → Prop} (hgd : o.guard = none) (s x : Operand) (t : TypeId)
    (ho : o.op = .call { callee := .builtin .append, args := #[s, x], argTypes := #[t, t] })
    (B : Nat) (e : TypeId) (i : TypeInfo) (ht : P.underlying t = some (.slice e)) (hI : P.info? e = some i ∧ i.zero = some (.string ByteArray.empty) ∧ i.size = 1 ∧ i.bytes = 16)
    (v : Value) (zs : List ByteArray) (hs : a.eval s = v) (hown : Ows w B e v zs)
    (A : Option Addr) (m c : Nat) (ys : List ByteArray) (hx : a.eval x = .slice A m c) (hm : ys.length = m) (hc : m ≤ c) (hA : A = none → m = 0 ∧ c = 0) (hr : Rds w A ys) (hsum : zs.length + m ≤ 1099511627776) (hB : B ≤ w.heap.size)
    (h : ∀ v' w', Ows w' B e v' (zs ++ ys) → w.grownBy w' v.ownBlock → wpList P ops Q rest (a.put o.dst v') w') : wpList P ops Q (o :: rest) a w := by
  obtain ⟨h1, h2, h3, h4⟩ := hI
  have hK : ∀ v' w', w'.ownsRow B e 1 v' (zs.length + m) (strs zs ++ strs ys) → w.grownBy w' v.ownBlock → wpList P ops Q rest (a.put o.dst v') w' := fun v' w' p q => h v' w' (by
    unfold Ows
    rw [List.length_append, hm, show strs (zs ++ ys) = strs zs ++ strs ys from by simp [strs]]
    exact p) q
  rcases A with _ | ad
  · obtain ⟨rfl, rfl⟩ := hA rfl
    have hys : ys = [] := List.eq_nil_of_length_eq_zero hm
    subst hys
    exact wpList_append_own_none hgd s x t ho B e i 1 ht h1 v zs.length (strs zs) hs hown hx (h v w (by rw [List.append_nil]; exact hown) (World.grownBy.refl w _))
  · have hcells : ∀ j u, (strs ys)[j]? = some u → w.cell? (ad.add j) = some u := by
      intro j u hu
      obtain ⟨hj, rfl⟩ := strs_at hu
      obtain ⟨b, off, he, hc⟩ := hr j hj
      injection he with he
      subst he
      have : (⟨b, off, none⟩ : Addr).add j = ⟨b, off + j, none⟩ := by unfold Addr.add; split <;> simp_all
      rw [this]; exact hc
    exact wpList_append_own w hgd s x t ho B e i _ 1 16 ht h1 h2 h3 h4 rfl (by decide) v zs.length (strs zs) hs hown ad m c (strs ys) hx (by simp [hm]) hcells
      (by intro u hu; obtain ⟨z, _, rfl⟩ := List.mem_map.1 hu; rfl) (by unfold maxLen; omega) (by omega) hB (fun v' w' h1 h2 _ => hK v' w' h1 h2)

/-- Word i of the family has word k of it as a subsequence, and k is another word or comes before. -/
def spoils (ss : List ByteArray) (i k : Nat) : Bool :=
  (withinF (bs (ss[k]?.getD ByteArray.empty)) (bs (ss[i]?.getD ByteArray.empty))).isSome && (decide (ss[k]?.getD ByteArray.empty ≠ ss[i]?.getD ByteArray.empty) || decide (k < i))
def keepB (ss : List ByteArray) (i : Nat) : Bool := allB (fun k => !spoils ss i k) ss.length
/-- How many words of the list come before x, from the left. -/
def rankS (x : ByteArray) : List ByteArray → Nat
  | [] => 0
  | y :: l => if lessL (bs y) (bs x) = true then rankS x l + 1 else 0
def insS (l : List ByteArray) (x : ByteArray) : List ByteArray := l.take (rankS x l) ++ [x] ++ l.drop (rankS x l)
def minTo (ss : List ByteArray) : Nat → List ByteArray
  | 0 => []
  | i + 1 => if keepB ss i = true then insS (minTo ss i) (ss[i]?.getD ByteArray.empty) else minTo ss i
def minOf (ss : List ByteArray) : List ByteArray := minTo ss ss.length

theorem rankS_le (x : ByteArray) : ∀ l : List ByteArray, rankS x l ≤ l.length
  | [] => Nat.le_refl _
  | y :: l => by
    have := rankS_le x l
    unfold rankS
    split <;> simp <;> omega
theorem rankS_of (x : ByteArray) : ∀ (l : List ByteArray) (k : Nat), k ≤ l.length → (∀ j, j < k → lessL (bs (l[j]?.getD ByteArray.empty)) (bs x) = true) → (k < l.length → lessL (bs (l[k]?.getD ByteArray.empty)) (bs x) = false) → rankS x l = k
  | [], k, hk, _, _ => by have : k = 0 := by simpa using hk
                          rw [this]; rfl
  | y :: l, 0, _, _, h => by
    have := h (by simp)
    simp at this
    simp [rankS, this]
  | y :: l, k + 1, hk, h, h2 => by
    have h0 := h 0 (by omega)
    simp at h0
    rw [rankS, if_pos h0, rankS_of x l k (by simpa using hk) (fun j hj => by have := h (j + 1) (by omega); simpa using this) (fun hl => by have := h2 (by simpa using hl); simpa using this)]
theorem insS_len (l : List ByteArray) (x : ByteArray) : (insS l x).length = l.length + 1 := by
  have := rankS_le x l
  simp [insS]; omega
theorem minTo_len (ss : List ByteArray) : ∀ i, (minTo ss i).length ≤ i
  | 0 => Nat.le_refl _
  | i + 1 => by
    have := minTo_len ss i
    unfold minTo
    split
    · rw [insS_len]; omega
    · omega
theorem insS_mem {l : List ByteArray} {x y : ByteArray} : y ∈ insS l x ↔ y ∈ l ∨ y = x := by
  unfold insS
  conv => rhs; rw [← List.take_append_drop (rankS x l) l]
  simp only [List.mem_append, List.mem_singleton]
  constructor
  · rintro ((h | h) | h)
    · exact .inl (.inl h)
    · exact .inr h
    · exact .inl (.inr h)
  · rintro ((h | h) | h)
    · exact .inl (.inl h)
    · exact .inr h
    · exact .inl (.inr h)
/-- The minimal words are the words that no other one of the family spoils. -/
theorem minTo_mem (ss : List ByteArray) (y : ByteArray) : ∀ i, y ∈ minTo ss i ↔ ∃ j, j < i ∧ keepB ss j = true ∧ ss[j]?.getD ByteArray.empty = y
  | 0 => by simp [minTo]
  | i + 1 => by
    unfold minTo
    split
    · rename_i hk
      rw [insS_mem, minTo_mem ss y i]
      constructor
      · rintro (⟨j, a, b⟩ | rfl)
        · exact ⟨j, by omega, b⟩
        · exact ⟨i, by omega, hk, rfl⟩
      · rintro ⟨j, a, b, c⟩
        by_cases e : j = i
        · subst e; exact .inr c.symm
        · exact .inl ⟨j, by omega, b, c⟩
    · rename_i hk
      rw [minTo_mem ss y i]
      constructor
      · rintro ⟨j, a, b⟩
        exact ⟨j, by omega, b⟩
      · rintro ⟨j, a, b, c⟩
        by_cases e : j = i
        · subst e; exact absurd b hk
        · exact ⟨j, by omega, b, c⟩
end Go.Proofs.Ytkemcmeagnggeaa
/- Layer 3: contract: Minimal. -/
namespace Go.Proofs.Ytkemcmeagnggeaa
open Go.RowKit
set_option linter.unusedVariables false

theorem Sls.dn {w : World} {n c : Nat} {A : Option Addr} {ss : List ByteArray} (h : Sls w A n c ss) : 0 < n → ∃ b off, A = some ⟨b, off, none⟩ ∧ ∀ k, k < n → w.cell? ⟨b, off + k, none⟩ = some (.string (ss[k]?.getD ByteArray.empty)) := by
  intro hn
  obtain ⟨b, off, e, _⟩ := h.rd 0 (by rw [h.len]; exact hn)
  refine ⟨b, off, e, fun k hk => ?_⟩
  obtain ⟨b', off', e', hc⟩ := h.rd k (by rw [h.len]; exact hk)
  rw [e] at e'
  injection e' with e'
  injection e' with h1 h2
  rw [h1, h2]; exact hc

theorem Ows.base {w : World} {B B' e : Nat} {v : Value} {zs : List ByteArray} (h : Ows w B e v zs) (hB : B' ≤ B) : Ows w B' e v zs := by
  refine ⟨h.1, ?_⟩
  rcases h.2 with h | ⟨g, cap, cur, h1, h2, h3⟩
  · exact .inl h
  · exact .inr ⟨g, cap, cur, h1, by omega, h3⟩
theorem Ows.two {w : World} {B e m : Nat} {v : Value} {zs : List ByteArray} (h : Ows w B e v zs) (hm : zs.length = m) : (v = .slice none 0 0 ∧ zs = [] ∧ m = 0) ∨
    ∃ g cap, v = .slice (some ⟨g, 0, none⟩) m cap ∧ m ≤ cap ∧ g < w.heap.size ∧ ∀ j, j < m → w.cell? ⟨g, j, none⟩ = some (.string (zs[j]?.getD ByteArray.empty)) := by
  subst hm
  rcases h.2 with ⟨rfl, h0⟩ | ⟨g, cap, cur, rfl, _, hh, hc, _⟩
  · exact .inl ⟨rfl, List.eq_nil_of_length_eq_zero h0, h0⟩
  · refine .inr ⟨g, cap, rfl, hc, (Array.getElem?_eq_some_iff.1 hh).1, fun k hk => ?_⟩
    have h' : w.ownsRow B e 1 (.slice (some ⟨g, 0, none⟩) zs.length cap) zs.length (strs zs) := h
    rw [h'.cellAt k (by omega), List.getElem?_map, List.getElem?_eq_getElem hk]
    rfl

set_option maxRecDepth 100000 in
set_option maxHeartbeats 3200000 in
theorem minimal_any (A : Option Addr) (n c : Nat) (ss : List ByteArray) (w : World) (hs : Sls w A n c ss) (hn : n ≤ 1000) (hz : ∀ i : Nat, (ss[i]?.getD ByteArray.empty).size ≤ 100) :
    Calls Try.prog 44 #[.slice A n c] w fun e w' => ∃ v, e = .returned v ∧ Ows w' w.heap.size 9 v (minOf ss) ∧ Below w.heap.size w w' := by
  have HS := Lib.hid hs; clear hs
  have HZ := Lib.hid hz; clear hz
  obtain ⟨i0, hi0, hz0, hsz, hby⟩ := info_parts Try.infoStr
  have HI := Lib.hid (And.intro hi0 (And.intro hz0 (And.intro hsz hby))); clear hi0 hz0 hsz hby
  go_enter Try.func44, Try.ntmps44
  go_wp2
  go_loopw [3, 4, 5, 6, 7, 8, 9, 10] (fun o i _ _ _ _ _ _ w' => ∃ k : Nat, k ≤ n ∧ i = .int .i64 k ∧ Hid (Ows w' w.heap.size 9 o (minTo ss k)) ∧ Below w.heap.size w w') (fun _ i _ _ _ _ _ _ _ => n - (intOf i).toNat)
  case atStart => exact ⟨0, Nat.zero_le _, rfl, Ows.nil _ _ _, Below.refl _ _⟩
  case round =>
    obtain ⟨i, hi, rfl, HO, hW⟩ := hrel
    obtain ⟨wo, rfl⟩ : ∃ wo : World, wo = wr := ⟨_, rfl⟩
    by_cases hlt : i < n
    · have hS1 := HS.out.below hW (Nat.le_refl _)
      obtain ⟨b, off, rfl, hcs⟩ := hS1.dn (by omega)
      have hzi := HZ.out i
      have hci := hcs i hlt
      have HCS := Lib.hid hcs; clear hcs
      have HST : Hid (minTo ss (i + 1) = if keepB ss i = true then insS (minTo ss i) (ss[i]?.getD ByteArray.empty) else minTo ss i) := rfl
      have HSP : Hid (∀ k, spoils ss i k = ((withinF (bs (ss[k]?.getD ByteArray.empty)) (bs (ss[i]?.getD ByteArray.empty))).isSome && (decide (ss[k]?.getD ByteArray.empty ≠ ss[i]?.getD ByteArray.empty) || decide (k < i)))) := fun k => rfl
      obtain ⟨x, hx⟩ : ∃ x, x = ss[i]?.getD ByteArray.empty := ⟨_, rfl⟩
      rw [← hx] at hci HST hzi HSP
      have HX := Lib.hid hx; clear hx
      have HLM : Hid ((minTo ss i).length ≤ i) := minTo_len ss i
      go_wp2
      go_loopw [5, 6, 7, 8] (fun p k _ _ w' => ∃ j : Nat, j ≤ n ∧ k = .int .i64 j ∧ p = .bool (allB (fun k => !spoils ss i k) j) ∧ Below wo.heap.size wo w') (fun _ k _ _ _ => n - (intOf k).toNat)
      case atStart => exact ⟨0, Nat.zero_le _, rfl, rfl, Below.refl _ _⟩
      case round =>
        obtain ⟨j, hj, rfl, rfl, hV⟩ := hrel
        obtain ⟨wi, rfl⟩ : ∃ wo : World, wo = wr := ⟨_, rfl⟩
        by_cases hjn : j < n
        · have HSTP : Hid (allB (fun k => !spoils ss i k) (j + 1) = (allB (fun k => !spoils ss i k) j && !spoils ss i j)) := by
            unfold allB; rw [Hid, List.range_succ, List.all_append]; simp
          have HSJ := Lib.hid (HSP.out j)
          have hzj := HZ.out j
          have hbo : b < wo.heap.size := hS1.old b off rfl (by omega)
          have hcj := HCS.out j hjn
          have HCC : Hid (∀ W, Below wo.heap.size wo W → W.cell? ⟨b, off + i, none⟩ = some (.string x) ∧ W.cell? ⟨b, off + j, none⟩ = some (.string (ss[j]?.getD ByteArray.empty))) := fun W hb => ⟨(hb.cell (p := ⟨b, off + i, none⟩) hbo).trans hci, (hb.cell (p := ⟨b, off + j, none⟩) hbo).trans hcj⟩
          clear hcj
          obtain ⟨y, hy⟩ : ∃ y, y = ss[j]?.getD ByteArray.empty := ⟨_, rfl⟩
          rw [← hy] at HCC HSJ hzj
          clear hy
          obtain ⟨h1, h2⟩ := HCC.out _ hV
          have HWI : Hid (∀ W, Below wo.heap.size wo W → Calls Try.prog 23 #[.string y, .string x] W fun e w' => ∃ v, e = .returned (.tuple #[v, .bool (withinF (bs y) (bs x)).isSome]) ∧ Below wo.heap.size wo w') := fun W hW' => (within_any y x W (by omega) (by omega)).mono fun e w' ⟨v, a, _, b⟩ => ⟨v, a, hW'.trans (b.mono hW'.size)⟩
          have hstr := str_eq y x
          generalize (withinF (bs y) (bs x)).isSome = r at *
          generalize allB (fun k => !spoils ss i k) j = q at *
          have HK0 : Hid (Below wo.heap.size wo wi.drew) := hV.drew
          have HVV := Lib.hid hV
          have HSTR := Lib.hid hstr
          clear hV h1 h2 hstr
          go_wp2
          go_region_held_law (fun W => W.cell? ⟨b, off + i, none⟩ = some (.string x) ∧ W.cell? ⟨b, off + j, none⟩ = some (.string y))
            (first | assumption | exact HCC.out _ HK0.out | exact HCC.out _ HK1.out)
            ((go_at_call 23; (with_reducible refine (HWI.out _ HK0.out).mono ?_); rintro e w2 ⟨v2, rfl, hV2⟩; have HK1 := Lib.hid hV2; clear hV2))
          obtain ⟨h4, h3⟩ := HCC.out _ HK1.out
          clear HWI HCC HK0 HVV
          cases r with
          | false =>
            have HN : Hid (q = allB (fun k => !spoils ss i k) (j + 1)) := by rw [Hid, HSTP.out, HSJ.out]; simp
            clear HSTP HSJ HSTR
            go_wp2
            go_quiet (fail)
            go_wp2
            exact ⟨⟨j + 1, by omega, by go_num, by rw [HN.out], below_dn HK1.out _⟩, by simp [intOf] <;> omega⟩
          | true =>
            by_cases hyx : y = x
            · have g1 : (y.toList == x.toList) = true := by rw [HSTR.out, decide_eq_true hyx]
              have g0 : (!(y.toList == x.toList)) = false := by rw [g1]; rfl
              by_cases hji : j < i
              · have HN : Hid (false = allB (fun k => !spoils ss i k) (j + 1)) := by rw [Hid, HSTP.out, HSJ.out, decide_eq_true hji]; simp
                have g2 : decide ((j : Int) < (i : Int)) = true := by rw [decide_eq_true_iff]; omega
                have g3 : decide (j < i) = true := decide_eq_true hji
                clear HSTP HSJ HSTR hyx
                go_wp2
                go_quiet (fail)
                go_wp2
                exact ⟨⟨j + 1, by omega, by go_num, by rw [HN.out], below_dn HK1.out _⟩, by simp [intOf] <;> omega⟩
              · have HN : Hid (q = allB (fun k => !spoils ss i k) (j + 1)) := by rw [Hid, HSTP.out, HSJ.out, decide_eq_false hji, hyx]; simp
                have g2 : decide ((j : Int) < (i : Int)) = false := by rw [decide_eq_false_iff_not]; omega
                have g3 : decide (j < i) = false := decide_eq_false hji
                clear HSTP HSJ HSTR hyx hji
                go_wp2
                go_quiet (fail)
                go_wp2
                exact ⟨⟨j + 1, by omega, by go_num, by rw [HN.out], below_dn HK1.out _⟩, by simp [intOf] <;> omega⟩
            · have g1 : (y.toList == x.toList) = false := by rw [HSTR.out, decide_eq_false hyx]
              have g0 : (!(y.toList == x.toList)) = true := by rw [g1]; rfl
              have HN : Hid (false = allB (fun k => !spoils ss i k) (j + 1)) := by rw [Hid, HSTP.out, HSJ.out, decide_eq_true (show y ≠ x from hyx)]; simp
              clear HSTP HSJ HSTR hyx
              go_wp2
              go_quiet (fail)
              go_wp2
              exact ⟨⟨j + 1, by omega, by go_num, by rw [HN.out], below_dn HK1.out _⟩, by simp [intOf] <;> omega⟩
        · obtain rfl : j = n := by omega
          have HKB : Hid (keepB ss i = allB (fun k => !spoils ss i k) j) := by rw [Hid, ← HS.out.len]; rfl
          obtain ⟨m, hm⟩ : ∃ m, (minTo ss i).length = m := ⟨_, rfl⟩
          have hmi : m ≤ i := by rw [← hm]; exact HLM.out
          have HB1 := Lib.hid hV
          have hbo : b < wo.heap.size := hS1.old b off rfl (by omega)
          have HCX : Hid (∀ W, Below wo.heap.size wo W → W.cell? ⟨b, off + i, none⟩ = some (.string x)) := fun W hb => (hb.cell (p := ⟨b, off + i, none⟩) hbo).trans hci
          have HO2 : Hid (Ows wi w.heap.size 9 u3 (minTo ss i)) := HO.out.below hV (Nat.le_refl _)
          have HB2 : Hid (Below w.heap.size w wi) := hW.trans (hV.mono hW.size)
          rw [← HKB.out]
          clear hV HSP HCS HO hW hci
          by_cases hkb : keepB ss i = true
          · have HST2 : Hid (minTo ss (i + 1) = insS (minTo ss i) x) := by rw [Hid, HST.out, if_pos hkb]
            rw [hkb]
            clear HST HKB hkb
            obtain ⟨L, hL⟩ : ∃ L, L = minTo ss i := ⟨_, rfl⟩
            rw [← hL] at HST2 hm HO2 HLM
            have HLL := Lib.hid hL
            clear hL
            rcases HO2.out.two hm with ⟨rfl, rfl, rfl⟩ | ⟨g, cap, rfl, hcap, hg, hcs⟩
            · have HIN : Hid ([x] = insS [] x) := rfl
              have HRN : Hid (∀ W, Rds W none []) := fun W k hk => absurd hk (Nat.not_lt_zero k)
              have HS1 : Hid (([] : List ByteArray).length + 0 ≤ 1099511627776) := by rw [Hid, List.length_nil]; omega
              have HT3 : Hid (([] : List ByteArray).length ≤ 1099511627776) := by rw [Hid, List.length_nil]; omega
              have HS2 : Hid ([x].length + 0 ≤ 1099511627776) := by rw [Hid, List.length_singleton]; omega
              clear HLL HLM
              go_wp2
              go_loopw [9] (fun k w' => k = .int .i64 0 ∧ Below wi.heap.size wi w') (fun _ _ => 0)
              case atStart => exact ⟨by go_num, Below.refl _ _⟩
              case round =>
                obtain ⟨rfl, hV⟩ := hrel
                obtain ⟨wl, rfl⟩ : ∃ wo : World, wo = wr := ⟨_, rfl⟩
                have HV := Lib.hid hV
                clear hV
                go_wp2
                go_quiet (fail)
                have HVd : Hid (∀ k, Below wi.heap.size wi (wl.drewN k)) := fun k => below_dn HV.out k
                go_upto_region 18 with (at_builtin; go_must (refine apps_any _ rfl (.tmp 71) (.tmp 74) 51 rfl wi.heap.size 9 i0 Try.underlying51 HI.out _ [] rfl (Ows.nil _ _ _) none 0 0 [] rfl rfl (Nat.le_refl _) (fun _ => ⟨rfl, rfl⟩) (HRN.out _) HS1.out ((HVd.out _).size) ?_); intro v4 w4 hv4 hg4; have HO4 : Hid (Ows w4 wi.heap.size 9 v4 []) := hv4; have HB4 : Hid (Below wi.heap.size wi w4) := (HVd.out _).grown hg4 (HVd.out _).size (fun k h => (by cases h)); have h7 := HCX.out w4 (HB1.out.trans (HB4.out.mono HB1.out.size)); clear hv4 hg4)
                go_upto_region 19 with (at_builtin; go_must (refine pushs_law _ rfl (.tmp 76) (.tmp 81) 51 rfl wi.heap.size 9 i0 Try.underlying51 HI.out _ [] x rfl rfl HO4.out HT3.out HB4.out.size ?_); intro v5 w5 hv5 hg5 hat5; have HO5 : Hid (Ows w5 wi.heap.size 9 v5 [x]) := hv5; have HB5 : Hid (Below wi.heap.size wi w5) := HB4.out.grown hg5 HB4.out.size (fun k h => (HO4.out.lt h).1); clear hv5 hg5 hat5)
                go_wp2_with (at_builtin; go_must (refine apps_any _ rfl (.tmp 83) (.tmp 86) 51 rfl wi.heap.size 9 i0 Try.underlying51 HI.out _ [x] rfl HO5.out none 0 0 [] rfl rfl (Nat.le_refl _) (fun _ => ⟨rfl, rfl⟩) (HRN.out _) HS2.out HB5.out.size ?_); intro v6 w6 hv6 hg6; have HO6 : Hid (Ows w6 wi.heap.size 9 v6 (insS [] x)) := (by rw [Hid, ← HIN.out]; exact hv6); have HB6 : Hid (Below wi.heap.size wi w6) := HB5.out.grown hg6 HB5.out.size (fun k h => (HO5.out.lt h).1); clear hv6 hg6)
                exact ⟨⟨i + 1, by omega, by go_num, by rw [HST2.out]; exact HO6.out.base HB2.out.size, HB2.out.trans (HB6.out.mono HB2.out.size)⟩, by simp [intOf] <;> omega⟩
            · have HG : Hid (∀ W, Below wi.heap.size wi W → ∀ p, p < m → W.cell? ⟨g, p, none⟩ = some (.string (L[p]?.getD ByteArray.empty))) := fun W hb p hp => (hb.cell (p := ⟨g, p, none⟩) hg).trans (hcs p hp)
              have HML := Lib.hid hm
              have HZL : Hid (∀ p, p < m → (L[p]?.getD ByteArray.empty).size ≤ 100) := fun p hp => by
                have h1 : L[p]?.getD ByteArray.empty ∈ L := by
                  rw [List.getElem?_eq_getElem (by rw [HML.out]; exact hp)]; exact List.getElem_mem _
                rw [HLL.out] at h1
                obtain ⟨q, _, _, e⟩ := (minTo_mem ss _ i).1 h1
                rw [HLL.out, ← e]; exact HZ.out q
              clear hcs hm
              go_wp2
              go_loopw [9] (fun k w' => ∃ p : Nat, p ≤ m ∧ k = .int .i64 (p : Int) ∧ Hid (∀ q, q < p → lessL (bs (L[q]?.getD ByteArray.empty)) (bs x) = true) ∧ Below wi.heap.size wi w') (fun k _ => m - (intOf k).toNat)
              case atStart => exact ⟨0, by omega, by go_num, (fun q hq => absurd hq (by omega)), Below.refl _ _⟩
              case round =>
                obtain ⟨p, hp, rfl, HLE, hV⟩ := hrel
                obtain ⟨wl, rfl⟩ : ∃ wo : World, wo = wr := ⟨_, rfl⟩
                by_cases hpm : p < m
                · have h5 := HG.out wl hV p hpm
                  have h6 := HCX.out wl (HB1.out.trans (hV.mono HB1.out.size))
                  have hzp := HZL.out p hpm
                  have g1 : decide ((p : Int) < (m : Int)) = true := by rw [decide_eq_true_iff]; omega
                  have g2 : decide (p < m) = true := decide_eq_true hpm
                  have HRF : lessL (bs (L[p]?.getD ByteArray.empty)) (bs x) = false → rankS x L = p := fun h => rankS_of x L p (by rw [HML.out]; exact hp) HLE.out (fun _ => h)
                  have HRT : lessL (bs (L[p]?.getD ByteArray.empty)) (bs x) = true → ∀ q, q < p + 1 → lessL (bs (L[q]?.getD ByteArray.empty)) (bs x) = true := fun h q hq => by
                    by_cases e : q = p
                    · rw [e]; exact h
                    · exact HLE.out q (by omega)
                  generalize L[p]?.getD ByteArray.empty = y at h5 hzp HRF HRT
                  have HLS := Lib.hid (fun W => less_any y x W (by omega) (by omega))
                  generalize lessL (bs y) (bs x) = lb at HLS HRF HRT
                  cases lb with
                  | true =>
                    have HR := Lib.hid (HRT rfl)
                    clear HRT HRF
                    go_wp2
                    go_quiet ((go_at_call 68; exact quiet_same (HLS.out _)))
                    go_wp2
                    exact ⟨⟨p + 1, by omega, by go_num, HR.out, below_dn hV _⟩, by simp [intOf] <;> omega⟩
                  | false =>
                    have HRK := Lib.hid (HRF rfl)
                    clear HRT HRF
                    have HIN : Hid (L.take p ++ [x] ++ L.drop p = insS L x) := by rw [Hid, insS, HRK.out]
                    have HT1 : Hid ((L.take p).length = p) := by rw [Hid, List.length_take, HML.out]; omega
                    have HT2 : Hid ((L.drop p).length = m - p) := by rw [Hid, List.length_drop, HML.out]
                    have HT3 : Hid ((L.take p).length ≤ 1099511627776) := by rw [Hid, HT1.out]; omega
                    have HR1 : Hid (∀ W, Below wi.heap.size wi W → Rds W (some ⟨g, 0, none⟩) (L.take p)) := fun W hb k hk => ⟨g, 0, rfl, by
                      rw [HT1.out] at hk
                      rw [Nat.zero_add, HG.out W hb k (by omega), List.getElem?_take, if_pos (by omega)]⟩
                    have HR2 : Hid (∀ W, Below wi.heap.size wi W → ∀ A, (A = some ⟨g, p, none⟩ ∨ p = m) → Rds W A (L.drop p)) := fun W hb A hA k hk => by
                      rw [HT2.out] at hk
                      rcases hA with rfl | hA
                      · exact ⟨g, p, rfl, by rw [HG.out W hb (p + k) (by omega), List.getElem?_drop]⟩
                      · omega
                    have HV := Lib.hid hV
                    clear hV HRK HLE
                    go_wp2
                    go_quiet ((go_at_call 68; exact quiet_same (HLS.out _)))
                    clear HLS h5 h6 HZL
                    have HVd : Hid (∀ k, Below wi.heap.size wi (wl.drewN k)) := fun k => below_dn HV.out k
                    have HS1 : Hid (([] : List ByteArray).length + p ≤ 1099511627776) := by rw [Hid, List.length_nil]; omega
                    go_upto_region 18 with (at_builtin; go_must (refine apps_any _ rfl (.tmp 71) (.tmp 74) 51 rfl wi.heap.size 9 i0 Try.underlying51 HI.out _ [] rfl (Ows.nil _ _ _) (some ⟨g, 0, none⟩) p cap (L.take p) rfl HT1.out (by omega) (fun h => (by cases h)) (HR1.out _ (HVd.out _)) HS1.out ((HVd.out _).size) ?_); intro v4 w4 hv4 hg4; have HO4 : Hid (Ows w4 wi.heap.size 9 v4 (L.take p)) := hv4; have HB4 : Hid (Below wi.heap.size wi w4) := (HVd.out _).grown hg4 (HVd.out _).size (fun k h => (by cases h)); have h7 := HCX.out w4 (HB1.out.trans (HB4.out.mono HB1.out.size)); clear hv4 hg4)
                    go_upto_region 19 with (at_builtin; go_must (refine pushs_law _ rfl (.tmp 76) (.tmp 81) 51 rfl wi.heap.size 9 i0 Try.underlying51 HI.out _ (L.take p) x rfl rfl HO4.out HT3.out HB4.out.size ?_); intro v5 w5 hv5 hg5 hat5; have HO5 := Lib.hid hv5; have HB5 : Hid (Below wi.heap.size wi w5) := HB4.out.grown hg5 HB4.out.size (fun k h => (HO4.out.lt h).1); clear hv5 hg5 hat5)
                    have HS2 : Hid ((L.take p ++ [x]).length + (m - p) ≤ 1099511627776) := by rw [Hid, List.length_append, HT1.out, List.length_singleton]; omega
                    by_cases hcp : cap = p
                    · go_wp2_with (at_builtin; go_must (refine apps_any _ rfl (.tmp 83) (.tmp 86) 51 rfl wi.heap.size 9 i0 Try.underlying51 HI.out _ (L.take p ++ [x]) rfl HO5.out _ _ _ (L.drop p) rfl HT2.out (by omega) (fun h => (by cases h)) (HR2.out _ HB5.out _ (.inr (by omega))) HS2.out HB5.out.size ?_); intro v6 w6 hv6 hg6; have HO6 : Hid (Ows w6 wi.heap.size 9 v6 (insS L x)) := (by rw [Hid, ← HIN.out]; exact hv6); have HB6 : Hid (Below wi.heap.size wi w6) := HB5.out.grown hg6 HB5.out.size (fun k h => (HO5.out.lt h).1); clear hv6 hg6)
                      exact ⟨⟨i + 1, by omega, by go_num, by rw [HST2.out]; exact HO6.out.base HB2.out.size, HB2.out.trans (HB6.out.mono HB2.out.size)⟩, by simp [intOf] <;> omega⟩
                    · go_wp2_with (at_builtin; go_must (refine apps_any _ rfl (.tmp 83) (.tmp 86) 51 rfl wi.heap.size 9 i0 Try.underlying51 HI.out _ (L.take p ++ [x]) rfl HO5.out _ _ _ (L.drop p) rfl HT2.out (by omega) (fun h => (by cases h)) (HR2.out _ HB5.out _ (.inl rfl)) HS2.out HB5.out.size ?_); intro v6 w6 hv6 hg6; have HO6 : Hid (Ows w6 wi.heap.size 9 v6 (insS L x)) := (by rw [Hid, ← HIN.out]; exact hv6); have HB6 : Hid (Below wi.heap.size wi w6) := HB5.out.grown hg6 HB5.out.size (fun k h => (HO5.out.lt h).1); clear hv6 hg6)
                      exact ⟨⟨i + 1, by omega, by go_num, by rw [HST2.out]; exact HO6.out.base HB2.out.size, HB2.out.trans (HB6.out.mono HB2.out.size)⟩, by simp [intOf] <;> omega⟩
                · obtain rfl : p = m := by omega
                  have g1 : decide ((p : Int) < (p : Int)) = false := by rw [decide_eq_false_iff_not]; omega
                  have g2 : decide (p < p) = false := decide_eq_false hpm
                  have HRK : Hid (rankS x L = p) := rankS_of x L p (by rw [HML.out]; exact Nat.le_refl _) HLE.out (fun h => by rw [HML.out] at h; omega)
                  have HIN : Hid (L.take p ++ [x] ++ L.drop p = insS L x) := by rw [Hid, insS, HRK.out]
                  have HT1 : Hid ((L.take p).length = p) := by rw [Hid, List.length_take, HML.out]; omega
                  have HT2 : Hid ((L.drop p).length = 0) := by rw [Hid, List.length_drop, HML.out]; omega
                  have HT3 : Hid ((L.take p).length ≤ 1099511627776) := by rw [Hid, HT1.out]; omega
                  have HR1 : Hid (∀ W, Below wi.heap.size wi W → Rds W (some ⟨g, 0, none⟩) (L.take p)) := fun W hb k hk => ⟨g, 0, rfl, by
                    rw [HT1.out] at hk
                    rw [Nat.zero_add, HG.out W hb k (by omega), List.getElem?_take, if_pos (by omega)]⟩
                  have HR2 : Hid (∀ W, Below wi.heap.size wi W → ∀ A, (A = some ⟨g, p, none⟩ ∨ p = p) → Rds W A (L.drop p)) := fun W hb A hA k hk => by
                    rw [HT2.out] at hk
                    rcases hA with rfl | hA
                    · exact ⟨g, p, rfl, by rw [HG.out W hb (p + k) (by omega), List.getElem?_drop]⟩
                    · omega
                  have HV := Lib.hid hV
                  clear hV HRK HLE
                  go_wp2
                  go_quiet (fail)
                  have HVd : Hid (∀ k, Below wi.heap.size wi (wl.drewN k)) := fun k => below_dn HV.out k
                  have HS1 : Hid (([] : List ByteArray).length + p ≤ 1099511627776) := by rw [Hid, List.length_nil]; omega
                  go_upto_region 18 with (at_builtin; go_must (refine apps_any _ rfl (.tmp 71) (.tmp 74) 51 rfl wi.heap.size 9 i0 Try.underlying51 HI.out _ [] rfl (Ows.nil _ _ _) (some ⟨g, 0, none⟩) p cap (L.take p) rfl HT1.out (by omega) (fun h => (by cases h)) (HR1.out _ (HVd.out _)) HS1.out ((HVd.out _).size) ?_); intro v4 w4 hv4 hg4; have HO4 : Hid (Ows w4 wi.heap.size 9 v4 (L.take p)) := hv4; have HB4 : Hid (Below wi.heap.size wi w4) := (HVd.out _).grown hg4 (HVd.out _).size (fun k h => (by cases h)); have h7 := HCX.out w4 (HB1.out.trans (HB4.out.mono HB1.out.size)); clear hv4 hg4)
                  go_upto_region 19 with (at_builtin; go_must (refine pushs_law _ rfl (.tmp 76) (.tmp 81) 51 rfl wi.heap.size 9 i0 Try.underlying51 HI.out _ (L.take p) x rfl rfl HO4.out HT3.out HB4.out.size ?_); intro v5 w5 hv5 hg5 hat5; have HO5 := Lib.hid hv5; have HB5 : Hid (Below wi.heap.size wi w5) := HB4.out.grown hg5 HB4.out.size (fun k h => (HO4.out.lt h).1); clear hv5 hg5 hat5)
                  have HS2 : Hid ((L.take p ++ [x]).length + 0 ≤ 1099511627776) := by rw [Hid, List.length_append, HT1.out, List.length_singleton]; omega
                  by_cases hcp : cap = p
                  · go_wp2_with (at_builtin; go_must (refine apps_any _ rfl (.tmp 83) (.tmp 86) 51 rfl wi.heap.size 9 i0 Try.underlying51 HI.out _ (L.take p ++ [x]) rfl HO5.out _ _ _ (L.drop p) rfl HT2.out (by omega) (fun h => (by cases h)) (HR2.out _ HB5.out _ (.inr trivial)) HS2.out HB5.out.size ?_); intro v6 w6 hv6 hg6; have HO6 : Hid (Ows w6 wi.heap.size 9 v6 (insS L x)) := (by rw [Hid, ← HIN.out]; exact hv6); have HB6 : Hid (Below wi.heap.size wi w6) := HB5.out.grown hg6 HB5.out.size (fun k h => (HO5.out.lt h).1); clear hv6 hg6)
                    exact ⟨⟨i + 1, by omega, by go_num, by rw [HST2.out]; exact HO6.out.base HB2.out.size, HB2.out.trans (HB6.out.mono HB2.out.size)⟩, by simp [intOf] <;> omega⟩
                  · go_wp2_with (at_builtin; go_must (refine apps_any _ rfl (.tmp 83) (.tmp 86) 51 rfl wi.heap.size 9 i0 Try.underlying51 HI.out _ (L.take p ++ [x]) rfl HO5.out _ _ _ (L.drop p) rfl HT2.out (by omega) (fun h => (by cases h)) (HR2.out _ HB5.out _ (.inl rfl)) HS2.out HB5.out.size ?_); intro v6 w6 hv6 hg6; have HO6 : Hid (Ows w6 wi.heap.size 9 v6 (insS L x)) := (by rw [Hid, ← HIN.out]; exact hv6); have HB6 : Hid (Below wi.heap.size wi w6) := HB5.out.grown hg6 HB5.out.size (fun k h => (HO5.out.lt h).1); clear hv6 hg6)
                    exact ⟨⟨i + 1, by omega, by go_num, by rw [HST2.out]; exact HO6.out.base HB2.out.size, HB2.out.trans (HB6.out.mono HB2.out.size)⟩, by simp [intOf] <;> omega⟩
          · have hkb' : keepB ss i = false := by simpa using hkb
            have HST2 : Hid (minTo ss (i + 1) = minTo ss i) := by rw [Hid, HST.out, if_neg hkb]
            rw [hkb']
            clear HST HKB hkb hkb'
            go_wp2
            exact ⟨⟨i + 1, by omega, by go_num, by rw [HST2.out]; exact HO2.out, HB2.out⟩, by simp [intOf] <;> omega⟩
    · obtain rfl : i = n := by omega
      have HM : Hid (minOf ss = minTo ss i) := by rw [Hid, minOf, HS.out.len]
      go_wp2
      go_ret
      exact ⟨_, rfl, by rw [HM.out]; exact HO.out, hW⟩
end Go.Proofs.Ytkemcmeagnggeaa
