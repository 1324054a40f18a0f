/- Texts that are drawn: contracts. No condition. -/
import Derived.Test.YtempfagjbpnlcaaRd2
import Derived.Test.YtempfagjbpnlcaaDr
import Derived.Test.YtempfagjbpnlcaaC2
import Derived.Deep.RegionHeld3
import Derived.WalkSpells
import Derived.Deep.RegionWith
namespace Go.Proofs.Ytempfagjbpnlcaa
open Go.RowKit

set_option maxRecDepth 100000 in
theorem of_lit (g p : Nat) (w : World) (hrd : Rd w g p) (hp : p ≤ 1000000) (ss : List ByteArray) (hz : 0 < ss.length) (hl : ss.length ≤ 1000000) (hm : ∀ s ∈ ss, s.size ≤ 2) (n : Nat) (hn : ss.length = n) (vs : Array Value) (hvs : vs = (ss.map Value.string).toArray) :
    Calls Try.prog 51 #[.pointer (some ⟨g, 0, none⟩), .slice (some ⟨w.heap.size, 0, none⟩) n n] (w.alloc (.cells vs 9)) fun e w' => ∃ s : ByteArray, e = .returned (.string s) ∧ s.size ≤ 2 ∧ Rd w' g (p + 1) ∧ w.grownBy w' (some g) := by
  subst hn hvs
  have hgl := hrd.lt
  have hrd0 := hrd.own (World.grownBy_alloc w (.cells (ss.map Value.string).toArray 9) none) (by simp)
  have HM := Lib.hid hm
  clear hm
  have hrow : Own (w.alloc (.cells (ss.map Value.string).toArray 9)) 0 (w.heap.size + 1) (some ⟨w.heap.size, 0, none⟩) (ss.map Value.string) := by
    have := own_new w (ss.map Value.string).toArray 9
    simpa using this
  go_enter Try.func51, Try.ntmps51
  go_wp2_with fail
  refine (pick_any g p _ _ hrd0 hp (by omega)).mono ?_
  rintro e w1 ⟨k, rfl, hk, hrd1, hg1⟩
  obtain ⟨j, rfl⟩ := Int.eq_ofNat_of_zero_le hk.1
  have hj : j < ss.length := by have := hk.2 (by omega); omega
  have hrow1 := hrow.grown (by simp) hg1 (by intro b o e; simp at e; omega)
  obtain ⟨b, o, e, hb, hc⟩ := hrow1.open (by simp; omega)
  simp only [Option.some.injEq, Addr.mk.injEq, and_true] at e
  obtain ⟨rfl, rfl⟩ := e
  have hcell := hc j (.string ss[j]) (by simp [List.getElem?_map, List.getElem?_eq_getElem hj])
  have hsz := HM.out _ (List.getElem_mem hj)
  obtain ⟨s, hs⟩ : ∃ s, ss[j] = s := ⟨_, rfl⟩
  rw [hs] at hcell hsz
  rw [Nat.zero_add] at hcell
  have hG := Lib.hid (And.intro hrd1 (grown_trans (World.grownBy_alloc w _ _) hg1))
  clear hc hs hk hrow hrow1 hg1 hrd1 hrd0
  go_wp2
  go_ret
  exact ⟨s, rfl, hsz, hG.out.1, hG.out.2⟩

theorem strT : Try.prog.underlying 9 = some .string := Try.underlying9

/-- A text cut. -/
theorem cut_to (s : ByteArray) (k : Nat) (h : k ≤ s.size) (W : World) : (Instr.slice 9 (.string s) none (some (.int .i64 (k : Int))) none).run Try.prog W = .ok (.string (s.extract 0 k)) W := by
  have h1 : (0 : Int) ≤ (k : Int) := by omega
  have h2 : (k : Int) ≤ (s.size : Int) := by omega
  go_simp
theorem cut_from (s : ByteArray) (k : Nat) (h : k ≤ s.size) (W : World) : (Instr.slice 9 (.string s) (some (.int .i64 (k : Int))) none none).run Try.prog W = .ok (.string (s.extract k s.size)) W := by
  have h1 : (0 : Int) ≤ (k : Int) := by omega
  have h2 : (k : Int) ≤ (s.size : Int) := by omega
  go_simp

theorem of_litD (g p : Nat) (w : World) (hrd : Rd w g p) (hp : p ≤ 1000000) (ss : List ByteArray) (hz : 0 < ss.length) (hl : ss.length ≤ 1000000) (hm : ∀ s ∈ ss, s.size ≤ 2) (n : Nat) (hn : ss.length = n) (vs : Array Value) (hvs : vs = (ss.map Value.string).toArray) :
    Calls Try.prog 51 #[.pointer (some ⟨g, 0, none⟩), .slice (some ⟨w.heap.size, 0, none⟩) n n] (w.alloc (.cells vs 9)).drew fun e w' => ∃ s : ByteArray, e = .returned (.string s) ∧ s.size ≤ 2 ∧ Rd w' g (p + 1) ∧ w.grownBy w' (some g) := by
  have hd : Rd w.drew g p := hrd.own (g_drew (World.grownBy.refl w none)) (by simp)
  have h := of_lit g p w.drew hd hp ss hz hl hm n hn vs hvs
  refine Calls.mono (w := (w.alloc (.cells vs 9)).drew) h ?_
  rintro e w' ⟨s, h1, h2, h3, h4⟩
  exact ⟨s, h1, h2, h3, grown_trans (g_drew (World.grownBy.refl w (some g))) h4⟩


set_option maxRecDepth 100000 in
set_option maxHeartbeats 4000000 in
theorem mutate_any (g p : Nat) (s : ByteArray) (w : World) (hrd : Rd w g p) (hp : p ≤ 100000) (hs : s.size ≤ 1000) :
    Calls Try.prog 52 #[.pointer (some ⟨g, 0, none⟩), .string s] w fun e w' => ∃ t : ByteArray, e = .returned (.string t) ∧ t.size ≤ s.size + 2 ∧ (∃ q, q ≤ p + 3 ∧ Rd w' g q) ∧ w.grownBy w' (some g) := by
  have hgl := hrd.lt
  go_enter Try.func52, Try.ntmps52
  go_wp2_with fail
  refine (pick_any g p _ _ hrd (by omega) (by omega)).mono ?_
  rintro e w1 ⟨k, rfl, hk, hrd1, hg1⟩
  obtain ⟨j, rfl⟩ := Int.eq_ofNat_of_zero_le hk.1
  have hj := hk.2 (by omega)
  have hjl : j ≤ s.size := by omega
  clear hk hj
  go_wp2_with fail
  refine (pick_any g _ _ _ hrd1 (by omega) (by omega)).mono ?_
  rintro e w2 ⟨q, rfl, hq, hrd2, hg2⟩
  have hq5 := hq.2 (by omega)
  have hq0 := hq.1
  have hg12 := grown_trans hg1 hg2
  clear hq hg1 hg2 hrd1
  have hcases : q = 0 ∨ q = 1 ∨ q = 2 ∨ q = 3 ∨ q = 4 := by omega
  rcases hcases with rfl | rfl | rfl | rfl | rfl
  · by_cases hlt : j < s.size
    · have hltI : (j : Int) < (s.size : Int) := by omega
      have hb0 : (0 : Int) ≤ (j : Int) := by omega
      have hb0' : (j : Int) ≤ (s.size : Int) := by omega
      have hb1 : (0 : Int) ≤ (j : Int) + 1 := by omega
      have hb2 : (j : Int) + 1 ≤ (s.size : Int) := by omega
      have hb3 : ((j : Int) + 1).toNat = j + 1 := by omega
      have hp2 : p + 1 + 1 ≤ 1000000 := by omega
      have e1 : IntKind.i64.wrap ((j : Int) + 1) = (j : Int) + 1 := IntWalk.i64_in _ (by omega)
      go_wp2
      go_region_with ((first | (go_at_call 51; (refine (of_litD g _ w2 hrd2 hp2 [⟨#[49]⟩, ⟨#[48]⟩, ⟨#[45]⟩, ⟨#[44]⟩, ⟨#[32]⟩, ⟨#[120]⟩] (by decide) (by decide) (by decide) 6 rfl _ rfl).mono ?_); rintro e w3 ⟨t, rfl, ht, hrd3, hg3⟩) | fail))
      all_goals
        clear e1
        go_simp
        go_wp2
        go_ret
        exact ⟨_, rfl, by simp only [ByteArray.size_append, ByteArray.size_extract]; omega, ⟨_, by omega, hrd3⟩, grown_trans hg12 hg3⟩
    · have hltI : ¬ (j : Int) < (s.size : Int) := by omega
      have hd : decide (j < s.size) = false := decide_eq_false hlt
      go_wp2
      go_ret
      exact ⟨s, rfl, by omega, ⟨_, by omega, hrd2⟩, hg12⟩
  · by_cases hlt : j < s.size
    · have hltI : (j : Int) < (s.size : Int) := by omega
      have hb0 : (0 : Int) ≤ (j : Int) := by omega
      have hb0' : (j : Int) ≤ (s.size : Int) := by omega
      have hb1 : (0 : Int) ≤ (j : Int) + 1 := by omega
      have hb2 : (j : Int) + 1 ≤ (s.size : Int) := by omega
      have hb3 : ((j : Int) + 1).toNat = j + 1 := by omega
      have hp2 : p + 1 + 1 ≤ 1000000 := by omega
      have e1 : IntKind.i64.wrap ((j : Int) + 1) = (j : Int) + 1 := IntWalk.i64_in _ (by omega)
      go_wp2
      go_region_with ((first | (go_at_call 51; (refine (of_litD g _ w2 hrd2 hp2 [⟨#[49]⟩, ⟨#[48]⟩, ⟨#[45]⟩, ⟨#[44]⟩, ⟨#[32]⟩, ⟨#[120]⟩] (by decide) (by decide) (by decide) 6 rfl _ rfl).mono ?_); rintro e w3 ⟨t, rfl, ht, hrd3, hg3⟩) | fail))
      all_goals
        clear e1
        go_simp
        go_wp2
        go_ret
        exact ⟨_, rfl, by simp only [ByteArray.size_append, ByteArray.size_extract]; omega, ⟨_, by omega, hrd3⟩, grown_trans hg12 hg3⟩
    · have hltI : ¬ (j : Int) < (s.size : Int) := by omega
      have hd : decide (j < s.size) = false := decide_eq_false hlt
      go_wp2
      go_ret
      exact ⟨s, rfl, by omega, ⟨_, by omega, hrd2⟩, hg12⟩
  · have hb0 : (0 : Int) ≤ (j : Int) := by omega
    have hb0' : (j : Int) ≤ (s.size : Int) := by omega
    go_wp2
    go_ret
    exact ⟨_, rfl, by simp only [ByteArray.size_extract]; omega, ⟨_, by omega, hrd2⟩, hg12⟩
  · have hp2 : p + 1 + 1 ≤ 1000000 := by omega
    go_wp2_with fail
    refine (of_lit g _ w2 hrd2 hp2 [⟨#[49]⟩, ⟨#[44, 50]⟩, ⟨#[32]⟩, ⟨#[120]⟩] (by decide) (by decide) (by decide) 4 rfl _ rfl).mono ?_
    rintro e w3 ⟨t, rfl, ht, hrd3, hg3⟩
    go_wp2
    go_ret
    exact ⟨_, rfl, by simp only [ByteArray.size_append]; omega, ⟨_, by omega, hrd3⟩, grown_trans hg12 hg3⟩
  · go_wp2
    go_ret
    exact ⟨s, rfl, by omega, ⟨_, by omega, hrd2⟩, hg12⟩


theorem g_drewN {a b : World} {row : Option Nat} (h : a.grownBy b row) (n : Nat) : a.grownBy (b.drewN n) row := ⟨h.os, h.tape, h.output, h.size, h.block⟩

set_option maxRecDepth 100000 in
set_option maxHeartbeats 4000000 in
theorem nearCode_any (g p : Nat) (w : World) (hrd : Rd w g p) (hp : p ≤ 1000) :
    Calls Try.prog 35 #[.pointer (some ⟨g, 0, none⟩)] w fun e w' => ∃ t : ByteArray, e = .returned (.string t) ∧ t.size ≤ 100 ∧ w.grownBy w' (some g) := by
  have hgl := hrd.lt
  go_enter Try.func35, Try.ntmps35
  go_wp2_with fail
  refine (listOf_any g p 4 0 9 w hrd (by omega) (by omega) (by omega) (by omega) (by omega)).mono ?_
  rintro e w1 ⟨A, c, zs, rfl, hzl, hzs, ho, hrd1, hg1⟩
  have hv : validD zs = true := by
    simp only [validD, Bool.and_eq_true, List.all_eq_true, beq_iff_eq]
    refine ⟨fun z hz => ?_, by omega⟩
    have := hzs z hz
    simp [inR]; omega
  have hct := specCodeText_any' A c zs w1 ho.row hv
  obtain ⟨b, hB, hsz⟩ : ∃ b : ByteArray, str (codeL zs (chk zs 0 % 11)) = .string b ∧ b.size = 6 := by
    refine ⟨_, rfl, ?_⟩
    show (codeL zs (chk zs 0 % 11)).length = 6
    have : zs.length = 4 := by omega
    simp [codeL, this]
  rw [hB] at hct
  have HCT := Lib.hid hct
  have h6 : b.size ≤ 6 := by omega
  have h6' : 6 ≤ b.size := by omega
  clear hv hct hB hsz hzs hzl ho
  go_wp2_with fail
  refine HCT.out.mono ?_
  rintro e w2 ⟨rfl, n, hw2⟩
  have hg2 : w1.grownBy w2 none := by rw [hw2]; exact g_drewN (World.grownBy.refl _ _) n
  have hrd2 := hrd1.own hg2 (by simp)
  have hg12 : w.grownBy w2 (some g) := by rw [hw2]; exact g_drewN hg1 n
  clear hw2 hg1 hrd1 hg2
  have h4 : (4 : Int).toNat = 4 := rfl
  rw [h4] at hrd2
  clear h4
  go_wp2_with fail
  refine (pick_any g _ _ _ hrd2 (by omega) (by omega)).mono ?_
  rintro e w3 ⟨k, rfl, hk, hrd3, hg3⟩
  obtain ⟨j, rfl⟩ := Int.eq_ofNat_of_zero_le hk.1
  have hj := hk.2 (by omega)
  have hj5 : j ≤ 5 := by omega
  have hg13 := grown_trans hg12 hg3
  clear hk hj hg12 hg3 hrd2
  go_wp2_with fail
  refine (pick_any g _ _ _ hrd3 (by omega) (by omega)).mono ?_
  rintro e w4 ⟨q, rfl, hq, hrd4, hg4⟩
  have hq4 := hq.2 (by omega)
  have hq0 := hq.1
  have hg14 := grown_trans hg13 hg4
  clear hq hg13 hg4 hrd3
  have hcases : q = 0 ∨ q = 1 ∨ q = 2 ∨ q = 3 := by omega
  have hb0 : (0 : Int) ≤ (j : Int) := by omega
  have hb0' : (j : Int) ≤ (b.size : Int) := by omega
  have hb1 : (0 : Int) ≤ (j : Int) + 1 := by omega
  have hb2 : (j : Int) + 1 ≤ (b.size : Int) := by omega
  have hb3 : ((j : Int) + 1).toNat = j + 1 := by omega
  rcases hcases with rfl | rfl | rfl | rfl
  · by_cases hj4 : (j : Int) = 4
    · have ht : ((j : Int) != 4) = false := by simp [hj4]
      clear hj4
      go_wp2
      go_ret
      exact ⟨b, rfl, by omega, hg14⟩
    · have ht : ((j : Int) != 4) = true := by simpa using hj4
      have hp2 : p + 4 + 1 + 1 ≤ 1000000 := by omega
      clear hj4
      have e1 : IntKind.i64.wrap ((j : Int) + 1) = (j : Int) + 1 := IntWalk.i64_in _ (by omega)
      go_wp2
      go_region_with ((first | (go_at_call 51; (refine (of_litD g _ w4 hrd4 hp2 [⟨#[48]⟩, ⟨#[49]⟩, ⟨#[50]⟩, ⟨#[51]⟩, ⟨#[52]⟩, ⟨#[53]⟩, ⟨#[54]⟩, ⟨#[55]⟩, ⟨#[56]⟩, ⟨#[57]⟩] (by decide) (by decide) (by decide) 10 rfl _ rfl).mono ?_); rintro e w5 ⟨t, rfl, ht2, hrd5, hg5⟩) | fail))
      all_goals
        clear e1
        go_simp
        go_wp2
        go_ret
        exact ⟨_, rfl, by simp only [ByteArray.size_append, ByteArray.size_extract]; omega, grown_trans hg14 hg5⟩
  · by_cases hj3 : j < 3
    · have hlt : (j : Int) < 3 := by omega
      have hb4 : (0 : Int) ≤ (j : Int) + 2 := by omega
      have hb5 : (j : Int) + 2 ≤ (b.size : Int) := by omega
      have hb6 : ((j : Int) + 2).toNat = j + 2 := by omega
      have hb7 : (j : Int) + 1 ≤ (j : Int) + 2 := by omega
      have hb8 : (j : Int) ≤ (j : Int) + 1 := by omega
      have e1 : IntKind.i64.wrap ((j : Int) + 1) = (j : Int) + 1 := IntWalk.i64_in _ (by omega)
      have e2 : IntKind.i64.wrap ((j : Int) + 2) = (j : Int) + 2 := IntWalk.i64_in _ (by omega)
      clear hj3
      go_wp2
      go_quiet (fail)
      clear e1 e2
      go_wp2
      go_ret
      exact ⟨_, rfl, by simp only [ByteArray.size_append, ByteArray.size_extract]; omega, g_drewN hg14 _⟩
    · have hlt : ¬ (j : Int) < 3 := by omega
      clear hj3
      go_wp2
      go_ret
      exact ⟨b, rfl, by omega, hg14⟩
  · go_wp2_with fail
    refine (pick_any g _ _ _ hrd4 (by omega) (by omega)).mono ?_
    rintro e w5 ⟨q5, rfl, hq5, hrd5, hg5⟩
    have hg15 := grown_trans hg14 hg5
    clear hq5
    by_cases hz : q5 = 0
    · subst hz
      go_wp2_with fail
      refine (mutate_any g _ b w5 hrd5 (by omega) (by omega)).mono ?_
      rintro e w6 ⟨t, rfl, ht, _, hg6⟩
      go_wp2
      go_ret
      exact ⟨t, rfl, by omega, grown_trans hg15 hg6⟩
    · have hqq : (q5 == 0) = false := beq_eq_false_iff_ne.2 hz
      clear hz
      go_wp2
      go_ret
      exact ⟨b, rfl, by omega, hg15⟩
  · go_wp2
    go_ret
    exact ⟨b, rfl, by omega, hg14⟩

set_option maxRecDepth 100000 in
theorem drawReadCode_any (A : Option Addr) (c : Nat) (zs : List Int) (w : World) (hr : Own w 0 w.heap.size A (zs.map (Value.int .u8))) (hx : zs.length ≤ c ∧ c ≤ maxLen ∧ ∀ z ∈ zs, (Lit.int .u8 z).wf = true) :
    Calls Try.prog 14 #[.slice A zs.length c] w fun e w' => ∃ t : ByteArray, e = .returned (.string t) ∧ t.size ≤ 100 ∧ Below w.heap.size w w' := by
  have H := Lib.hid hx
  clear hx
  go_enter Try.func14, Try.ntmps14
  go_wp2_with fail
  refine (newReader_any _ _ _ _ hr H.out).mono ?_
  rintro e w1 ⟨rfl, hrd, hb1⟩
  go_wp2_with fail
  refine (nearCode_any _ 0 _ hrd (by omega)).mono ?_
  rintro e w2 ⟨t, rfl, ht, hg⟩
  go_wp2_with fail
  go_ret
  exact ⟨t, rfl, ht, hb1.grown hg hb1.size (fun k hk => by injection hk with hk; omega)⟩

set_option maxRecDepth 100000 in
theorem drawRepairsOf_any (A : Option Addr) (c : Nat) (zs : List Int) (w : World) (hr : Own w 0 w.heap.size A (zs.map (Value.int .u8))) (hx : zs.length ≤ c ∧ c ≤ maxLen ∧ ∀ z ∈ zs, (Lit.int .u8 z).wf = true) :
    Calls Try.prog 17 #[.slice A zs.length c] w fun e w' => ∃ t : ByteArray, e = .returned (.string t) ∧ t.size ≤ 100 ∧ Below w.heap.size w w' := by
  have H := Lib.hid hx
  clear hx
  go_enter Try.func17, Try.ntmps17
  go_wp2_with fail
  refine (newReader_any _ _ _ _ hr H.out).mono ?_
  rintro e w1 ⟨rfl, hrd, hb1⟩
  go_wp2_with fail
  refine (nearCode_any _ 0 _ hrd (by omega)).mono ?_
  rintro e w2 ⟨t, rfl, ht, hg⟩
  go_wp2_with fail
  go_ret
  exact ⟨t, rfl, ht, hb1.grown hg hb1.size (fun k hk => by injection hk with hk; omega)⟩
end Go.Proofs.Ytempfagjbpnlcaa
