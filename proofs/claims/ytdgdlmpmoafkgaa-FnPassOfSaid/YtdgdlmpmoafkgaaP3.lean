/- PassOf, both sides. No condition. -/
import Derived.Test.YtdgdlmpmoafkgaaP2
import Derived.Test.YtdgdlmpmoafkgaaAb
namespace Go.Proofs.Ytdgdlmpmoafkgaa
open Go.RowKit

def boxB (zs bs : List Int) (k : Int) : Bool := decide (1 ≤ k ∧ k ≤ 4) && decide (bs.length = zs.length) && bs.all (fun b => inR b 0 (k - 1))
def passV (zs bs : List Int) (k : Int) : List Int := if rowB 9 zs && boxB zs bs k then passL zs bs k.toNat else []

theorem boxB_yes {zs bs : List Int} {k : Int} (h : boxB zs bs k = true) : (1 ≤ k ∧ k ≤ 4) ∧ bs.length = zs.length ∧ ∀ (i : Nat) (hi : i < bs.length), 0 ≤ bs[i] ∧ bs[i] < k := by
  simp only [boxB, Bool.and_eq_true, decide_eq_true_eq] at h
  refine ⟨h.1.1, h.1.2, fun i hi => ?_⟩
  have := List.all_eq_true.1 h.2 _ (List.getElem_mem hi)
  simp only [inR, decide_eq_true_eq] at this
  omega

set_option maxRecDepth 100000 in
theorem boxForEach_any (A B : Option Addr) (c d : Nat) (zs bs : List Int) (k : Int) (w : World) (hs : Ints w w.heap.size B bs) (hk : 1 ≤ k ∧ k ≤ 4) (hlb : bs.length ≤ 9000000000000000000) :
    Calls Try.prog 35 #[.slice A zs.length c, .slice B bs.length d, .int .i64 k] w fun e w' => e = .returned (.bool (boxB zs bs k)) ∧ w = w' := by
  have hE : boxB zs bs k = (decide (bs.length = zs.length) && belB k bs) := by
    simp only [boxB, decide_eq_true hk, Bool.true_and]; rfl
  have HB := Lib.hid (areBelow_any B d bs k w hs hlb)
  by_cases hlen : bs.length = zs.length
  · have HF := Lib.hid (show boxB zs bs k = belB k bs by rw [hE, decide_eq_true hlen, Bool.true_and])
    have ht : ((bs.length : Int) == (zs.length : Int)) = true := by rw [hlen]; simp
    clear hlen hE
    go_enter Try.func35, Try.ntmps35
    go_wp2_with (go_at_call 56; (with_reducible refine HB.out.mono ?_); rintro e w' ⟨rfl, rfl⟩)
    go_ret
    exact ⟨ret_bool HF.out.symm, rfl⟩
  · have HF := Lib.hid (show boxB zs bs k = false by rw [hE, decide_eq_false hlen, Bool.false_and])
    have ht : ((bs.length : Int) == (zs.length : Int)) = false := by rw [beq_eq_false_iff_ne]; omega
    clear hlen hE
    go_enter Try.func35, Try.ntmps35
    go_wp2
    go_ret
    exact ⟨ret_bool HF.out.symm, rfl⟩

def passRes (w0 : World) (V : List Int) (e : Ending) (w' : World) : Prop := ∃ A' c', e = .returned (.slice A' V.length c') ∧ V.length ≤ c' ∧ OwnInts w' w0.heap.size w'.heap.size A' V ∧ Below w0.heap.size w0 w'

theorem passRes_nil (w : World) : passRes w [] (.returned (.slice none 0 0)) w := ⟨none, 0, rfl, by simp, .inl rfl, Below.refl _ _⟩

set_option maxRecDepth 100000 in
theorem impPassOf_any (A B : Option Addr) (c d : Nat) (zs bs : List Int) (k : Int) (w : World) (hr : Ints w w.heap.size A zs) (hs : Ints w w.heap.size B bs) (hlc : zs.length ≤ c) (hlb : bs.length ≤ 9000000000000000000) :
    Calls Try.prog 12 #[.slice A zs.length c, .slice B bs.length d, .int .i64 k] w (passRes w (passV zs bs k)) := by
  have hva := impValidRow_any A c zs w hr hlc
  by_cases hv : rowB 9 zs = true
  · rw [hv] at hva
    have HVA := Lib.hid hva
    have hl9 := rowB_len hv
    by_cases hk : 1 ≤ k ∧ k ≤ 4
    · have hbx := boxForEach_any A B c d zs bs k w hs hk hlb
      by_cases hb : boxB zs bs k = true
      · rw [hb] at hbx
        obtain ⟨_, hlen, hrange⟩ := boxB_yes hb
        obtain ⟨m, rfl⟩ := Int.eq_ofNat_of_zero_le (show 0 ≤ k by omega)
        have hpo := passOf_any A B c d zs bs m w hr hs hl9 hlen (by omega) hrange
        have hV : passV zs bs (m : Int) = passL zs bs m := by simp [passV, hv, hb]
        rw [hV]
        have HP := Lib.hid hpo
        have HBX := Lib.hid hbx
        have hk1 : 1 ≤ (m : Int) := hk.1
        have hk2 : (m : Int) ≤ 4 := hk.2
        clear hva hv hbx hb hlen hrange hpo hV hk
        go_enter Try.func12, Try.ntmps12
        go_wp2_with (first | (go_at_call 18; refine HVA.out.mono ?_; rintro e w' ⟨rfl, rfl⟩) | (go_at_call 35; refine HBX.out.mono ?_; rintro e w' ⟨rfl, rfl⟩) | (go_at_call 36; refine HP.out.mono ?_; rintro e w1 ⟨A1, c1, rfl, h1, h2, h3⟩))
        go_ret
        exact ⟨A1, c1, rfl, h1, h2, h3⟩
      · have hb' : boxB zs bs k = false := by simpa using hb
        rw [hb'] at hbx
        have hV : passV zs bs k = [] := by simp [passV, hb']
        rw [hV]
        have HBX := Lib.hid hbx
        have hk1 : 1 ≤ k := hk.1
        have hk2 : k ≤ 4 := hk.2
        clear hva hv hbx hb hb' hV hk
        go_enter Try.func12, Try.ntmps12
        go_wp2_with (first | (go_at_call 18; refine HVA.out.mono ?_; rintro e w' ⟨rfl, rfl⟩) | (go_at_call 35; refine HBX.out.mono ?_; rintro e w' ⟨rfl, rfl⟩))
        go_ret
        exact passRes_nil w
    · have hV : passV zs bs k = [] := by simp [passV, boxB, hk]
      rw [hV]
      clear hva hv hV
      by_cases h1 : k < 1
      · clear hk
        go_enter Try.func12, Try.ntmps12
        go_wp2_with (first | (go_at_call 18; refine HVA.out.mono ?_; rintro e w' ⟨rfl, rfl⟩))
        go_ret
        exact passRes_nil w
      · have h2 : 4 < k := by omega
        clear hk
        go_enter Try.func12, Try.ntmps12
        go_wp2_with (first | (go_at_call 18; refine HVA.out.mono ?_; rintro e w' ⟨rfl, rfl⟩))
        go_ret
        exact passRes_nil w
  · have hv' : rowB 9 zs = false := by simpa using hv
    rw [hv'] at hva
    have HVA := Lib.hid hva
    have hV : passV zs bs k = [] := by simp [passV, hv']
    rw [hV]
    clear hva hv hv' hV
    go_enter Try.func12, Try.ntmps12
    go_wp2_with (first | (go_at_call 18; refine HVA.out.mono ?_; rintro e w' ⟨rfl, rfl⟩))
    go_ret
    exact passRes_nil w

set_option maxRecDepth 100000 in
set_option maxHeartbeats 1000000 in
theorem validBoxes_any (B : Option Addr) (d : Nat) (n : Nat) (zs bs : List Int) (k : Int) (w : World) (hs : Ints w w.heap.size B bs) (hlb : bs.length ≤ 9000000000000000000) (hnz : n = zs.length) (hkw : (Lit.int .i64 k).wf = true) :
    Calls Try.prog 33 #[.slice B bs.length d, .int .i64 n, .int .i64 k] w fun e w' => e = .returned (.bool (boxB zs bs k)) ∧ w = w' := by
  have HNZ := Lib.hid hnz
  clear hnz
  have hkb : -9223372036854775808 ≤ k ∧ k ≤ 9223372036854775807 := by
    simp only [Lit.wf] at hkw
    rw [show IntKind.i64.min = -9223372036854775808 from by decide, show IntKind.i64.max = 9223372036854775807 from by decide] at hkw
    simpa using hkw
  clear hkw
  by_cases hk : 1 ≤ k ∧ k ≤ 4
  · obtain ⟨hk1, hk4⟩ := hk
    have hir := fun W => inRange_any k 1 4 W
    rw [show inR k 1 4 = true by simp [inR]; omega] at hir
    have HIR := Lib.hid hir
    clear hir hkb
    go_enter Try.func33, Try.ntmps33
    go_wp2
    go_loop [7] (fun i => ∃ j : Nat, j ≤ bs.length ∧ i = .int .i64 j ∧ (bs.take j).all (fun b => inR b 0 (k - 1)) = true) (fun i => bs.length - (intOf i).toNat)
    case atStart => exact ⟨0, by omega, rfl, by simp⟩
    case round =>
      obtain ⟨j, hj, rfl, hall⟩ := hrel
      have HA := Lib.hid hall; clear hall
      by_cases hlt : j < bs.length
      · obtain ⟨b, o, rfl, hb, hc⟩ := hs.open (by simp; omega)
        have hcell := ints_at hc hlt
        clear hc
        have hib := fun W => inRange_any bs[j] 0 (k - 1) W
        by_cases hin : inR bs[j] 0 (k - 1) = true
        · rw [hin] at hib
          have HI := Lib.hid hib
          have HIN := Lib.hid hin
          clear hib hin
          go_wp2_with (go_at_call 47; refine (HI.out _).mono ?_; rintro e w' ⟨rfl, rfl⟩)
          go_round
          case rel => exact ⟨j + 1, by omega, by go_num, by rw [take_all hlt, HA.out, HIN.out]; rfl⟩
          case measure => simp [intOf]; omega
        · have hin' : inR bs[j] 0 (k - 1) = false := by simpa using hin
          rw [hin'] at hib
          have HI := Lib.hid hib
          have HF := Lib.hid (show boxB zs bs k = false by
            have : bs.all (fun b => inR b 0 (k - 1)) = false := by
              rw [List.all_eq_false]
              exact ⟨bs[j], List.getElem_mem hlt, by rw [hin']; simp⟩
            simp [boxB, this])
          clear hib hin hin'
          go_wp2_with (go_at_call 47; refine (HI.out _).mono ?_; rintro e w' ⟨rfl, rfl⟩)
          go_ret
          exact ⟨ret_bool HF.out.symm, rfl⟩
      · have hj' : j = bs.length := by omega
        subst hj'
        have hall := HA.out
        rw [List.take_length] at hall
        by_cases hlen : bs.length = n
        · have ht : ((bs.length : Int) == (n : Int)) = true := beq_iff_eq.2 (by omega)
          have HT := Lib.hid (show boxB zs bs k = true by simp [boxB, hall, hk1, hk4, hlen, HNZ.out])
          clear hlen hall
          go_wp2_with (go_at_call 47; refine (HIR.out _).mono ?_; rintro e w' ⟨rfl, rfl⟩)
          go_ret
          exact ⟨ret_bool HT.out.symm, rfl⟩
        · have ht : ((bs.length : Int) == (n : Int)) = false := beq_eq_false_iff_ne.2 (by omega)
          have HT := Lib.hid (show boxB zs bs k = false by
            have : ¬ bs.length = zs.length := by rw [← HNZ.out]; exact hlen
            simp [boxB, this])
          clear hlen hall
          go_wp2
          go_ret
          exact ⟨ret_bool HT.out.symm, rfl⟩
  · have HF := Lib.hid (show boxB zs bs k = false by simp [boxB, hk])
    have hir := fun W => inRange_any k 1 4 W
    rw [show inR k 1 4 = false by simp [inR]; omega] at hir
    have HIR := Lib.hid hir
    clear hir
    obtain ⟨kk, hkk⟩ : ∃ kk, IntKind.i64.wrap (k - 1) = kk := ⟨_, rfl⟩
    obtain ⟨hkb1, hkb2⟩ := hkb
    go_enter Try.func33, Try.ntmps33
    go_wp2
    go_loop [7] (fun i => ∃ j : Nat, j ≤ bs.length ∧ i = .int .i64 j) (fun i => bs.length - (intOf i).toNat)
    case atStart => exact ⟨0, by omega, rfl⟩
    case round =>
      obtain ⟨j, hj, rfl⟩ := hrel
      by_cases hlt : j < bs.length
      · obtain ⟨b, o, rfl, hb, hc⟩ := hs.open (by simp; omega)
        have hcell := ints_at hc hlt
        clear hc
        clear hk
        go_wp2_with (go_at_call 47; refine (inRange_any _ _ _ _).mono ?_; rintro e w' ⟨rfl, rfl⟩)
        · go_ret
          exact ⟨ret_bool HF.out.symm, rfl⟩
        · go_round
          case rel => exact ⟨j + 1, by omega, by go_num⟩
          case measure => simp [intOf]; omega
      · clear hk
        have hj' : j = bs.length := by omega
        subst hj'
        by_cases hlen : bs.length = n
        · have ht : ((bs.length : Int) == (n : Int)) = true := beq_iff_eq.2 (by omega)
          clear hlen
          go_wp2_with (go_at_call 47; refine (HIR.out _).mono ?_; rintro e w' ⟨rfl, rfl⟩)
          go_ret
          exact ⟨ret_bool HF.out.symm, rfl⟩
        · have ht : ((bs.length : Int) == (n : Int)) = false := beq_eq_false_iff_ne.2 (by omega)
          clear hlen
          go_wp2
          go_ret
          exact ⟨ret_bool HF.out.symm, rfl⟩

set_option maxRecDepth 100000 in
theorem specPassOf_any (A B : Option Addr) (c d : Nat) (zs bs : List Int) (k : Int) (w : World) (hr : Ints w w.heap.size A zs) (hs : Ints w w.heap.size B bs) (hl : zs.length ≤ 9000000000000000000) (hlb : bs.length ≤ 9000000000000000000) (hkw : (Lit.int .i64 k).wf = true) :
    Calls Try.prog 10 #[.slice A zs.length c, .slice B bs.length d, .int .i64 k] w (passRes w (passV zs bs k)) := by
  have hva := specValidRow9_any A c zs w hr hl
  by_cases hv : rowB 9 zs = true
  · rw [hv] at hva
    have HVA := Lib.hid hva
    have hl9 := rowB_len hv
    have hbx := validBoxes_any B d zs.length zs bs k w hs hlb rfl hkw
    by_cases hb : boxB zs bs k = true
    · rw [hb] at hbx
      obtain ⟨hk, hlen, hrange⟩ := boxB_yes hb
      obtain ⟨m, rfl⟩ := Int.eq_ofNat_of_zero_le (show 0 ≤ k by omega)
      have hpo := specPass_any A B c d zs bs m w hr hs hl9 hlen (by omega)
      have hV : passV zs bs (m : Int) = passL zs bs m := by simp [passV, hv, hb]
      rw [hV]
      have HP := Lib.hid hpo
      have HBX := Lib.hid hbx
      clear hva hv hbx hb hlen hrange hpo hV hk hkw
      go_enter Try.func10, Try.ntmps10
      go_wp2_with (first | (go_at_call 32; refine HVA.out.mono ?_; rintro e w' ⟨rfl, rfl⟩) | (go_at_call 33; refine HBX.out.mono ?_; rintro e w' ⟨rfl, rfl⟩) | (go_at_call 34; refine HP.out.mono ?_; rintro e w1 ⟨A1, c1, rfl, h1, h2, h3⟩))
      go_ret
      exact ⟨A1, c1, rfl, h1, h2, h3⟩
    · have hb' : boxB zs bs k = false := by simpa using hb
      rw [hb'] at hbx
      have hV : passV zs bs k = [] := by simp [passV, hb']
      rw [hV]
      have HBX := Lib.hid hbx
      clear hva hv hbx hb hb' hV hkw
      go_enter Try.func10, Try.ntmps10
      go_wp2_with (first | (go_at_call 32; refine HVA.out.mono ?_; rintro e w' ⟨rfl, rfl⟩) | (go_at_call 33; refine HBX.out.mono ?_; rintro e w' ⟨rfl, rfl⟩))
      go_ret
      exact passRes_nil w
  · have hv' : rowB 9 zs = false := by simpa using hv
    rw [hv'] at hva
    have HVA := Lib.hid hva
    have hV : passV zs bs k = [] := by simp [passV, hv']
    rw [hV]
    clear hva hv hv' hV hkw
    go_enter Try.func10, Try.ntmps10
    go_wp2_with (first | (go_at_call 32; refine HVA.out.mono ?_; rintro e w' ⟨rfl, rfl⟩))
    go_ret
    exact passRes_nil w
end Go.Proofs.Ytdgdlmpmoafkgaa
