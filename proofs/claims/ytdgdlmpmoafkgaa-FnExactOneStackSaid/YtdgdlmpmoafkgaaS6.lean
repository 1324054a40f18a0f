/- RunsOf and ValidRow, both sides. No condition. -/
import Derived.Test.YtdgdlmpmoafkgaaS5
namespace Go.Proofs.Ytdgdlmpmoafkgaa
open Go.RowKit

theorem runs_last {zs : List Int} (hz : 0 < zs.length) {w : World} {B base : Nat} {A : Option Addr} (h : OwnInts w base B A (runsL zs)) :
    ∃ b o, A = some ⟨b, o, none⟩ ∧ w.cell? ⟨b, o + (zs.length - 1), none⟩ = some (.int .i64 (runNo zs (zs.length - 1) : Int)) := by
  obtain ⟨b, o, hA, _, hc⟩ := h.open (by simp [runsL_length]; omega)
  refine ⟨b, o, hA, ?_⟩
  have := ints_at hc (k := zs.length - 1) (by rw [runsL_length]; omega)
  rw [runsL_get zs (by omega)] at this
  exact this

set_option maxRecDepth 100000 in
theorem impRunsOf_any (A : Option Addr) (c : Nat) (zs : List Int) (w : World) (hr : Ints w w.heap.size A zs) (hlc : zs.length ≤ c) :
    Calls Try.prog 19 #[.slice A zs.length c] w fun e w' => e = .returned (.int .i64 (runsN zs)) ∧ Below w.heap.size w w' := by
  have hva := impValidRow_any A c zs w hr hlc
  by_cases hv : rowB 9 zs = true
  · rw [hv] at hva
    have HVA := Lib.hid hva
    have HV := Lib.hid hv
    have hl9 := rowB_len hv
    clear hva hv
    by_cases h0 : zs.length = 0
    · have hr0 : runsN zs = 0 := by simp [runsN, HV.out, h0]
      have HR := Lib.hid hr0
      have ht : ((zs.length : Int) == 0) = true := beq_iff_eq.2 (by omega)
      clear hr0 h0
      go_enter Try.func19, Try.ntmps19
      go_wp2_with (go_at_call 18; refine HVA.out.mono ?_; rintro e w' ⟨rfl, rfl⟩)
      go_ret
      exact ⟨ret_int HR.out.symm, Below.refl _ _⟩
    · have hr0 : runsN zs = (runNo zs (zs.length - 1) : Int) + 1 := by simp [runsN, HV.out, h0]
      have HR := Lib.hid hr0
      have ht : ((zs.length : Int) == 0) = false := beq_eq_false_iff_ne.2 (by omega)
      have hro := runOfLetters_any A c zs w hr HV.out
      have hrl := runNo_le zs (zs.length - 1)
      obtain ⟨r, hre⟩ : ∃ r, runNo zs (zs.length - 1) = r := ⟨_, rfl⟩
      have HRE := Lib.hid hre
      have HRO := Lib.hid hro
      have hpos : 0 < zs.length := by omega
      rw [hre] at hrl
      clear hr0 h0 hro hre
      go_enter Try.func19, Try.ntmps19
      go_wp2_with (go_at_call 18; refine HVA.out.mono ?_; rintro e w' ⟨rfl, rfl⟩)
      clear ht
      go_wp2_with fail
      refine HRO.out.mono ?_
      rintro e w1 ⟨A1, c1, rfl, ho, hb⟩
      obtain ⟨b, o, rfl, hcell⟩ := runs_last hpos ho
      rw [HRE.out] at hcell
      obtain ⟨d, hd⟩ : ∃ d, zs.length = d + 1 := ⟨zs.length - 1, by omega⟩
      rw [hd, Nat.add_sub_cancel] at hcell
      have hidx : (zs.length : Int) - 1 = (d : Int) := by omega
      have hdl : d < zs.length := by omega
      clear hd
      go_wp2_with fail
      go_ret
      exact ⟨ret_int (by rw [HR.out, HRE.out]), hb⟩
  · have hv' : rowB 9 zs = false := by simpa using hv
    have hr0 : runsN zs = -1 := by simp [runsN, hv']
    rw [hv'] at hva
    have HVA := Lib.hid hva
    have HR := Lib.hid hr0
    clear hva hv hv' hr0
    go_enter Try.func19, Try.ntmps19
    go_wp2_with (go_at_call 18; refine HVA.out.mono ?_; rintro e w' ⟨rfl, rfl⟩)
    go_ret
    exact ⟨ret_int HR.out.symm, Below.refl _ _⟩

set_option maxRecDepth 100000 in
theorem specValidRow9_any (A : Option Addr) (c : Nat) (zs : List Int) (w : World) (hr : Ints w w.heap.size A zs) (hl : zs.length ≤ 9000000000000000000) :
    Calls Try.prog 32 #[.slice A zs.length c] w fun e w' => e = .returned (.bool (rowB 9 zs)) ∧ w = w' := by
  have hv := specValidRow_any A c zs 9 w hr (by omega) hl
  obtain ⟨q, hq⟩ : ∃ q, rowB 9 zs = q := ⟨_, rfl⟩
  rw [hq] at hv ⊢
  have HV := Lib.hid hv
  clear hv hq
  go_enter Try.func32, Try.ntmps32
  go_wp2_with (go_at_call 55; refine HV.out.mono ?_; rintro e w' ⟨rfl, rfl⟩)
  go_ret
  exact ⟨rfl, rfl⟩

set_option maxRecDepth 100000 in
theorem specRunsOf_any (A : Option Addr) (c : Nat) (zs : List Int) (w : World) (hr : Ints w w.heap.size A zs) (hl : zs.length ≤ 9000000000000000000) :
    Calls Try.prog 29 #[.slice A zs.length c] w fun e w' => e = .returned (.int .i64 (runsN zs)) ∧ Below w.heap.size w w' := by
  have hva := specValidRow9_any A c zs w hr hl
  by_cases hv : rowB 9 zs = true
  · rw [hv] at hva
    have HVA := Lib.hid hva
    have HV := Lib.hid hv
    have hl9 := rowB_len hv
    clear hva hv
    by_cases h0 : zs.length = 0
    · have hr0 : runsN zs = 0 := by simp [runsN, HV.out, h0]
      have HR := Lib.hid hr0
      have ht : ((zs.length : Int) == 0) = true := beq_iff_eq.2 (by omega)
      clear hr0 h0
      go_enter Try.func29, Try.ntmps29
      go_wp2_with (go_at_call 32; refine HVA.out.mono ?_; rintro e w' ⟨rfl, rfl⟩)
      go_ret
      exact ⟨ret_int HR.out.symm, Below.refl _ _⟩
    · have hr0 : runsN zs = (runNo zs (zs.length - 1) : Int) + 1 := by simp [runsN, HV.out, h0]
      have HR := Lib.hid hr0
      have ht : ((zs.length : Int) == 0) = false := beq_eq_false_iff_ne.2 (by omega)
      have hro := specRuns_any A c zs w hr HV.out
      have hrl := runNo_le zs (zs.length - 1)
      obtain ⟨r, hre⟩ : ∃ r, runNo zs (zs.length - 1) = r := ⟨_, rfl⟩
      have HRE := Lib.hid hre
      have HRO := Lib.hid hro
      have hpos : 0 < zs.length := by omega
      rw [hre] at hrl
      clear hr0 h0 hro hre
      go_enter Try.func29, Try.ntmps29
      go_wp2_with (go_at_call 32; refine HVA.out.mono ?_; rintro e w' ⟨rfl, rfl⟩)
      clear ht
      go_wp2_with fail
      refine HRO.out.mono ?_
      rintro e w1 ⟨A1, c1, rfl, ho, hb⟩
      obtain ⟨b, o, rfl, hcell⟩ := runs_last hpos ho
      rw [HRE.out] at hcell
      obtain ⟨d, hd⟩ : ∃ d, zs.length = d + 1 := ⟨zs.length - 1, by omega⟩
      rw [hd, Nat.add_sub_cancel] at hcell
      have hidx : (zs.length : Int) - 1 = (d : Int) := by omega
      have hdl : d < zs.length := by omega
      clear hd
      go_wp2_with fail
      go_ret
      exact ⟨ret_int (by rw [HR.out, HRE.out]), hb⟩
  · have hv' : rowB 9 zs = false := by simpa using hv
    have hr0 : runsN zs = -1 := by simp [runsN, hv']
    rw [hv'] at hva
    have HVA := Lib.hid hva
    have HR := Lib.hid hr0
    clear hva hv hv' hr0
    go_enter Try.func29, Try.ntmps29
    go_wp2_with (go_at_call 32; refine HVA.out.mono ?_; rintro e w' ⟨rfl, rfl⟩)
    go_ret
    exact ⟨ret_int HR.out.symm, Below.refl _ _⟩
end Go.Proofs.Ytdgdlmpmoafkgaa
