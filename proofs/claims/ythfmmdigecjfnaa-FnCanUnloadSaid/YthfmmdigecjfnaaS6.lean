/- RunsOf and ValidRow, both sides. No condition. -/
import Derived.Test.YthfmmdigecjfnaaS5
namespace Go.Proofs.Ythfmmdigecjfnaa
open Go.RowKit

theorem runs_last {zs : List Int} (hz : 0 < zs.length) {w : World} {B base : Nat} {A : Option Addr} (h : OwnInts w base B A (runsL zs)) :
    ∃ b o, A = some ⟨b, o, none⟩ ∧ w.cell? ⟨b, o + (zs.length - 1), none⟩ = some (.int .i64 (runNo zs (zs.length - 1) : Int)) := by
  obtain ⟨b, o, hA, _, hc⟩ := h.open (by simp [runsL_length]; omega)
  refine ⟨b, o, hA, ?_⟩
  have := ints_at hc (k := zs.length - 1) (by rw [runsL_length]; omega)
  rw [runsL_get zs (by omega)] at this
  exact this

set_option maxRecDepth 100000 in
theorem specValidRow9_any (A : Option Addr) (c : Nat) (zs : List Int) (w : World) (hr : Ints w w.heap.size A zs) (hl : zs.length ≤ 9000000000000000000) :
    Calls Try.prog 41 #[.slice A zs.length c] w fun e w' => e = .returned (.bool (rowB 9 zs)) ∧ w = w' := by
  have hv := specValidRow_any A c zs 9 w hr (by omega) hl
  obtain ⟨q, hq⟩ : ∃ q, rowB 9 zs = q := ⟨_, rfl⟩
  rw [hq] at hv ⊢
  have HV := Lib.hid hv
  clear hv hq
  go_enter Try.func41, Try.ntmps41
  go_wp2_with (go_at_call 62; refine HV.out.mono ?_; rintro e w' ⟨rfl, rfl⟩)
  go_ret
  exact ⟨rfl, rfl⟩
end Go.Proofs.Ythfmmdigecjfnaa
