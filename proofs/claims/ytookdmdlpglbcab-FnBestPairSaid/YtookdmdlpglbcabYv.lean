/- reachOf: the rates that hold, one after the other. No condition. -/
import Derived.Test.YtookdmdlpglbcabYd
import Derived.Test.YtookdmdlpglbcabYg
namespace Go.Proofs.Ytookdmdlpglbcab
open Go.RowKit
open Go.Shelf
attribute [local go_sem] Oper.semAt_some

set_option maxRecDepth 100000 in
set_option maxHeartbeats 1000000 in
/-- The test: so many stamps are enough. -/
theorem holds_any (v : List Int) (T : List Int) (x most : Nat) (bt bm : Nat) (w : World) (hx : x ≤ 140) (hv : ∀ s ∈ v, 1 ≤ s) (htab : Tab w bt T) (hT : T.length = 141) (hTf : ∀ i, i ≤ 140 → T.getD i 0 = fw v i) (hm : Boxed w bm 3 (.int .i64 (most : Int))) :
    Calls Try.prog 51 #[.int .i64 (x : Int), .pointer (some ⟨bt, 0, none⟩), .pointer (some ⟨bm, 0, none⟩)] w fun e w' => e = .returned (.bool (goodR v most x)) ∧ ∃ n, w' = w.drewN n := by
  have hcx := htab.cell (i := x) (by omega)
  have hTx : tabF T x = fw v x := hTf x hx
  rw [hTx] at hcx
  have hcm := hm.cell
  have hbd := fw_bd v hv x
  have hx141 : (x : Int) < 141 := by omega
  have HG := Lib.hid (show goodR v most x = decide (0 ≤ fw v x ∧ fw v x ≤ (most : Int)) from rfl)
  obtain ⟨f, hf⟩ : ∃ f, fw v x = f := ⟨_, rfl⟩
  rw [hf] at hcx hbd HG
  clear htab hTf hm hf hTx
  by_cases hf1 : f = -1
  · have HE := Lib.hid (show goodR v most x = false by rw [HG.out]; exact decide_eq_false (fun h => by omega))
    have hfb : (f != -1) = false := by simp [hf1]
    clear hf1
    go_enter Try.func51, Try.ntmps51
    go_wp2
    go_quiet (fail)
    go_wp2
    go_ret
    exact ⟨ret_bool HE.out.symm, _, rfl⟩
  · have hfb : (f != -1) = true := by simp [hf1]
    by_cases hfm : f ≤ (most : Int)
    · have HE := Lib.hid (show goodR v most x = true by rw [HG.out]; exact decide_eq_true ⟨by omega, hfm⟩)
      have hd : decide (f ≤ (most : Int)) = true := decide_eq_true hfm
      clear hf1
      go_enter Try.func51, Try.ntmps51
      go_wp2
      go_quiet (fail)
      go_wp2
      go_ret
      exact ⟨ret_bool HE.out.symm, _, rfl⟩
    · have HE := Lib.hid (show goodR v most x = false by rw [HG.out]; exact decide_eq_false (fun h => hfm h.2))
      have hd : decide (f ≤ (most : Int)) = false := decide_eq_false hfm
      clear hf1
      go_enter Try.func51, Try.ntmps51
      go_wp2
      go_quiet (fail)
      go_wp2
      go_ret
      exact ⟨ret_bool HE.out.symm, _, rfl⟩

set_option maxRecDepth 100000 in
theorem whileTrue_any (g1 g2 : Nat) (l1 l2 : Array Value) (w : World) :
    Calls Try.prog 50 #[.func (.func g1) #[] l1, .func (.func g2) #[] l2] w fun e w' => e = .returned (.func (.func 53) #[] #[.pointer (some ⟨w.heap.size, 0, none⟩), .pointer (some ⟨w.heap.size + 1, 0, none⟩)]) ∧
      w' = (w.alloc (.cells #[.func (.func g1) #[] l1] 47)).alloc (.cells #[.func (.func g2) #[] l2] 40) := by
  go_enter Try.func50, Try.ntmps50
  go_wp2
  go_ret
  exact ⟨rfl, rfl⟩
end Go.Proofs.Ytookdmdlpglbcab
