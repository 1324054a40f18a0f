/- The walk of the law FnValidStamps. No condition. -/
import Derived.Test.YtookdmdlpglbcabY1
import Derived.Test.YtookdmdlpglbcabYk
namespace Go.Proofs.Ytookdmdlpglbcab
open Go.RowKit

theorem slice_uptoI (b o n c j : Nat) (h : j ≤ c) (W : World) :
    (Instr.slice 23 (.slice (some ⟨b, o, none⟩) n c) none (some (.int .i64 (j : Int))) none).run Try.prog W = .ok (.slice (some ⟨b, o, none⟩) j c) W := by
  have h1 : (0 : Int) ≤ (j : Int) := by omega
  have h2 : (j : Int) ≤ (c : Int) := by omega
  go_simp
theorem ints_take {w : World} {B : Nat} {A : Option Addr} {zs : List Int} (h : Ints w B A zs) (m : Nat) : Ints w B A (zs.take m) := by
  have := Own.take h m
  rw [← List.map_take] at this; exact this
theorem impVS_ret (A : Option Addr) (c : Nat) (zs : List Int) (w : World) (hr : Ints w w.heap.size A zs) (b : Bool) (hb : stampsB zs = b) :
    Calls Try.prog 30 #[.slice A zs.length c] w fun e w' => e = .returned (.bool b) ∧ w = w' := by
  rw [← hb]; exact impVS_any A c zs w hr
end Go.Proofs.Ytookdmdlpglbcab
