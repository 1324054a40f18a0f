/- The statement of the law FnRepairsComeBack, out of its walk: for every input the law returns true and its argument reads as before. No condition. -/
import Derived.Test.YtempfagjbpnlcaaRq8
import Derived.Test.YtempfagjbpnlcaaRowAid
namespace Go.Proofs.Ytempfagjbpnlcaa.fnRepairsComeBack
open Go.ChangeShapes Go.WideShapes Go.ChangeAt Go.RowKit
open Go.ChangeMaps (open_string shut_string)
set_option linter.unusedVariables false

theorem own : ownKnob Try.prog.godebug = none := by kernel_rfl
theorem laidOut : laidOutB Try.prog = true := by kernel_rfl

set_option maxRecDepth 100000 in
set_option maxHeartbeats 2000000 in
theorem lifted (os : Os) (started : os.Started) (H : Type) (enc : TypeId × Value → H) :
    ReturnsInHanded {} Try.checked os 6 .any (Rows.fnRepairsComeBackSpec.pre6 enc Try.prog Try.f6 Rows.fnRepairsComeBackRow.domain false) (Rows.fnRepairsComeBackSpec.post enc Try.prog Try.f6 false true false false) := by
  refine returnsInHanded_of_change (C := Try.checked) own started (by kernel_rfl) Try.func6
    (ChangeSpec.witness6 (enc := enc) (C := Try.checked) false ⟨#[], #[.slice none 0 0], []⟩ 8 (by kernel_rfl) (by kernel_rfl) (by kernel_rfl) (by kernel_rfl)) ?_
  intro W base args ds gs before hval0 hW hcnd _
  have hval : ∀ (j : Nat) t v, Try.f6.params[j]? = some t → args[j]? = some v → Value.okWide Try.prog W .any base t v := hval0
  have hW' := hW
  obtain ⟨p, q, hA0, hV, rfl, hfz, hnd⟩ := hW
  have hA : DataW.TrodAll enc Try.prog W 0 (fun _ => true) true Try.f6.params.toList args.toList ds p := hA0
  rw [Try.params6] at hA hval
  obtain ⟨v0, vs0, d0, ds0, p0, q0, hargs, rfl, rfl, h0, r0⟩ := trodAll_cons hA
  obtain ⟨rfl, rfl, rfl⟩ := trodAll_nil r0
  obtain rfl : args = #[v0] := by cases args; simp_all
  obtain ⟨rfl, rfl⟩ := trodVars_none hV
  obtain ⟨a0, len0, cap0, rfl⟩ := okWide_slice Try.underlying22 (hval 0 22 v0 rfl rfl)
  have k0 := h0
  have lt0 : ∀ x ∈ p0, x.block < W.heap.size := by obtain ⟨m, hm⟩ := k0; exact DataW.trod_lt m _ _ _ hm
  obtain ⟨z0, e0, w0, x0⟩ : ∃ zs : List Int, zs.length = len0 ∧ Own W 0 W.heap.size a0 (zs.map (Value.int .u8)) ∧ (zs.length ≤ cap0 ∧ cap0 ≤ maxLen ∧ ∀ z ∈ zs, (Lit.int .u8 z).wf = true) := by
    obtain ⟨fuel, hf⟩ := h0
    exact ints_of (open_ints Try.underlying22 Try.underlying5 (by kernel_rfl) hf)
  subst e0
  clear hA0 hval0
  refine (repairsComeBack_law a0 cap0 z0 W w0 x0).mono fun e W' ⟨he, bel⟩ => ?_
  subst he
  exact ⟨_, rfl, _, _, _, [], _, [], hW', trodAll_mk1 (shut_bool Try.underlying4 _), (trodAll_cons_mk (Below.trod laidOut (by kernel_rfl) (of_decide_eq_true (by kernel_rfl)) k0 bel lt0) trodAll_mk0), rfl, bel.frame _, fun h => by cases h⟩

theorem jinPlace : Try.prog.inPlace 6 = Rows.fnRepairsComeBackRow.inPlace := by kernel_rfl
theorem junfollowed : Try.prog.unfollowed 6 = Rows.fnRepairsComeBackRow.unfollowed := by kernel_rfl
theorem jrecurses : Try.prog.recurses 6 = Rows.fnRepairsComeBackRow.recurses := by kernel_rfl
theorem jvarsNamed : Try.prog.varsNamed 6 = Rows.fnRepairsComeBackRow.named := by kernel_rfl
theorem closed : joinedFacts Try.pinned.checked.prog 6 Try.f6 Rows.fnRepairsComeBackSpec Rows.fnRepairsComeBackRow = true := by
  show joinedFacts Try.prog 6 Try.f6 Rows.fnRepairsComeBackSpec Rows.fnRepairsComeBackRow = true
  unfold joinedFacts
  rw [jinPlace, junfollowed, jrecurses, jvarsNamed]
  kernel_rfl
theorem over : Rows.fnRepairsComeBackRow.holds Try.pinned (OpenSpec.ofChange Rows.fnRepairsComeBackSpec) :=
  OpenClaim.holds_of_wide 6 Try.f6 rfl rfl rfl rfl rfl rfl rfl ⟨rfl, rfl, rfl, rfl, rfl⟩ rfl rfl rfl rfl rfl (by kernel_rfl) Try.func6 closed
    (of_decide_eq_true (by kernel_rfl)) (by unfold Func.isWrapper; first | (rw [if_pos (by decide +kernel)]; kernel_rfl) | (rw [if_neg (by decide +kernel)]; exact ⟨rfl, rfl⟩))
    (fun os started H enc _ => lifted os started H enc)

theorem proved : Rows.FnRepairsComeBackSaid := over
end Go.Proofs.Ytempfagjbpnlcaa.fnRepairsComeBack
