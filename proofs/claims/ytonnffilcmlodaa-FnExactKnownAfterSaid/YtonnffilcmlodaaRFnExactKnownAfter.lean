/- The statement of the law FnExactKnownAfter, out of its walk: for every input the law returns true and its argument reads as before. No condition. -/
import Derived.Test.YtonnffilcmlodaaVf
import Derived.Test.YtonnffilcmlodaaRowAid
import Derived.Test.YtonnffilcmlodaaRowAid3
namespace Go.Proofs.Ytonnffilcmlodaa.fnExactKnownAfter
open Go.ChangeShapes Go.WideShapes Go.ChangeAt Go.RowKit
open Go.ChangeMaps (open_string shut_string)
set_option linter.unusedVariables false

theorem own : ownKnob Try.prog.godebug = none := by kernel_rfl
theorem laidOut : laidOutB Try.prog = true := by kernel_rfl

set_option maxRecDepth 100000 in
set_option maxHeartbeats 2000000 in
theorem lifted (os : Os) (started : os.Started) (H : Type) (enc : TypeId × Value → H) :
    ReturnsInHanded {} Try.checked os 10 .any (Rows.fnExactKnownAfterSpec.pre6 enc Try.prog Try.f10 Rows.fnExactKnownAfterRow.domain false) (Rows.fnExactKnownAfterSpec.post enc Try.prog Try.f10 false true false false) := by
  refine returnsInHanded_of_change (C := Try.checked) own started (by kernel_rfl) Try.func10
    (ChangeSpec.witness6 (enc := enc) (C := Try.checked) false ⟨#[], #[.int .i64 0, .slice none 0 0], []⟩ 8 (by kernel_rfl) (by kernel_rfl) (by kernel_rfl) (by kernel_rfl)) ?_
  intro W base args ds gs before hval0 hW hcnd _
  have hval : ∀ (j : Nat) t v, Try.f10.params[j]? = some t → args[j]? = some v → Value.okWide Try.prog W .any base t v := hval0
  have hW' := hW
  obtain ⟨p, q, hA0, hV, rfl, hfz, hnd⟩ := hW
  have hA : DataW.TrodAll enc Try.prog W 0 (fun _ => true) true Try.f10.params.toList args.toList ds p := hA0
  rw [Try.params10] at hA hval
  obtain ⟨v0, vs0, d0, ds0, p0, q0, hargs, rfl, rfl, h0, r0⟩ := trodAll_cons hA
  obtain ⟨v1, vs1, d1, ds1, p1, q1, rfl, rfl, rfl, h1, r1⟩ := trodAll_cons r0
  obtain ⟨rfl, rfl, rfl⟩ := trodAll_nil r1
  obtain rfl : args = #[v0, v1] := by cases args; simp_all
  obtain ⟨rfl, rfl⟩ := trodVars_none hV
  obtain ⟨a0, rfl, rfl, rfl, w0⟩ := open_int Try.underlying3 (hval 0 3 v0 rfl rfl) h0
  obtain ⟨a1, len1, cap1, rfl⟩ := okWide_slice Try.underlying23 (hval 1 23 v1 rfl rfl)
  have k1 := h1
  have lt1 : ∀ x ∈ p1, x.block < W.heap.size := by obtain ⟨m, hm⟩ := k1; exact DataW.trod_lt m _ _ _ hm
  obtain ⟨z1, e1, w1, x1⟩ : ∃ rs : List (List Int), rs.length = len1 ∧ Grid W 0 W.heap.size a1 rs ∧ (rs.length ≤ cap1 ∧ cap1 ≤ maxLen ∧ ∀ r ∈ rs, r.length ≤ maxLen ∧ ∀ z ∈ r, (Lit.int .i64 z).wf = true) := by
    obtain ⟨fuel, hf⟩ := h1
    exact rows_of Try.underlying23 Try.underlying28 Try.underlying3 (by kernel_rfl) (by kernel_rfl) hf
  subst e1
  clear hA0 hval0
  refine (fnExactKnownAfter_law a0 a1 cap1 z1 W w0 w1 x1).mono fun e W' ⟨he, bel⟩ => ?_
  subst he
  exact ⟨_, rfl, _, _, _, [], _, [], hW', trodAll_mk1 (shut_bool Try.underlying4 _), (trodAll_cons_mk (shut_int Try.underlying3 w0) (trodAll_cons_mk (Below.trod laidOut (by kernel_rfl) (of_decide_eq_true (by kernel_rfl)) k1 bel lt1) trodAll_mk0)), rfl, bel.frame _, fun h => by cases h⟩

theorem jinPlace : Try.prog.inPlace 10 = Rows.fnExactKnownAfterRow.inPlace := by kernel_rfl
theorem junfollowed : Try.prog.unfollowed 10 = Rows.fnExactKnownAfterRow.unfollowed := by kernel_rfl
theorem jrecurses : Try.prog.recurses 10 = Rows.fnExactKnownAfterRow.recurses := by kernel_rfl
theorem jvarsNamed : Try.prog.varsNamed 10 = Rows.fnExactKnownAfterRow.named := by kernel_rfl
theorem closed : joinedFacts Try.pinned.checked.prog 10 Try.f10 Rows.fnExactKnownAfterSpec Rows.fnExactKnownAfterRow = true := by
  show joinedFacts Try.prog 10 Try.f10 Rows.fnExactKnownAfterSpec Rows.fnExactKnownAfterRow = true
  unfold joinedFacts
  rw [jinPlace, junfollowed, jrecurses, jvarsNamed]
  kernel_rfl
theorem over : Rows.fnExactKnownAfterRow.holds Try.pinned (OpenSpec.ofChange Rows.fnExactKnownAfterSpec) :=
  OpenClaim.holds_of_wide 10 Try.f10 rfl rfl rfl rfl rfl rfl rfl ⟨rfl, rfl, rfl, rfl, rfl⟩ rfl rfl rfl rfl rfl (by kernel_rfl) Try.func10 closed
    (of_decide_eq_true (by kernel_rfl)) (by unfold Func.isWrapper; first | (rw [if_pos (by decide +kernel)]; kernel_rfl) | (rw [if_neg (by decide +kernel)]; exact ⟨rfl, rfl⟩))
    (fun os started H enc _ => lifted os started H enc)

theorem proved : Rows.FnExactKnownAfterSaid := over
end Go.Proofs.Ytonnffilcmlodaa.fnExactKnownAfter
