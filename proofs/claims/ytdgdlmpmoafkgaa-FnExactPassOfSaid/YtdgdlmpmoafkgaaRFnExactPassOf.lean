/- The statement of the law FnExactPassOf, out of its walk: for every input the law returns true and its argument reads as before. No condition. -/
import Derived.Test.YtdgdlmpmoafkgaaP4
import Derived.Test.YtdgdlmpmoafkgaaRowAid
namespace Go.Proofs.Ytdgdlmpmoafkgaa.fnExactPassOf
open Go.ChangeShapes Go.WideShapes Go.ChangeAt Go.RowKit
open Go.ChangeMaps (open_string shut_string)
set_option linter.unusedVariables false

theorem own : ownKnob Try.prog.godebug = none := by kernel_rfl
theorem laidOut : laidOutB Try.prog = true := by kernel_rfl

set_option maxRecDepth 100000 in
set_option maxHeartbeats 2000000 in
theorem lifted (os : Os) (started : os.Started) (H : Type) (enc : TypeId × Value → H) :
    ReturnsInHanded {} Try.checked os 3 .any (Rows.fnExactPassOfSpec.pre6 enc Try.prog Try.f3 Rows.fnExactPassOfRow.domain false) (Rows.fnExactPassOfSpec.post enc Try.prog Try.f3 false true false false) := by
  refine returnsInHanded_of_change (C := Try.checked) own started (by kernel_rfl) Try.func3
    (ChangeSpec.witness6 (enc := enc) (C := Try.checked) false ⟨#[], #[.slice none 0 0, .slice none 0 0, .int .i64 0], []⟩ 8 (by kernel_rfl) (by kernel_rfl) (by kernel_rfl) (by kernel_rfl)) ?_
  intro W base args ds gs before hval0 hW hcnd _
  have hval : ∀ (j : Nat) t v, Try.f3.params[j]? = some t → args[j]? = some v → Value.okWide Try.prog W .any base t v := hval0
  have hW' := hW
  obtain ⟨p, q, hA0, hV, rfl, hfz, hnd⟩ := hW
  have hA : DataW.TrodAll enc Try.prog W 0 (fun _ => true) true Try.f3.params.toList args.toList ds p := hA0
  rw [Try.params3] at hA hval
  obtain ⟨v0, vs0, d0, ds0, p0, q0, hargs, rfl, rfl, h0, r0⟩ := trodAll_cons hA
  obtain ⟨v1, vs1, d1, ds1, p1, q1, rfl, rfl, rfl, h1, r1⟩ := trodAll_cons r0
  obtain ⟨v2, vs2, d2, ds2, p2, q2, rfl, rfl, rfl, h2, r2⟩ := trodAll_cons r1
  obtain ⟨rfl, rfl, rfl⟩ := trodAll_nil r2
  obtain rfl : args = #[v0, v1, v2] := by cases args; simp_all
  obtain ⟨rfl, rfl⟩ := trodVars_none hV
  obtain ⟨a0, len0, cap0, rfl⟩ := okWide_slice Try.underlying22 (hval 0 22 v0 rfl rfl)
  have k0 := h0
  have lt0 : ∀ x ∈ p0, x.block < W.heap.size := by obtain ⟨m, hm⟩ := k0; exact DataW.trod_lt m _ _ _ hm
  obtain ⟨z0, e0, w0, x0⟩ : ∃ zs : List Int, zs.length = len0 ∧ Own W 0 W.heap.size a0 (zs.map (Value.int .i64)) ∧ (zs.length ≤ cap0 ∧ cap0 ≤ maxLen ∧ ∀ z ∈ zs, (Lit.int .i64 z).wf = true) := by
    obtain ⟨fuel, hf⟩ := h0
    exact ints_of (open_ints Try.underlying22 Try.underlying3 (by kernel_rfl) hf)
  subst e0
  obtain ⟨a1, len1, cap1, rfl⟩ := okWide_slice Try.underlying22 (hval 1 22 v1 rfl rfl)
  have k1 := h1
  have lt1 : ∀ x ∈ p1, x.block < W.heap.size := by obtain ⟨m, hm⟩ := k1; exact DataW.trod_lt m _ _ _ hm
  obtain ⟨z1, e1, w1, x1⟩ : ∃ zs : List Int, zs.length = len1 ∧ Own W 0 W.heap.size a1 (zs.map (Value.int .i64)) ∧ (zs.length ≤ cap1 ∧ cap1 ≤ maxLen ∧ ∀ z ∈ zs, (Lit.int .i64 z).wf = true) := by
    obtain ⟨fuel, hf⟩ := h1
    exact ints_of (open_ints Try.underlying22 Try.underlying3 (by kernel_rfl) hf)
  subst e1
  obtain ⟨a2, rfl, rfl, rfl, w2⟩ := open_int Try.underlying3 (hval 2 3 v2 rfl rfl) h2
  clear hA0 hval0
  refine (exactPassOf_row a0 cap0 z0 a1 cap1 z1 a2 W w0 x0 w1 x1 w2).mono fun e W' ⟨he, bel⟩ => ?_
  subst he
  exact ⟨_, rfl, _, _, _, [], _, [], hW', trodAll_mk1 (shut_bool Try.underlying4 _), (trodAll_cons_mk (Below.trod laidOut (by kernel_rfl) (of_decide_eq_true (by kernel_rfl)) k0 bel lt0) (trodAll_cons_mk (Below.trod laidOut (by kernel_rfl) (of_decide_eq_true (by kernel_rfl)) k1 bel lt1) (trodAll_cons_mk (shut_int Try.underlying3 w2) trodAll_mk0))), rfl, bel.frame _, fun h => by cases h⟩

theorem jinPlace : Try.prog.inPlace 3 = Rows.fnExactPassOfRow.inPlace := by kernel_rfl
theorem junfollowed : Try.prog.unfollowed 3 = Rows.fnExactPassOfRow.unfollowed := by kernel_rfl
theorem jrecurses : Try.prog.recurses 3 = Rows.fnExactPassOfRow.recurses := by kernel_rfl
theorem jvarsNamed : Try.prog.varsNamed 3 = Rows.fnExactPassOfRow.named := by kernel_rfl
theorem closed : joinedFacts Try.pinned.checked.prog 3 Try.f3 Rows.fnExactPassOfSpec Rows.fnExactPassOfRow = true := by
  show joinedFacts Try.prog 3 Try.f3 Rows.fnExactPassOfSpec Rows.fnExactPassOfRow = true
  unfold joinedFacts
  rw [jinPlace, junfollowed, jrecurses, jvarsNamed]
  kernel_rfl
theorem over : Rows.fnExactPassOfRow.holds Try.pinned (OpenSpec.ofChange Rows.fnExactPassOfSpec) :=
  OpenClaim.holds_of_wide 3 Try.f3 rfl rfl rfl rfl rfl rfl rfl ⟨rfl, rfl, rfl, rfl, rfl⟩ rfl rfl rfl rfl rfl (by kernel_rfl) Try.func3 closed
    (of_decide_eq_true (by kernel_rfl)) (by unfold Func.isWrapper; first | (rw [if_pos (by decide +kernel)]; kernel_rfl) | (rw [if_neg (by decide +kernel)]; exact ⟨rfl, rfl⟩))
    (fun os started H enc _ => lifted os started H enc)

theorem proved : Rows.FnExactPassOfSaid := over
end Go.Proofs.Ytdgdlmpmoafkgaa.fnExactPassOf
