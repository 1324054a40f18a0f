/- Repairs come back: plain, and laws.inTexts. No condition. -/
import Derived.Test.YtempfagjbpnlcaaRq5
import Derived.Test.YtempfagjbpnlcaaL6
namespace Go.Proofs.Ytempfagjbpnlcaa
open Go.RowKit

theorem isDig_sg {d : Int} (h : 0 ≤ d ∧ d ≤ 9) : isDig (sg d) = true := by
  rcases digit_cases ⟨h.1, by omega⟩ with rfl | rfl | rfl | rfl | rfl | rfl | rfl | rfl | rfl | rfl | rfl <;> first | decide | omega
theorem okC_sg {c : Int} (h : 0 ≤ c ∧ c ≤ 10) : isDig (sg c) = true ∨ sg c = 120 := by
  rcases digit_cases h with rfl | rfl | rfl | rfl | rfl | rfl | rfl | rfl | rfl | rfl | rfl <;> decide
theorem shaped_code {d0 d1 d2 d3 c : Int} (h0 : 0 ≤ d0 ∧ d0 ≤ 9) (h1 : 0 ≤ d1 ∧ d1 ≤ 9) (h2 : 0 ≤ d2 ∧ d2 ≤ 9) (h3 : 0 ≤ d3 ∧ d3 ≤ 9) (hc : 0 ≤ c ∧ c ≤ 10) : shapedB (codeL [d0, d1, d2, d3] c) = true := by
  rw [code_four]
  simp only [shapedB, Bool.and_eq_true, decide_eq_true_eq, beq_iff_eq, List.all_eq_true, List.mem_range]
  refine ⟨⟨rfl, rfl⟩, fun k hk => ?_⟩
  have g0 := isDig_sg h0
  have g1 := isDig_sg h1
  have g2 := isDig_sg h2
  have g3 := isDig_sg h3
  have g5 := okC_sg hc
  obtain rfl | rfl | rfl | rfl | rfl | rfl : k = 0 ∨ k = 1 ∨ k = 2 ∨ k = 3 ∨ k = 4 ∨ k = 5 := by omega
  · simp [okC, g0]
  · simp [okC, g1]
  · simp [okC, g2]
  · simp [okC, g3]
  · simp [okC]
  · simp [okC]; exact g5

/-- A code that was damaged once is among the repairs. -/
theorem comeback {d0 d1 d2 d3 e0 e1 e2 e3 : Int} (h0 : 0 ≤ d0 ∧ d0 ≤ 9) (h1 : 0 ≤ d1 ∧ d1 ≤ 9) (h2 : 0 ≤ d2 ∧ d2 ≤ 9) (h3 : 0 ≤ d3 ∧ d3 ≤ 9)
    (k0 : 0 ≤ e0 ∧ e0 ≤ 9) (k1 : 0 ≤ e1 ∧ e1 ≤ 9) (k2 : 0 ≤ e2 ∧ e2 ≤ 9) (k3 : 0 ≤ e3 ∧ e3 ≤ 9)
    (hne : (d0 + 2 * d1 + 3 * d2 + 4 * d3) % 11 ≠ (e0 + 2 * e1 + 3 * e2 + 4 * e3) % 11)
    (ho : (e1 = d1 ∧ e2 = d2 ∧ e3 = d3) ∨ (e0 = d0 ∧ e2 = d2 ∧ e3 = d3) ∨ (e0 = d0 ∧ e1 = d1 ∧ e3 = d3) ∨ (e0 = d0 ∧ e1 = d1 ∧ e2 = d2) ∨ (e0 = d1 ∧ e1 = d0 ∧ e2 = d2 ∧ e3 = d3)) :
    codeL [e0, e1, e2, e3] (checkF [e0, e1, e2, e3]) ∈ repV (codeL [d0, d1, d2, d3] (checkF [e0, e1, e2, e3])) := by
  have hvd := validD_four h0 h1 h2 h3
  have hve := validD_four k0 k1 k2 k3
  have hc := check_bd hve
  have hcd := check_bd hvd
  have hk : checkF [d0, d1, d2, d3] ≠ checkF [e0, e1, e2, e3] := by rw [checkF_four hvd, checkF_four hve]; exact hne
  have hok : readOk (codeL [d0, d1, d2, d3] (checkF [e0, e1, e2, e3])) = false := by
    rw [Bool.eq_false_iff]
    intro h
    simp only [readOk, Bool.and_eq_true, decide_eq_true_eq] at h
    have he := h.2
    rw [digs_code hvd, code_four, code_four] at he
    simp only [List.cons.injEq, true_and, and_true] at he
    exact hk (sg_inj hc hcd he).symm
  rw [repV_yes (shaped_code h0 h1 h2 h3 hc) hok]
  obtain ⟨h5, h6⟩ := D4_val4 hve
  unfold repT repN
  refine List.mem_map.2 ⟨val4 [e0, e1, e2, e3], List.mem_filter.2 ⟨List.mem_range.2 h6, ?_⟩, by unfold codeN; rw [h5]⟩
  unfold codeN
  rw [h5, code_four, code_four]
  refine (near_iff (by omega) (by omega) (by omega) (by omega) hc (by omega) (by omega) (by omega) (by omega) hc).2 (.inr ⟨rfl, ?_, ?_⟩)
  · rintro ⟨rfl, rfl, rfl, rfl⟩
    exact hk rfl
  · rcases ho with h | h | h | h | h
    · exact .inl h
    · exact .inr (.inl h)
    · exact .inr (.inr (.inl h))
    · exact .inr (.inr (.inr (.inl h)))
    · exact .inr (.inr (.inr (.inr (.inl h))))

theorem toList_injR {t s : ByteArray} (h : t.toList = s.toList) : t = s := by
  rw [ByteArray.toList_eq, ByteArray.toList_eq] at h
  exact ByteArray.ext (Array.toList_inj.1 h)

set_option maxRecDepth 100000 in
set_option maxHeartbeats 1000000 in
theorem inTexts_yes (A : Option Addr) (c : Nat) (ts : List ByteArray) (T : ByteArray) (w : World) (hr : Own w 0 w.heap.size A (sv ts)) (hl : ts.length ≤ 1048576) (hT : T ∈ ts) :
    Calls Try.prog 20 #[.slice A ts.length c, .string T] w fun e w' => e = .returned (.bool true) ∧ Below w.heap.size w w' := by
  go_enter Try.func20, Try.ntmps20
  go_wp2
  go_loopw [5] (fun i wr => ∃ k : Nat, k ≤ ts.length ∧ i = .int .i64 k ∧ T ∉ ts.take k ∧ ∃ n, wr = w.drewN n) (fun i _ => ts.length - (intOf i).toNat)
  case atStart => exact ⟨0, by omega, rfl, by simp, 0, rfl⟩
  case round =>
    obtain ⟨k, hk, rfl, hn, n, rfl⟩ := hrel
    by_cases hlt : k < ts.length
    · obtain ⟨b, o, rfl, hb, hc⟩ := hr.open (by rw [sv_length]; omega)
      have h1 := hc k _ (sv_get ts k hlt)
      have htk := List.take_succ_eq_append_getElem hlt
      obtain ⟨X, hX⟩ : ∃ X, ts[k] = X := ⟨_, rfl⟩
      rw [hX] at h1 htk
      have HN := Lib.hid (And.intro hn htk)
      clear hc hX hn htk
      by_cases he : X = T
      · subst he
        have hn2 : (X.toList == X.toList) = true := by simp
        go_wp2
        go_ret
        exact ⟨rfl, below_drewN (Below.refl _ _) _⟩
      · have hn2 : (X.toList == T.toList) = false := by
          rw [beq_eq_false_iff_ne]
          exact fun e => he (toList_injR e)
        have HE := Lib.hid he
        clear he
        go_wp2
        go_roundw
        case rel =>
          refine ⟨k + 1, by omega, by go_num, ?_, _, rfl⟩
          rw [HN.out.2, List.mem_append, List.mem_singleton]
          rintro (h | h)
          · exact HN.out.1 h
          · exact HE.out h.symm
        case measure => simp [intOf]; omega
    · have hk' : k = ts.length := by omega
      subst hk'
      rw [List.take_length] at hn
      exact absurd hT hn
end Go.Proofs.Ytempfagjbpnlcaa
