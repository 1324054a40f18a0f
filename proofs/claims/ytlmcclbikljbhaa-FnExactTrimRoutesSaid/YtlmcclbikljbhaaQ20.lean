/- Trimmed routes do the same, plain; equalRoutes. No condition. -/
import Derived.Test.YtlmcclbikljbhaaQ19
import Derived.Test.YtlmcclbikljbhaaQ16
namespace Go.Proofs.Ytlmcclbikljbhaa
open Go.RowKit

theorem idle_office {l : List (ByteArray × Int)} {i : Nat} (hv : routesB l = true) (hi : i < l.length) (hid : idleI l i = true) (t : ByteArray) : officeP (l.eraseIdx i) t = officeP l t := by
  by_cases h4 : fourB t = true
  · have hv2 := routesB_erase hv i
    refine off_unique (routesB_iff.1 hv2).2.2 (officeP_off hv2 h4) ?_
    simp only [idleI, Bool.and_eq_true, decide_eq_true_eq, beq_iff_eq] at hid
    obtain ⟨ho, hov⟩ := hid
    rcases lg_spec l (hd l i) i l.length with ⟨h1, _⟩ | ⟨j, hj, h1, hji, hjb, hjm⟩
    · exfalso; unfold outr at ho; omega
    · have hov2 : of_ l j = of_ l i := by rw [← hov]; unfold outr; rw [h1, ov_nat]
      rw [hd_get hi, hd_get hj] at hjb
      rw [of_get hj, of_get hi] at hov2
      rcases officeP_off hv h4 with ⟨e, a⟩ | ⟨r0, hr0, hb, hvv, hmax⟩
      · exact .inl ⟨e, fun r hr => a r ((List.eraseIdx_sublist l i).subset hr)⟩
      · obtain ⟨m, hm, rfl⟩ := List.getElem_of_mem hr0
        by_cases hmi : m = i
        · subst hmi
          refine .inr ⟨l[j], List.mem_eraseIdx_iff_getElem.2 ⟨j, hj, by omega, rfl⟩, ?_, by rw [hov2]; exact hvv, fun r' hr' hb' => ?_⟩
          · rw [bg_pre] at hjb hb ⊢; exact hjb.trans hb
          · obtain ⟨k, hk, hkm, rfl⟩ := List.mem_eraseIdx_iff_getElem.1 hr'
            have hle := hmax _ (List.getElem_mem hk) hb'
            have hpre : bg l[m].1 l[k].1 = true := by
              rw [bg_pre] at hb hb' ⊢
              exact List.prefix_of_prefix_length_le hb' hb (by rw [← size_len, ← size_len]; exact hle)
            have := hjm k hk (by omega) (by rw [hd_get hk, hd_get hi]; exact hpre)
            rw [hd_get hk, hd_get hj] at this
            exact this
        · exact .inr ⟨l[m], List.mem_eraseIdx_iff_getElem.2 ⟨m, hm, hmi, rfl⟩, hb, hvv, fun r' hr' hb' => hmax r' ((List.eraseIdx_sublist l i).subset hr') hb'⟩
  · have h4' : fourB t = false := by simpa using h4
    simp [officeP, h4']
theorem tr_office {rs : List (ByteArray × Int)} (h : routesB rs = true) : (routesB (tr rs) = true ∧ ∀ t, officeP (tr rs) t = officeP rs t) ∧ firstN (tr rs) = none ∧ (tr rs).length ≤ rs.length :=
  tr_ind (P := fun l => routesB l = true ∧ ∀ t, officeP l t = officeP rs t) rs.length rs rfl ⟨h, fun _ => rfl⟩ (fun l i ⟨h1, h2⟩ hf => ⟨routesB_erase h1 i, fun t => by
    obtain ⟨ha, hb⟩ := firstN_lt hf
    rw [idle_office h1 ha hb t, h2 t]⟩)
theorem trimV_again {rs : List (ByteArray × Int)} (h : routesB rs = true) : trimV (trimV rs) = trimV rs := by
  obtain ⟨⟨h1, _⟩, h2, _⟩ := tr_office h
  have e : trimV rs = tr rs := by rw [trimV, if_pos h]
  rw [e, trimV, if_pos h1, tr_none h2]

set_option maxRecDepth 100000 in
set_option maxHeartbeats 1000000 in
theorem equalRoutes_self (A B : Option Addr) (c d : Nat) (rs : List (ByteArray × Int)) (w : World) (hr : Own w 0 w.heap.size A (flat rs)) (hs : Own w 0 w.heap.size B (flat rs)) (hl : rs.length ≤ 1048576) :
    Calls Try.prog 27 #[.slice A rs.length c, .slice B rs.length d] w fun e w' => e = .returned (.bool true) ∧ ∃ n, w' = w.drewN n := by
  have ht : ((rs.length : Int) != (rs.length : Int)) = false := by simp
  go_enter Try.func27, Try.ntmps27
  go_wp2
  clear ht
  go_loopw [5] (fun i wr => ∃ k : Nat, k ≤ rs.length ∧ i = .int .i64 k ∧ ∃ n, wr = w.drewN n) (fun i _ => rs.length - (intOf i).toNat)
  case atStart => exact ⟨0, by omega, rfl, 0, rfl⟩
  case round =>
    obtain ⟨k, hk, rfl, hwr⟩ := hrel
    have HWR := Lib.hid hwr
    have hbr : Below w.heap.size w wr := by obtain ⟨n, rfl⟩ := hwr; exact below_drewN (Below.refl _ _) n
    clear hwr
    by_cases hlt : k < rs.length
    · obtain ⟨b, o, rfl, hb, hc⟩ := (hr.below hbr).open (by rw [flat_length]; omega)
      obtain ⟨b', o', rfl, hb', hc'⟩ := (hs.below hbr).open (by rw [flat_length]; omega)
      obtain ⟨h1, h2⟩ := routes_at hc hlt
      obtain ⟨h3, h4⟩ := routes_at hc' hlt
      obtain ⟨s, hse⟩ : ∃ s, rs[k].1 = s := ⟨_, rfl⟩
      obtain ⟨f, hfe⟩ : ∃ f, rs[k].2 = f := ⟨_, rfl⟩
      rw [hse] at h1 h3
      rw [hfe] at h2 h4
      have hkI : (k : Int) < rs.length := by omega
      have hk0 : (0 : Int) ≤ (k : Int) := by omega
      have hn1 : (s.toList != s.toList) = false := by simp
      have hn2 : (s.toList == s.toList) = true := by simp
      have hn3 : (f == f) = true := by simp
      clear hc hc' hse hfe hbr
      go_wp2
      go_quiet (fail)
      go_simp
      go_wp2
      go_roundw
      case rel => exact ⟨k + 1, by omega, by go_num, by obtain ⟨n, hn⟩ := HWR.out; rw [hn]; exact ⟨_, World.drewN_drewN ..⟩⟩
      case measure => simp [intOf]; omega
    · have hk' : k = rs.length := by omega
      subst hk'
      go_wp2
      go_ret
      exact ⟨rfl, HWR.out⟩
end Go.Proofs.Ytlmcclbikljbhaa
