/- The walk of FnExactValidCalls. No condition. -/
import Derived.Test.YtonnffilcmlodaaVb
import Derived.Test.YtonnffilcmlodaaG2
import Derived.Test.YtonnffilcmlodaaEx
namespace Go.Proofs.Ytonnffilcmlodaa
open Go.RowKit


set_option maxRecDepth 100000 in
set_option maxHeartbeats 8000000 in
theorem fnExactValidCalls_law (n : Int) (Ah : Option Addr) (ch : Nat) (h : List (List Int)) (w : World) (_hn : (Lit.int .i64 n).wf = true) (hrh : Grid w 0 w.heap.size Ah h) (hxh : h.length ≤ ch ∧ ch ≤ maxLen ∧ ∀ r0 ∈ h, r0.length ≤ maxLen ∧ ∀ u0 ∈ r0, (Lit.int .i64 u0).wf = true) :
    Calls Try.prog 9 #[.int .i64 n, .slice Ah h.length ch] w fun e w' => e = .returned (.bool true) ∧ Below w.heap.size w w' := by
  have hbn : -9223372036854775808 ≤ n ∧ n ≤ 9223372036854775807 := int_bd _hn
  obtain ⟨hlon, hhin⟩ := hbn
  clear _hn
  have hlh : h.length ≤ 9223372036854775807 := by have := hxh.1; have := hxh.2.1; unfold maxLen at this; omega
  have HSh := Lib.hid (show ∀ r ∈ h, r.length ≤ 9223372036854775807 from fun r h => by have := (hxh.2.2 r h).1; unfold maxLen at this; omega)
  clear hxh
  obtain ⟨q, hq⟩ : ∃ q, callsB n h = q := ⟨_, rfl⟩
  have HV := Lib.hid hq
  clear hq
  go_enter Try.func9, Try.ntmps9
  go_wp2_with fail
  refine (szIntSS_any _ _ _ _ hrh hlh HSh.out).mono ?_
  rintro e w' ⟨rh, rfl, hrlh, rfl⟩
  have HRLh := Lib.hid hrlh
  clear hrlh
  by_cases hr0h : rh < 0
  · go_wp2
    go_ret
    exact ⟨rfl, Below.refl _ _⟩
  have hnnh : (0 : Int) ≤ rh := by omega
  clear hr0h
  have hsumh := HRLh.out hnnh
  have hzh : h.length ≤ 1048576 := by omega
  have HTh := Lib.hid (show ∀ r ∈ h, r.length ≤ 1048576 from fun r h => Nat.le_trans (len_le_total h) (by omega))
  have HRh := Lib.hid (show ∀ (i : Nat) (hi : i < h.length), h[i].length ≤ 1000000000 from fun i hi => by have := HTh.out _ (List.getElem_mem hi); omega)
  have HMh := Lib.hid (show ∀ r ∈ h, r.length ≤ 1000000000 from fun r h => by have := HTh.out r h; omega)
  have HEh := Lib.hid (eqG_self h)
  have ah0 := hrh
  clear hrh
  have p0 := Below.refl w.heap.size w
  have z0 : w.heap.size ≤ w.heap.size := Nat.le_refl _
  go_wp2_with fail
  refine (toIntSS_any _ _ _ _ (ah0.more (by omega)) hzh HTh.out).mono ?_
  rintro e w1 ⟨A1, c1, rfl, hc1, o1, e1⟩
  have z1 := e1.size
  have ah1 := ah0.keep (by omega) e1
  clear ah0
  have th1 := o1
  clear o1
  have p1 := p0.trans (e1.mono (by omega))
  clear p0 e1
  go_wp2_with fail
  refine (specValidCalls_any _ _ _ _ _ (th1.row.more (by omega)) (by omega) HMh.out).mono ?_
  rw [HV.out]
  rintro e w2 ⟨rfl, e2⟩
  have z2 := e2.size
  have ah2 := ah1.keep (by omega) e2
  clear ah1
  have th2 := th1.keep (by omega) e2
  clear th1
  have p2 := p1.trans (e2.mono (by omega))
  clear p1 e2
  clear th2
  go_wp2_with fail
  refine (toIntSS_any _ _ _ _ (ah2.more (by omega)) hzh HTh.out).mono ?_
  rintro e w3 ⟨A3, c3, rfl, hc3, o3, e3⟩
  have z3 := e3.size
  have ah3 := ah2.keep (by omega) e3
  clear ah2
  have xh3 := o3
  clear o3
  have p3 := p2.trans (e3.mono (by omega))
  clear p2 e3
  go_wp2_with fail
  refine (impValidCalls_any _ _ _ _ _ (xh3.row.more (by omega)) HMh.out).mono ?_
  rw [HV.out]
  rintro e w4 ⟨rfl, e4⟩
  have z4 := e4.size
  have ah4 := ah3.keep (by omega) e4
  clear ah3
  have xh4 := xh3.keep (by omega) e4
  clear xh3
  have p4 := p3.trans (e4.mono (by omega))
  clear p3 e4
  have hqq : (q != q) = false := by simp
  go_wp2_with fail
  refine (toIntSS_any _ _ _ _ (ah4.more (by omega)) hzh HTh.out).mono ?_
  rintro e w5 ⟨A5, c5, rfl, hc5, o5, e5⟩
  have z5 := e5.size
  have ah5 := ah4.keep (by omega) e5
  clear ah4
  have xh5 := xh4.keep (by omega) e5
  clear xh4
  have th5 := o5
  clear o5
  have p5 := p4.trans (e5.mono (by omega))
  clear p4 e5
  go_wp2_with fail
  refine (eqIntSS_any _ _ _ _ _ _ _ (xh5.row.more (by omega)) (th5.row.more (by omega)) (by omega) HRh.out).mono ?_
  rw [HEh.out]
  rintro e w6 ⟨rfl, n6, hw6⟩
  have e6 : Below w5.heap.size w5 w6 := by rw [hw6]; exact drewBelow _ _
  clear hw6
  have z6 := e6.size
  have ah6 := ah5.keep (by omega) e6
  clear ah5
  have xh6 := xh5.keep (by omega) e6
  clear xh5
  have th6 := th5.keep (by omega) e6
  clear th5
  have p6 := p5.trans (e6.mono (by omega))
  clear p5 e6
  clear th6
  go_wp2_with fail
  go_ret
  exact ⟨rfl, p6⟩
end Go.Proofs.Ytonnffilcmlodaa
