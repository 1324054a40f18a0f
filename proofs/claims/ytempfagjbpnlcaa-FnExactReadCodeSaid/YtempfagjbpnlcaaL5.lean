/- The walk of the law FnExactReadCode. No condition. -/
import Derived.Test.YtempfagjbpnlcaaEq
import Derived.Test.YtempfagjbpnlcaaC5
import Derived.Test.YtempfagjbpnlcaaMark
namespace Go.Proofs.Ytempfagjbpnlcaa
open Go.RowKit

set_option maxRecDepth 100000 in
set_option maxHeartbeats 2000000 in
theorem exactReadCode_law (s : ByteArray) (w : World) (_hs : s.size ≤ maxLen) :
    Calls Try.prog 7 #[.string s] w fun e w' => e = .returned (.bool true) ∧ Below w.heap.size w w' := by
  by_cases h20 : s.size ≤ 1048576
  · obtain ⟨V, hV⟩ : ∃ V, readV s.data.toList = V := ⟨_, rfl⟩
    obtain ⟨ok, hok⟩ : ∃ ok, readOk s.data.toList = ok := ⟨_, rfl⟩
    have hl4 : V.length ≤ 4 := by
      rw [← hV]; unfold readV
      split
      · simp [digs]; omega
      · simp
    have hsp := fun W => specReadCode_any s W
    have him := fun W => impReadCode_any s W
    unfold readTwo at hsp him
    rw [hV, hok] at hsp him
    have HSP := Lib.hid hsp
    have HIM := Lib.hid him
    clear hsp him hV hok _hs
    have hokk : (ok != ok) = false := by simp
    go_enter Try.func7, Try.ntmps7
    go_wp2_with fail
    refine (HSP.out _).mono ?_
    rintro e w1 ⟨A0, c0, rfl, ho0, hb1⟩
    go_wp2_with fail
    refine (HIM.out _).mono ?_
    rintro e w2 ⟨A1, c1, rfl, ho1, hb2⟩
    have q0 : Ints w2 w1.heap.size A0 V := (ho0.row).below hb2
    have z2 := hb2.size
    go_wp2_with fail
    refine (eqIntS_any _ _ _ _ _ _ _ ho1.row (q0.more z2) (by omega)).mono ?_
    rintro e w3 ⟨rfl, n, rfl⟩
    have HE := Lib.hid (eqI_refl' V)
    rw [HE.out]
    go_wp2_with fail
    have q1 : OwnInts (w2.drewN n) w1.heap.size w2.heap.size A1 V := ho1.below (below_drewN (Below.refl _ _) n)
    refine (markIntS_any A1 c1 V 1 w1.heap.size w2.heap.size _ q1 (by omega) (by omega) (by omega)).mono ?_
    rintro e w4 ⟨rfl, hm1, hb4⟩
    have z4 := hb4.size
    have hz4 : w2.heap.size ≤ w4.heap.size := z4
    have hb14 : Below w1.heap.size w1 w4 := (below_drewN hb2 n).trans hb4
    go_wp2_with fail
    refine (heldIntS_any A1 c1 V.length 1 _ (hm1.row.more hz4) (by omega) (by omega) (by omega)).mono ?_
    rintro e w5 ⟨rfl, rfl⟩
    have ht1 : (((1 : Int) + (V.length : Int)) != (1 + (V.length : Int))) = false := by simp
    go_wp2_with fail
    refine (HIM.out _).mono ?_
    rintro e w6 ⟨A6, c6, rfl, ho6, hb6⟩
    have z6 := hb6.size
    have q6 : Ints w6 w1.heap.size A0 V := ((ho0.row).below hb14).below (hb6.mono (by omega))
    go_wp2_with fail
    refine (eqIntS_any _ _ _ _ _ _ _ ho6.row (q6.more (by omega)) (by omega)).mono ?_
    rintro e w7 ⟨rfl, n7, rfl⟩
    rw [HE.out]
    go_wp2_with fail
    refine (heldIntS_any A1 c1 V.length 1 _ (((hm1.row.below (hb6.mono hz4)).below (below_drewN (Below.refl _ _) n7)).more (show w2.heap.size ≤ w6.heap.size by omega)) (by omega) (by omega) (by omega)).mono ?_
    rintro e w8 ⟨rfl, rfl⟩
    go_wp2_with fail
    go_ret
    exact ⟨rfl, below_drewN ((hb1.trans (hb14.mono hb1.size)).trans (hb6.mono (by have := hb1.size; omega))) n7⟩
  · go_enter Try.func7, Try.ntmps7
    go_wp2
    go_ret
    exact ⟨rfl, Below.refl _ _⟩
end Go.Proofs.Ytempfagjbpnlcaa
