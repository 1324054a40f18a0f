/- The longest head, by impl. No condition. -/
import Derived.Test.YtlmcclbikljbhaaQ7
import Derived.Test.YtlmcclbikljbhaaShelf
import Derived.Lib.Strings
import Derived.BigQuiet
import Derived.Deep.QuietTactic
namespace Go.Proofs.Ytlmcclbikljbhaa
open Go.RowKit

theorem bg_prefix (s h : ByteArray) : Lib.hasPrefix s.data.toList h.data.toList = bg s h := by
  rw [Bool.eq_iff_iff]
  simp only [Lib.hasPrefix, List.isPrefixOf_iff_prefix, bg, Bool.and_eq_true, decide_eq_true_eq, beq_iff_eq, ByteArray.toList_eq]
  have hsz : s.size = s.data.toList.length := by rw [Array.length_toList]; rfl
  have hhz : h.size = h.data.toList.length := by rw [Array.length_toList]; rfl
  have hex : (s.extract 0 h.size).data.toList = s.data.toList.take h.size := by simp
  constructor
  · intro hp
    have hl := hp.length_le
    refine ⟨by omega, ?_⟩
    rw [hex, hhz]
    exact (List.prefix_iff_eq_take.1 hp).symm
  · rintro ⟨_, he⟩
    rw [← he, hex]
    exact List.take_prefix _ _

set_option maxRecDepth 100000 in
set_option maxHeartbeats 2000000 in
theorem longestHead_any (A : Option Addr) (c : Nat) (rs : List (ByteArray × Int)) (s : ByteArray) (k : Int) (w : World) (hr : Own w 0 w.heap.size A (flat rs)) (hl : rs.length ≤ 1048576) (hs : ∀ r ∈ rs, r.1.size ≤ 1048576) :
    Calls Try.prog 71 #[.slice A rs.length c, .string s, .int .i64 k] w fun e w' => e = .returned (.int .i64 (lg rs s k rs.length)) ∧ Below w.heap.size w w' := by
  have HS := Lib.hid hs
  clear hs
  go_enter Try.func71, Try.ntmps71
  go_wp2
  go_loopw [7, 12] (fun bv i wr => ∃ n : Nat, n ≤ rs.length ∧ i = .int .i64 n ∧ bv = .int .i64 (lg rs s k n) ∧ Below w.heap.size w wr) (fun _ i _ => rs.length - (intOf i).toNat)
  case atStart => exact ⟨0, by omega, rfl, rfl, Below.refl _ _⟩
  case round =>
    obtain ⟨n, hn, rfl, rfl, hbw⟩ := hrel
    have HBW := Lib.hid hbw
    have hrr := hr.below hbw
    have hWz := hbw.size
    obtain ⟨W, hW⟩ : ∃ W : World, W = wr := ⟨_, rfl⟩
    subst hW
    clear hbw
    obtain ⟨hB0, hB1⟩ := lg_le rs s k n
    obtain ⟨B, hBe⟩ : ∃ B, lg rs s k n = B := ⟨_, rfl⟩
    rw [hBe] at hB0 hB1 ⊢
    have HB := Lib.hid hBe
    clear hBe
    by_cases hlt : n < rs.length
    · obtain ⟨b, o, rfl, hb, hc⟩ := hrr.open (by rw [flat_length]; omega)
      have HC := Lib.hid hc
      obtain ⟨hc1, hc2⟩ := routes_at hc hlt
      have hsz := HS.out _ (List.getElem_mem hlt)
      have hh := hd_get hlt
      obtain ⟨h, hse⟩ : ∃ s, rs[n].1 = s := ⟨_, rfl⟩
      obtain ⟨f, hfe⟩ : ∃ f, rs[n].2 = f := ⟨_, rfl⟩
      rw [hse] at hc1 hsz hh
      rw [hfe] at hc2
      have HH := Lib.hid hh
      have hnI : (n : Int) < rs.length := by omega
      have hbW : b < W.heap.size := by omega
      have hpf := fun X => Try.strings_HasPrefix s h X
      rw [bg_prefix] at hpf
      clear hc hh hse hfe hrr
      by_cases hk : (n : Int) = k
      · have HY := Lib.hid (show lg rs s k (n + 1) = lg rs s k n from lg_no (.inl hk))
        subst hk
        clear hpf
        go_wp2
        go_roundw
        case rel => exact ⟨n + 1, by omega, by go_num, by rw [HY.out, HB.out], HBW.out.alloc HBW.out.size _⟩
        case measure => simp [intOf]; omega
      · have hkb : ((n : Int) == k) = false := by simpa using hk
        have HK := Lib.hid hk
        by_cases hq : bg s h = true
        · rw [hq] at hpf
          have HPF := Lib.hid hpf
          have HQ := Lib.hid hq
          clear hpf hq hk
          go_wp2_with fail
          refine (HPF.out _).mono ?_
          rintro e w2 ⟨rfl, rfl⟩
          by_cases hneg : B < 0
          · have HY := Lib.hid (show lg rs s k (n + 1) = n from lg_yes HK.out (by rw [HH.out]; exact HQ.out) (by rw [bz_iff, HB.out]; exact .inl hneg))
            have hd1 : decide (B < 0) = true := decide_eq_true hneg
            go_wp2
            go_quiet (fail)
            go_wp2
            go_roundw
            case rel => exact ⟨n + 1, by omega, by go_num, by rw [HY.out], below_drewN (HBW.out.alloc HBW.out.size _) _⟩
            case measure => simp [intOf]; omega
          · have hB : B.toNat < rs.length := by omega
            obtain ⟨hcj, _⟩ := routes_at HC.out hB
            have hhj := hd_get hB
            obtain ⟨t, hte⟩ : ∃ t, rs[B.toNat].1 = t := ⟨_, rfl⟩
            rw [hte] at hcj hhj
            have HJ := Lib.hid hhj
            have hB0' : 0 ≤ B := by omega
            have hBl : B < rs.length := by omega
            have hd1 : decide (B < 0) = false := decide_eq_false hneg
            have hbz : bz rs (lg rs s k n) = (t.size : Int) := by rw [HB.out]; simp [bz, hneg, hhj]
            have HBZ := Lib.hid hbz
            clear hhj hte hbz
            by_cases hgt : (t.size : Int) < (h.size : Int)
            · have HY := Lib.hid (show lg rs s k (n + 1) = n from lg_yes HK.out (by rw [HH.out]; exact HQ.out) (by rw [HBZ.out, HH.out]; exact hgt))
              have hd2 : decide ((t.size : Int) < (h.size : Int)) = true := decide_eq_true hgt
              go_wp2
              go_quiet (fail)
              go_wp2
              go_roundw
              case rel => exact ⟨n + 1, by omega, by go_num, by rw [HY.out], below_drewN (HBW.out.alloc HBW.out.size _) _⟩
              case measure => simp [intOf]; omega
            · have HY := Lib.hid (show lg rs s k (n + 1) = lg rs s k n from lg_no (.inr (.inr (by rw [HBZ.out, HH.out]; exact hgt))))
              have hd2 : decide ((t.size : Int) < (h.size : Int)) = false := decide_eq_false hgt
              go_wp2
              go_quiet (fail)
              go_wp2
              go_roundw
              case rel => exact ⟨n + 1, by omega, by go_num, by rw [HY.out, HB.out], below_drewN (HBW.out.alloc HBW.out.size _) _⟩
              case measure => simp [intOf]; omega
        · have hq' : bg s h = false := by simpa using hq
          rw [hq'] at hpf
          have HPF := Lib.hid hpf
          have HY := Lib.hid (show lg rs s k (n + 1) = lg rs s k n from lg_no (.inr (.inl (by rw [HH.out]; exact hq'))))
          clear hpf hq hq' hk
          go_wp2_with fail
          refine (HPF.out _).mono ?_
          rintro e w2 ⟨rfl, rfl⟩
          go_wp2
          go_roundw
          case rel => exact ⟨n + 1, by omega, by go_num, by rw [HY.out, HB.out], HBW.out.alloc HBW.out.size _⟩
          case measure => simp [intOf]; omega
    · have hn' : n = rs.length := by omega
      subst hn'
      go_wp2
      go_ret
      exact ⟨by rw [HB.out]; rfl, HBW.out⟩
end Go.Proofs.Ytlmcclbikljbhaa
