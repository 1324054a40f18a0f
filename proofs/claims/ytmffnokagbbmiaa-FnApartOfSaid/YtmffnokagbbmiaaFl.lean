/- laws.flipped. No condition. -/
import Derived.Test.YtmffnokagbbmiaaU3
import Derived.Test.YtmffnokagbbmiaaN2
namespace Go.Proofs.Ytmffnokagbbmiaa
open Go.RowKit

set_option maxRecDepth 100000 in
set_option maxHeartbeats 4000000 in
theorem flipped_any (A : Option Addr) (c n : Nat) (D : Nat → Nat → Int) (w : World) (hr : Grid w 0 w.heap.size A (mat n D)) (hn1 : 1 ≤ n) (hn5 : n ≤ 5) :
    Calls Try.prog 15 #[.slice A n c] w (gRes w (mat n (fun i k => D k i))) := by
  obtain ⟨i0, hi0, hz0, hz1, hz2⟩ := info_parts Try.infoR
  obtain ⟨i3, hi3, hy0, hy1, hy2⟩ := info_parts Try.info3
  obtain ⟨bA, oA, p, q, cc, rfl, hsq⟩ := hr.sq (by omega)
  have HSQ := Lib.hid hsq
  obtain ⟨T, hT⟩ : ∃ T : Nat → Nat → Int, (fun i k => D k i) = T := ⟨_, rfl⟩
  have HTD := Lib.hid (fun i k => show T i k = D k i by rw [← hT])
  rw [hT]
  clear hr hsq hT
  go_enter Try.func15, Try.ntmps15
  go_wp2_with fail
  go_loopw [3, 4] (fun v i wr => ∃ (s : Nat) (H : Option Addr) (cH : Nat) (hs : List Value), s ≤ n ∧ i = .int .i64 s ∧ v = .slice H s cH ∧ Hid (Built wr w.heap.size H cH hs (rowsTo n s T)) ∧ Below w.heap.size w wr) (fun _ i _ => n - (intOf i).toNat)
  case atStart => exact ⟨0, _, 0, [], by omega, rfl, rfl, Lib.hid (Built.start w _ (Nat.le_refl _)), (Below.refl _ _).alloc (Nat.le_refl _) _⟩
  case round =>
    obtain ⟨s, H, cH, hs, hsN, rfl, rfl, HT, hbr⟩ := hrel
    have HBR := Lib.hid hbr
    have hbz := hbr.size
    obtain ⟨_, hall⟩ := HSQ.out.below hbr
    obtain ⟨z1, _, _⟩ := hall 0 (by omega)
    clear hbr hall
    rw [Nat.add_zero] at z1
    have hn0 : (0 : Int) < n := by omega
    by_cases hlt : s < n
    · have HFI := Lib.hid (show (wr.alloc (.cells #[] 3)).ownsRow wr.heap.size 3 1 (.slice (some ⟨wr.heap.size, 0, none⟩) 0 0) 0 [] from World.ownsRow_lit wr #[] 0 (Nat.le_refl _) (by simp [maxLen]) rfl)
      obtain ⟨wA, hwA⟩ : ∃ wA : World, wA = wr := ⟨_, rfl⟩
      subst hwA
      go_wp2_with fail
      go_loopw [5, 6] (fun v i wr => ∃ (k : Nat) (R : Option Addr) (cR : Nat), k ≤ n ∧ i = .int .i64 k ∧ v = .slice R k cR ∧ Hid (wr.ownsRow wA.heap.size 3 1 (.slice R k cR) k ((tab k (T s)).map (Value.int .i64))) ∧ Below wA.heap.size wA wr) (fun _ i _ => n - (intOf i).toNat)
      case atStart => exact ⟨0, _, 0, by omega, rfl, rfl, Lib.hid HFI.out, (Below.refl _ _).alloc (Nat.le_refl _) _⟩
      case round =>
        obtain ⟨k, R, cR, hk, rfl, rfl, HR, hbr2⟩ := hrel
        have HBR2 := Lib.hid hbr2
        have hbz2 := hbr2.size
        clear hbr2 HFI z1
        by_cases hlt2 : k < n
        · obtain ⟨_, hall⟩ := HSQ.out.below (HBR.out.trans (HBR2.out.mono hbz))
          obtain ⟨x1, _, x3⟩ := hall k hlt2
          have x5 := x3 s hlt
          rw [← HTD.out s k] at x5
          obtain ⟨u, hu⟩ : ∃ u, T s k = u := ⟨_, rfl⟩
          rw [hu] at x5
          have HU := Lib.hid hu
          have hown := HR.out
          have i1 : (0 : Int) ≤ s := by omega
          have i2 : (s : Int) < n := by omega
          clear hall x3 hu
          go_wp2_with (first | (at_builtin; refine wpList_push rfl (.tmp 23) (.tmp 31) 31 rfl i3 (.int .i64 0) 8 Try.underlying31 hi3 hy0 hy1 hy2 rfl (by decide) _ _ rfl hown [.int .i64 u] rfl rfl (by simp [Value.oneCell']) (by omega) (by omega) hbz2 ?_))
          intro R' cR' w6 hown6 hg6
          have HW := Lib.hid (And.intro hown6 (HBR2.out.grown hg6 hbz2 (fun i hi => (hown.lt _ hi).1)))
          clear hown hown6 hg6
          go_wp2_with fail
          go_roundw
          case rel => exact ⟨k + 1, R', cR', by omega, by go_num, rfl, Lib.hid (by rw [tab_more, HU.out, List.map_append]; exact HW.out.1), HW.out.2⟩
          case measure => simp [intOf]; omega
        · have hkk : k = n := by omega
          subst hkk
          have hBk := HT.out.keep HBR2.out
          have hownC : wr.ownsRow w.heap.size 31 1 (.slice H s cH) s hs := by have := hBk.1; rwa [rowsTo_len] at this
          have HCAP := Lib.hid (own_cap HR.out)
          have hbzB : w.heap.size ≤ wr.heap.size := Nat.le_trans hbz hbz2
          clear hBk
          go_wp2_with (at_builtin; refine wpList_push_at rfl (.tmp 33) (.tmp 35) 22 rfl i0 (.slice none 0 0) 24 Try.underlying22 hi0 hz0 hz1 hz2 rfl (by decide) _ _ rfl hownC [.slice R k cR] rfl rfl (by simp [Value.oneCell']) (by omega) (by omega) (by omega) ?_)
          intro H' cH' wd hownD hgD hat
          have hrl : (tab k (T s)).length = k := tab_length _ _
          have hTs := rowsTo_len k s T
          have hbuilt := Built.push (R := R) (cR := cR) (r := tab k (T s)) HT.out hbz HBR2.out (own_row_cells HR.out) (by rw [hrl]; exact HCAP.out) (by rw [hTs, hrl]; exact hownD) (by rw [hTs]; exact hgD) (by rcases hat with h | h; exact .inl h; exact .inr (by simpa using h))
          rw [← rowsTo_more] at hbuilt
          have hbwd : Below w.heap.size w wd := (HBR.out.trans (HBR2.out.mono hbz)).grown hgD hbzB (fun i hi => (hownC.lt _ hi).1)
          have HEND := Lib.hid (And.intro hbuilt hbwd)
          clear hrl hTs hbuilt hbwd hownD hgD hat hownC
          go_wp2_with fail
          go_roundw
          case rel => exact ⟨s + 1, H', cH', _, by omega, by go_num, rfl, Lib.hid HEND.out.1, HEND.out.2⟩
          case measure => simp [intOf]; omega
    · have hsn : n = s := by omega
      subst hsn
      have hcap := HT.out.cap
      rw [rowsTo_len] at hcap
      have HMG := Lib.hid HT.out.mgrid
      have HCAP := Lib.hid hcap
      clear hcap HT
      go_wp2_with fail
      go_ret
      exact ⟨H, cH, by rw [mat_len]; rfl, by rw [mat_len]; exact HCAP.out, HMG.out, HBR.out⟩
end Go.Proofs.Ytmffnokagbbmiaa
