/- Rising rows, the document's side: spec.rising, spec.RisingOf; laws.greatestOf, laws.placeOf. No condition. -/
import Derived.Test.YthfmmdigecjfnaaI1
import Derived.Test.YthfmmdigecjfnaaS4
import Derived.Test.YthfmmdigecjfnaaN9i
namespace Go.Proofs.Ythfmmdigecjfnaa
open Go.RowKit

theorem ints_atD {w : World} {b o : Nat} {zs : List Int} (hc : ∀ j u, (zs.map (Value.int .i64))[j]? = some u → w.cell? ⟨b, o + j, none⟩ = some u) {k : Nat} (hk : k < zs.length) :
    w.cell? ⟨b, o + k, none⟩ = some (.int .i64 (zs.getD k 0)) := by rw [getD_get hk]; exact ints_at hc hk
theorem upTo_le {zs : List Int} {i m : Nat} (h : m ≤ i) : upTo zs (up zs) i m ≤ i + 1 := by
  rcases upTo_from zs (up zs) i m with h1 | ⟨k, h1, _, h3⟩
  · omega
  · have := up_le zs k; omega

theorem first_litI (W : World) : (W.alloc (.cells #[] 3)).ownsRow W.heap.size 3 1 (.slice (some ⟨W.heap.size, 0, none⟩) 0 0) 0 [] := World.ownsRow_lit W #[] 0 (Nat.le_refl _) (by simp [maxLen]) rfl

set_option maxRecDepth 100000 in
set_option maxHeartbeats 4000000 in
theorem specRising_any (A : Option Addr) (c0 : Nat) (zs : List Int) (w : World) (hr : Ints w w.heap.size A zs) (hl : zs.length ≤ 9) :
    Calls Try.prog 47 #[.slice A zs.length c0] w (iRes w (tab zs.length fun i => (up zs i : Int))) := by
  obtain ⟨i0, hi0, hz0, hz1, hz2⟩ := info_parts Try.info3
  have HST := Lib.hid (first_litI w)
  go_enter Try.func47, Try.ntmps47
  go_wp2
  go_loopw [3, 4] (fun v i wr => ∃ (k : Nat) (H : Option Addr) (cH : Nat), k ≤ zs.length ∧ i = .int .i64 k ∧ v = .slice H k cH ∧ wr.ownsRow w.heap.size 3 1 (.slice H k cH) k ((tab k fun i => (up zs i : Int)).map (Value.int .i64)) ∧ Below w.heap.size w wr) (fun _ i _ => zs.length - (intOf i).toNat)
  case atStart => exact ⟨0, _, _, by omega, rfl, rfl, HST.out, (Below.refl _ _).alloc (Nat.le_refl _) _⟩
  case round =>
    obtain ⟨i, H, cH, hi, rfl, rfl, hown, hbr⟩ := hrel
    have hbz := hbr.size
    obtain ⟨W, hW⟩ : ∃ W : World, W = wr := ⟨_, rfl⟩
    subst hW
    by_cases hlt : i < zs.length
    · obtain ⟨b, o, rfl, hb, hc⟩ := (hr.below hbr).open (by simp; omega)
      have hcI := ints_atD hc hlt
      have HO := Lib.hid hown
      have HBR := Lib.hid hbr
      have HC := Lib.hid hc
      obtain ⟨zi, hzi⟩ : ∃ z, zs.getD i 0 = z := ⟨_, rfl⟩
      rw [hzi] at hcI
      have HZI := Lib.hid hzi
      clear hown hbr hc hzi
      go_wp2_with fail
      go_loopw [5, 6] (fun n k wr => ∃ m : Nat, m ≤ i ∧ k = .int .i64 m ∧ n = .int .i64 (upTo zs (up zs) i m : Nat) ∧ ∃ q, wr = W.drewN q) (fun _ k _ => i - (intOf k).toNat)
      case atStart => exact ⟨0, by omega, rfl, rfl, 0, rfl⟩
      case round =>
        obtain ⟨m, hm, rfl, rfl, q, hq⟩ := hrel
        have HQ := Lib.hid hq
        have hcI2 : wr.cell? ⟨b, o + i, none⟩ = some (.int .i64 zi) := by rw [hq]; exact hcI
        have hu := upTo_le (zs := zs) hm
        obtain ⟨u, hue⟩ : ∃ u, upTo zs (up zs) i m = u := ⟨_, rfl⟩
        rw [hue] at hu ⊢
        by_cases hlt2 : m < i
        · have hcM : wr.cell? ⟨b, o + m, none⟩ = some (.int .i64 (zs.getD m 0)) := by rw [hq]; exact ints_atD HC.out (show m < zs.length by omega)
          obtain ⟨zm, hzm⟩ : ∃ z, zs.getD m 0 = z := ⟨_, rfl⟩
          rw [hzm] at hcM
          have hmI : (m : Int) < zs.length := by omega
          have hiI : (i : Int) < zs.length := by omega
          have hm0 : (0 : Int) ≤ (m : Int) := by omega
          have hi0' : (0 : Int) ≤ (i : Int) := by omega
          by_cases hz : zm < zi
          · have hd : decide (zm < zi) = true := decide_eq_true hz
            have hup := up_le zs m
            have HF := Lib.hid (show upTo zs (up zs) i (m + 1) = max u (up zs m + 1) by simp only [upTo]; rw [HZI.out, hzm, if_pos hz, hue])
            obtain ⟨g, rfl, _, _⟩ := own_some HO.out (by omega)
            have hat0 := HO.out.cellAt m (by omega)
            rw [tab_vals_get (show m < i by omega)] at hat0
            have hat : ∀ p, (wr.drewN p).cell? ⟨g, m, none⟩ = some (.int .i64 (up zs m)) := fun p => by rw [hq]; exact hat0
            obtain ⟨v, hv⟩ : ∃ v, up zs m = v := ⟨_, rfl⟩
            rw [hv] at hat hup HF
            have HAT := Lib.hid hat
            clear hat0 hat hv hq hz hcI hue hzm
            go_wp2
            go_quiet (fail)
            go_simp
            have hat2 := HAT.out nq
            go_wp2
            go_roundw
            case rel => exact ⟨m + 1, by omega, by go_num, by rw [HF.out]; go_num, by obtain hq := HQ.out; rw [hq]; exact ⟨_, World.drewN_drewN ..⟩⟩
            case measure => simp [intOf]; omega
          · have hd : decide (zm < zi) = false := decide_eq_false hz
            have HF := Lib.hid (show upTo zs (up zs) i (m + 1) = u by simp only [upTo]; rw [HZI.out, hzm, if_neg hz, hue])
            clear hq hz hcI hue hzm
            go_wp2
            go_quiet (fail)
            go_simp
            go_wp2
            go_roundw
            case rel => exact ⟨m + 1, by omega, by go_num, by rw [HF.out], by obtain hq := HQ.out; rw [hq]; exact ⟨_, World.drewN_drewN ..⟩⟩
            case measure => simp [intOf]; omega
        · have hmi : m = i := by omega
          have HU := Lib.hid (show up zs i = u by rw [up_eq, ← hue, hmi])
          have hown : wr.ownsRow w.heap.size 3 1 (.slice H i cH) i ((tab i fun i => (up zs i : Int)).map (Value.int .i64)) := by rw [hq]; exact HO.out
          have hbw : Below w.heap.size w wr := by rw [hq]; exact below_drewN HBR.out q
          have hbz2 := hbw.size
          clear hq hcI hcI2 hue hmi
          go_wp2_with (at_builtin; refine wpList_push rfl (.tmp 35) (.tmp 37) 22 rfl i0 (.int .i64 0) 8 Try.underlying22 hi0 hz0 hz1 hz2 rfl (by decide) _ _ rfl hown [.int .i64 (u : Int)] rfl rfl (by simp [Value.oneCell']) (by omega) (by omega) hbz2 ?_)
          intro H' c' w6 hown6 hg6
          have HW := Lib.hid (And.intro hown6 (hbw.grown hg6 hbz2 (fun i hi => (hown.lt _ hi).1)))
          clear hown hown6 hg6 hbw
          go_wp2
          go_roundw
          case rel =>
            refine ⟨i + 1, H', c', by omega, by go_num, rfl, ?_, HW.out.2⟩
            have h1 := HW.out.1
            have h2 := HU.out
            unfold tab at h1 ⊢
            rw [List.range_succ, List.map_append, List.map_append]
            simpa [h2] using h1
          case measure => simp [intOf]; omega
    · have hk' : i = zs.length := by omega
      subst hk'
      go_wp2
      go_ret
      exact iRes_row hown (by rw [tab_length]) hbr
end Go.Proofs.Ythfmmdigecjfnaa
