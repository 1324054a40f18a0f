/- Least sums of rates: impl.shorten, spec.cheapest. No condition. -/
import Derived.Test.YtjklnknlifpidaaU3
import Derived.Test.YtjklnknlifpidaaN14
import Derived.Test.YtjklnknlifpidaaOwn
import Derived.StillTailTactics
namespace Go.Proofs.Ytjklnknlifpidaa
open Go.RowKit

set_option maxRecDepth 100000 in
set_option maxHeartbeats 8000000 in
theorem shorten_any (base g n cc : Nat) (b f c : Nat → Nat) (E : Nat → Nat → Int) (w : World) (hM : MatAt w base g 0 n b f c E) (hB : Bd n E) (hn : n ≤ 5) :
    Calls Try.prog 59 #[.slice (some ⟨g, 0, none⟩) n cc] w fun e w' => e = .returned (.tuple #[]) ∧ MatAt w' base g 0 n b f c (fw7 n E) ∧ Below base w w' := by
  have HBD := Lib.hid hB
  have HM0 := Lib.hid hM
  clear hB hM
  go_enter Try.func59, Try.ntmps59
  go_wp2_with fail
  go_loopw [7] (fun v wr => ∃ m : Nat, m ≤ n ∧ v = .int .i64 m ∧ Hid (MatAt wr base g 0 n b f c (fm n E m)) ∧ Below base w wr) (fun v _ => n - (intOf v).toNat)
  case atStart => exact ⟨0, by omega, rfl, HM0, Below.refl _ _⟩
  case round =>
    obtain ⟨m, hm, rfl, HM, hb4⟩ := hrel
    have HB4 := Lib.hid hb4
    clear hb4
    by_cases hlm : m < n
    · obtain ⟨E1, hE1⟩ : ∃ E1, fm n E m = E1 := ⟨_, rfl⟩
      have HE1 := Lib.hid hE1
      have hbd := HBD.out.fm hm
      rw [hE1] at hbd HM
      have HBD1 := Lib.hid hbd
      clear hE1 hbd
      go_wp2_with fail
      go_loopw [12] (fun v wr => ∃ i : Nat, i ≤ n ∧ v = .int .i64 i ∧ Hid (MatAt wr base g 0 n b f c (fi m n E1 i)) ∧ Below base w wr) (fun v _ => n - (intOf v).toNat)
      case atStart => exact ⟨0, by omega, rfl, HM, HB4.out⟩
      case round =>
        clear HM HB4
        obtain ⟨i, hi, rfl, HM, hb5⟩ := hrel
        have HB5 := Lib.hid hb5
        clear hb5
        by_cases hli : i < n
        · obtain ⟨F0, hF0⟩ : ∃ F0, fi m n E1 i = F0 := ⟨_, rfl⟩
          have HF0 := Lib.hid hF0
          have hbd := HBD1.out.fi hlm hi
          rw [hF0] at hbd HM
          have HBD2 := Lib.hid hbd
          clear hF0 hbd
          go_wp2_with fail
          go_loopw [17] (fun v wr => ∃ k : Nat, k ≤ n ∧ v = .int .i64 k ∧ Hid (MatAt wr base g 0 n b f c (fk m i F0 k)) ∧ Below base w wr) (fun v _ => n - (intOf v).toNat)
          case atStart => exact ⟨0, by omega, rfl, HM, HB5.out⟩
          case round =>
            clear HM HB5
            obtain ⟨k, hk, rfl, HM, hb6⟩ := hrel
            have HB6 := Lib.hid hb6
            clear hb6
            by_cases hlk : k < n
            · have HBZ := Lib.hid (show base ≤ wr.heap.size by have := HM.out.1.1; have := HM.out.1.2.1; omega)
              obtain ⟨F, hF⟩ : ∃ F, fk m i F0 k = F := ⟨_, rfl⟩
              have HFE := Lib.hid hF
              have hbd := HBD2.out.fk hlm hli hk
              rw [hF] at hbd HM
              have HF := Lib.hid hbd
              clear hF hbd
              obtain ⟨⟨_, hgl, _⟩, hall, _⟩ := HM.out
              obtain ⟨x1, x2, x3, x4, x5, x6, x7⟩ := hall i hli
              obtain ⟨y1, y2, y3, y4, y5, y6, y7⟩ := hall m hlm
              have x8 := x6 m hlm
              have x9 := x6 k hlk
              have xf := x7 (f i + k)
              have y8 := y6 k hlk
              obtain ⟨pa1, pa2⟩ := HF.out i m hli hlm
              obtain ⟨qa1, qa2⟩ := HF.out m k hlm hlk
              obtain ⟨ra1, ra2⟩ := HF.out i k hli hlk
              obtain ⟨p, hp⟩ : ∃ p, F i m = p := ⟨_, rfl⟩
              obtain ⟨q, hq⟩ : ∃ q, F m k = q := ⟨_, rfl⟩
              obtain ⟨r, hrr⟩ : ∃ r, F i k = r := ⟨_, rfl⟩
              have HPQ := Lib.hid (And.intro hp (And.intro hq hrr))
              rw [hp] at x8 pa1 pa2
              rw [hq] at y8 qa1 qa2
              rw [hrr] at x9 ra1 ra2
              rw [Nat.zero_add] at x1 y1
              have i1 : (0 : Int) ≤ i := by omega
              have i2 : (i : Int) < n := by omega
              have i3 : (0 : Int) ≤ m := by omega
              have i4 : (m : Int) < n := by omega
              have i5 : (0 : Int) ≤ k := by omega
              have i6 : (k : Int) < n := by omega
              have hw : IntKind.i64.wrap (p + q) = p + q := IntWalk.i64_in _ (by omega)
              clear hall x4 x5 x6 x7 y4 y5 y6 y7 hp hq hrr
              have HX := Lib.hid (And.intro x2 x3)
              by_cases hs0 : p + q < r
              · have hmin : min r (p + q) = p + q := by omega
                have hmi2 : min (p + q) r = p + q := by omega
                have hdl : decide (p + q < r) = true := by simp; omega
                have HMV := Lib.hid (show minI r (p + q) = p + q by unfold minI; rw [if_pos hs0])
                go_wp2_with fail
                go_still_tail 29, (by kernel_rfl)
                change wpList _ _ _ _ _ wr.drew
                obtain ⟨W1, hW1⟩ : ∃ W1, wr.drew = W1 := ⟨_, rfl⟩
                have hb1 : Below wr.heap.size wr W1 := by rw [← hW1]; exact below_drewT _
                have n1 := cell_keep hb1 x3 x9
                have n2 : W1.frozen? ⟨b i, f i + k, none⟩ = false := by rw [hb1.frozen (p := ⟨b i, f i + k, none⟩) x3]; exact xf
                have HFIN := Lib.hid (And.intro ((HM.out.keep hb1).put (v := p + q) hli hlk) ((HB6.out.trans (hb1.mono HBZ.out)).setCell (p := ⟨b i, f i + k, none⟩) x2 (.int .i64 (p + q))))
                have HPU := Lib.hid (show fk m i F0 (k + 1) = upd F i k (p + q) by show upd (fk m i F0 k) i k (minI (fk m i F0 k i k) (fk m i F0 k i m + fk m i F0 k m k)) = _; rw [HFE.out, HPQ.out.1, HPQ.out.2.1, HPQ.out.2.2, HMV.out])
                rw [hW1]
                clear hW1 hb1 x1 x2 x3 x8 x9 xf y1 y2 y3 y8 hmin hmi2 hdl hw
                go_wp2_with fail
                go_roundw
                case rel => exact ⟨k + 1, by omega, by go_num, Lib.hid (by rw [HPU.out]; exact HFIN.out.1), HFIN.out.2⟩
                case measure => simp [intOf]; omega
              · have hmin : min r (p + q) = r := by omega
                have hmi2 : min (p + q) r = r := by omega
                have hdl : decide (p + q < r) = false := by simp; omega
                have HMV := Lib.hid (show minI r (p + q) = r by unfold minI; rw [if_neg hs0])
                go_wp2_with fail
                go_still_tail 29, (by kernel_rfl)
                change wpList _ _ _ _ _ wr.drew
                obtain ⟨W1, hW1⟩ : ∃ W1, wr.drew = W1 := ⟨_, rfl⟩
                have hb1 : Below wr.heap.size wr W1 := by rw [← hW1]; exact below_drewT _
                have n1 := cell_keep hb1 x3 x9
                have n2 : W1.frozen? ⟨b i, f i + k, none⟩ = false := by rw [hb1.frozen (p := ⟨b i, f i + k, none⟩) x3]; exact xf
                have HFIN := Lib.hid (And.intro ((HM.out.keep hb1).put (v := r) hli hlk) ((HB6.out.trans (hb1.mono HBZ.out)).setCell (p := ⟨b i, f i + k, none⟩) x2 (.int .i64 (r))))
                have HPU := Lib.hid (show fk m i F0 (k + 1) = upd F i k (r) by show upd (fk m i F0 k) i k (minI (fk m i F0 k i k) (fk m i F0 k i m + fk m i F0 k m k)) = _; rw [HFE.out, HPQ.out.1, HPQ.out.2.1, HPQ.out.2.2, HMV.out])
                rw [hW1]
                clear hW1 hb1 x1 x2 x3 x8 x9 xf y1 y2 y3 y8 hmin hmi2 hdl hw
                go_wp2_with fail
                go_roundw
                case rel => exact ⟨k + 1, by omega, by go_num, Lib.hid (by rw [HPU.out]; exact HFIN.out.1), HFIN.out.2⟩
                case measure => simp [intOf]; omega
            · have hee : k = n := by omega
              subst hee
              go_wp2_with fail
              go_roundw
              case rel => exact ⟨i + 1, by omega, by go_num, Lib.hid (by show MatAt wr base g 0 k b f c (fk m i (fi m k E1 i) k); rw [HF0.out]; exact HM.out), HB6.out⟩
              case measure => simp [intOf]; omega
        · have haa : i = n := by omega
          subst haa
          go_wp2_with fail
          go_roundw
          case rel => exact ⟨m + 1, by omega, by go_num, Lib.hid (by show MatAt wr base g 0 i b f c (fi m i (fm i E m) i); rw [HE1.out]; exact HM.out), HB5.out⟩
          case measure => simp [intOf]; omega
    · have hmm : m = n := by omega
      subst hmm
      go_wp2_with fail
      go_end0
      exact ⟨rfl, HM.out, HB4.out⟩

theorem rowsTo_mat (n : Nat) (D : Nat → Nat → Int) : rowsTo n n D = mat n D := rfl
theorem mat_rows {n : Nat} {D : Nat → Nat → Int} {r : List Int} (h : r ∈ mat n D) : r.length = n := by
  obtain ⟨i, _, rfl⟩ := List.mem_map.1 h
  exact tab_length _ _
end Go.Proofs.Ytjklnknlifpidaa
