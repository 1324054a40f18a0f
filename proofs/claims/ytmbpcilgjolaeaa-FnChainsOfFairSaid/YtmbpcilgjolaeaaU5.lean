/- Least sums of rates: impl.shorten, spec.cheapest. No condition. -/
import Derived.Test.YtmbpcilgjolaeaaU3
import Derived.Test.YtmbpcilgjolaeaaN14
import Derived.Test.YtmbpcilgjolaeaaOwn
import Derived.StillTailTactics
namespace Go.Proofs.Ytmbpcilgjolaeaa
open Go.RowKit

set_option maxRecDepth 100000 in
set_option maxHeartbeats 8000000 in
theorem shorten_any (base g n cc : Nat) (b f c : Nat → Nat) (E : Nat → Nat → Int) (w : World) (hM : MatAt w base g 0 n b f c E) (hB : Bd n E) (hn : n ≤ 5) :
    Calls Try.prog 49 #[.slice (some ⟨g, 0, none⟩) n cc] w fun e w' => e = .returned (.tuple #[]) ∧ MatAt w' base g 0 n b f c (fw7 n E) ∧ Below base w w' := by
  have HBD := Lib.hid hB
  have HM0 := Lib.hid hM
  clear hB hM
  go_enter Try.func49, Try.ntmps49
  go_wp2_with fail
  go_loopw [7] (fun v wr => ∃ m : Nat, m ≤ n ∧ v = .int .i64 m ∧ Hid (MatAt wr base g 0 n b f c (fm n E m)) ∧ Below base w wr) (fun v _ => n - (intOf v).toNat)
  case atStart => exact ⟨0, by omega, rfl, HM0, Below.refl _ _⟩
  case round =>
    obtain ⟨m, hm, rfl, HM, hb4⟩ := hrel
    have HB4 := Lib.hid hb4
    clear hb4
    by_cases hlm : m < n
    · obtain ⟨E1, hE1⟩ : ∃ E1, fm n E m = E1 := ⟨_, rfl⟩
      have HE1 := Lib.hid hE1
      have hbd := HBD.out.fm hm
      rw [hE1] at hbd HM
      have HBD1 := Lib.hid hbd
      clear hE1 hbd
      go_wp2_with fail
      go_loopw [12] (fun v wr => ∃ i : Nat, i ≤ n ∧ v = .int .i64 i ∧ Hid (MatAt wr base g 0 n b f c (fi m n E1 i)) ∧ Below base w wr) (fun v _ => n - (intOf v).toNat)
      case atStart => exact ⟨0, by omega, rfl, HM, HB4.out⟩
      case round =>
        clear HM HB4
        obtain ⟨i, hi, rfl, HM, hb5⟩ := hrel
        have HB5 := Lib.hid hb5
        clear hb5
        by_cases hli : i < n
        · obtain ⟨F0, hF0⟩ : ∃ F0, fi m n E1 i = F0 := ⟨_, rfl⟩
          have HF0 := Lib.hid hF0
          have hbd := HBD1.out.fi hlm hi
          rw [hF0] at hbd HM
          have HBD2 := Lib.hid hbd
          clear hF0 hbd
          go_wp2_with fail
          go_loopw [17] (fun v wr => ∃ k : Nat, k ≤ n ∧ v = .int .i64 k ∧ Hid (MatAt wr base g 0 n b f c (fk m i F0 k)) ∧ Below base w wr) (fun v _ => n - (intOf v).toNat)
          case atStart => exact ⟨0, by omega, rfl, HM, HB5.out⟩
          case round =>
            clear HM HB5
            obtain ⟨k, hk, rfl, HM, hb6⟩ := hrel
            have HB6 := Lib.hid hb6
            clear hb6
            by_cases hlk : k < n
            · have HBZ := Lib.hid (show base ≤ wr.heap.size by have := HM.out.1.1; have := HM.out.1.2.1; omega)
              obtain ⟨F, hF⟩ : ∃ F, fk m i F0 k = F := ⟨_, rfl⟩
              have HFE := Lib.hid hF
              have hbd := HBD2.out.fk hlm hli hk
              rw [hF] at hbd HM
              have HF := Lib.hid hbd
              clear hF hbd
              obtain ⟨⟨_, hgl, _⟩, hall, _⟩ := HM.out
              obtain ⟨x1, x2, x3, x4, x5, x6, x7⟩ := hall i hli
              obtain ⟨y1, y2, y3, y4, y5, y6, y7⟩ := hall m hlm
              have x8 := x6 m hlm
              have x9 := x6 k hlk
              have xf := x7 (f i + k)
              have y8 := y6 k hlk
              obtain ⟨pa1, pa2⟩ := HF.out i m hli hlm
              obtain ⟨qa1, qa2⟩ := HF.out m k hlm hlk
              obtain ⟨ra1, ra2⟩ := HF.out i k hli hlk
              obtain ⟨p, hp⟩ : ∃ p, F i m = p := ⟨_, rfl⟩
              obtain ⟨q, hq⟩ : ∃ q, F m k = q := ⟨_, rfl⟩
              obtain ⟨r, hrr⟩ : ∃ r, F i k = r := ⟨_, rfl⟩
              have HPQ := Lib.hid (And.intro hp (And.intro hq hrr))
              rw [hp] at x8 pa1 pa2
              rw [hq] at y8 qa1 qa2
              rw [hrr] at x9 ra1 ra2
              rw [Nat.zero_add] at x1 y1
              have i1 : (0 : Int) ≤ i := by omega
              have i2 : (i : Int) < n := by omega
              have i3 : (0 : Int) ≤ m := by omega
              have i4 : (m : Int) < n := by omega
              have i5 : (0 : Int) ≤ k := by omega
              have i6 : (k : Int) < n := by omega
              have hw : IntKind.i64.wrap (p + q) = p + q := IntWalk.i64_in _ (by omega)
              clear hall x4 x5 x6 x7 y4 y5 y6 y7 hp hq hrr
              have HX := Lib.hid (And.intro x2 x3)
              by_cases hs0 : p + q < r
              · have hmin : min r (p + q) = p + q := by omega
                have hmi2 : min (p + q) r = p + q := by omega
                have hdl : decide (p + q < r) = true := by simp; omega
                have HMV := Lib.hid (show minI r (p + q) = p + q by unfold minI; rw [if_pos hs0])
                go_wp2_with fail
                go_still_tail 29, (by kernel_rfl)
                change wpList _ _ _ _ _ wr.drew
                obtain ⟨W1, hW1⟩ : ∃ W1, wr.drew = W1 := ⟨_, rfl⟩
                have hb1 : Below wr.heap.size wr W1 := by rw [← hW1]; exact below_drewT _
                have n1 := cell_keep hb1 x3 x9
                have n2 : W1.frozen? ⟨b i, f i + k, none⟩ = false := by rw [hb1.frozen (p := ⟨b i, f i + k, none⟩) x3]; exact xf
                have HFIN := Lib.hid (And.intro ((HM.out.keep hb1).put (v := p + q) hli hlk) ((HB6.out.trans (hb1.mono HBZ.out)).setCell (p := ⟨b i, f i + k, none⟩) x2 (.int .i64 (p + q))))
                have HPU := Lib.hid (show fk m i F0 (k + 1) = upd F i k (p + q) by show upd (fk m i F0 k) i k (minI (fk m i F0 k i k) (fk m i F0 k i m + fk m i F0 k m k)) = _; rw [HFE.out, HPQ.out.1, HPQ.out.2.1, HPQ.out.2.2, HMV.out])
                rw [hW1]
                clear hW1 hb1 x1 x2 x3 x8 x9 xf y1 y2 y3 y8 hmin hmi2 hdl hw
                go_wp2_with fail
                go_roundw
                case rel => exact ⟨k + 1, by omega, by go_num, Lib.hid (by rw [HPU.out]; exact HFIN.out.1), HFIN.out.2⟩
                case measure => simp [intOf]; omega
              · have hmin : min r (p + q) = r := by omega
                have hmi2 : min (p + q) r = r := by omega
                have hdl : decide (p + q < r) = false := by simp; omega
                have HMV := Lib.hid (show minI r (p + q) = r by unfold minI; rw [if_neg hs0])
                go_wp2_with fail
                go_still_tail 29, (by kernel_rfl)
                change wpList _ _ _ _ _ wr.drew
                obtain ⟨W1, hW1⟩ : ∃ W1, wr.drew = W1 := ⟨_, rfl⟩
                have hb1 : Below wr.heap.size wr W1 := by rw [← hW1]; exact below_drewT _
                have n1 := cell_keep hb1 x3 x9
                have n2 : W1.frozen? ⟨b i, f i + k, none⟩ = false := by rw [hb1.frozen (p := ⟨b i, f i + k, none⟩) x3]; exact xf
                have HFIN := Lib.hid (And.intro ((HM.out.keep hb1).put (v := r) hli hlk) ((HB6.out.trans (hb1.mono HBZ.out)).setCell (p := ⟨b i, f i + k, none⟩) x2 (.int .i64 (r))))
                have HPU := Lib.hid (show fk m i F0 (k + 1) = upd F i k (r) by show upd (fk m i F0 k) i k (minI (fk m i F0 k i k) (fk m i F0 k i m + fk m i F0 k m k)) = _; rw [HFE.out, HPQ.out.1, HPQ.out.2.1, HPQ.out.2.2, HMV.out])
                rw [hW1]
                clear hW1 hb1 x1 x2 x3 x8 x9 xf y1 y2 y3 y8 hmin hmi2 hdl hw
                go_wp2_with fail
                go_roundw
                case rel => exact ⟨k + 1, by omega, by go_num, Lib.hid (by rw [HPU.out]; exact HFIN.out.1), HFIN.out.2⟩
                case measure => simp [intOf]; omega
            · have hee : k = n := by omega
              subst hee
              go_wp2_with fail
              go_roundw
              case rel => exact ⟨i + 1, by omega, by go_num, Lib.hid (by show MatAt wr base g 0 k b f c (fk m i (fi m k E1 i) k); rw [HF0.out]; exact HM.out), HB6.out⟩
              case measure => simp [intOf]; omega
        · have haa : i = n := by omega
          subst haa
          go_wp2_with fail
          go_roundw
          case rel => exact ⟨m + 1, by omega, by go_num, Lib.hid (by show MatAt wr base g 0 i b f c (fi m i (fm i E m) i); rw [HE1.out]; exact HM.out), HB5.out⟩
          case measure => simp [intOf]; omega
    · have hmm : m = n := by omega
      subst hmm
      go_wp2_with fail
      go_end0
      exact ⟨rfl, HM.out, HB4.out⟩

theorem rowsTo_mat (n : Nat) (D : Nat → Nat → Int) : rowsTo n n D = mat n D := rfl
theorem mat_rows {n : Nat} {D : Nat → Nat → Int} {r : List Int} (h : r ∈ mat n D) : r.length = n := by
  obtain ⟨i, _, rfl⟩ := List.mem_map.1 h
  exact tab_length _ _

set_option maxRecDepth 100000 in
set_option maxHeartbeats 8000000 in
theorem cheapest_mat (A : Option Addr) (cA n : Nat) (E : Nat → Nat → Int) (w : World) (hr : Grid w 0 w.heap.size A (mat n E)) (hB : Bd n E) (hn1 : 1 ≤ n) (hn5 : n ≤ 5) :
    Calls Try.prog 47 #[.slice A n cA] w (gRes w (mat n (fw7 n E))) := by
  obtain ⟨i0, hi0, hz0, hz1, hz2⟩ := info_parts Try.infoR
  obtain ⟨i3, hi3, hy0, hy1, hy2⟩ := info_parts Try.info3
  have HBD := Lib.hid hB
  clear hB
  go_enter Try.func47, Try.ntmps47
  go_wp2
  go_loopw [3, 4] (fun v i wr => ∃ (s : Nat) (H : Option Addr) (cH : Nat) (hs : List Value), s ≤ n ∧ i = .int .i64 s ∧ v = .slice H s cH ∧ Hid (Built wr w.heap.size H cH hs (rowsTo n s E)) ∧ Below w.heap.size w wr) (fun _ i _ => n - (intOf i).toNat)
  case atStart => exact ⟨0, _, 0, [], by omega, rfl, rfl, Lib.hid (Built.start w _ (Nat.le_refl _)), (Below.refl _ _).alloc (Nat.le_refl _) _⟩
  case round =>
    obtain ⟨s, H, cH, hs, hsN, rfl, rfl, HT, hbr⟩ := hrel
    have HBR := Lib.hid hbr
    have hbz := hbr.size
    clear hbr
    by_cases hlt : s < n
    · obtain ⟨bA, oA, R, cR, rfl, hbA, hcell, hcR, ho⟩ := (hr.below HBR.out).open (i := s) (by rw [mat_len]; exact hlt)
      rw [mat_get hlt] at hcell hcR ho
      rw [tab_length] at hcell hcR
      have hlit : (wr.alloc (.cells #[] 3)).ownsRow wr.heap.size 3 1 (.slice (some ⟨wr.heap.size, 0, none⟩) 0 0) 0 [] := World.ownsRow_lit wr #[] 0 (Nat.le_refl _) (by simp [maxLen]) rfl
      have hba : Below wr.heap.size wr (wr.alloc (.cells #[] 3)) := (Below.refl _ _).alloc (Nat.le_refl _) _
      have hsrc := (ho.more hbz).below hba
      have hcell2 := cell_keep hba (by omega) hcell
      have HBA := Lib.hid hba
      have HLIT := Lib.hid hlit
      have htl : (tab n (E s)).length = n := tab_length _ _
      clear hba ho hcell
      go_wp2_with (at_builtin; refine wpList_extend rfl (.tmp 16) (.tmp 20) 27 rfl i3 (.int .i64 0) 8 Try.underlying27 hi3 hy0 hy1 hy2 rfl (by decide) _ _ rfl hlit R n cR wr.heap.size ((tab n (E s)).map (Value.int .i64)) rfl (by simp [htl]) hsrc (fun u hu => by obtain ⟨z, _, rfl⟩ := List.mem_map.1 hu; rfl) (by omega) (by omega) (by simp) ?_)
      intro A2 c2 w2 hown2 hg2
      have hb12 : Below wr.heap.size wr w2 := HBA.out.grown hg2 (by simp) (fun i hi => (HLIT.out.lt _ hi).1)
      have hown2' : w2.ownsRow wr.heap.size 3 1 (.slice A2 n c2) n ((tab n (E s)).map (Value.int .i64)) := by simpa using hown2
      have HO2 := Lib.hid hown2'
      have HB12 := Lib.hid hb12
      have hBk := HT.out.keep hb12
      have hownC : w2.ownsRow w.heap.size 27 1 (.slice H s cH) s hs := by have := hBk.1; rwa [rowsTo_len] at this
      have hz2' : wr.heap.size ≤ w2.heap.size := hb12.size
      clear hlit hown2 hown2' hg2 hb12 hBk hsrc hcell2 htl
      go_wp2_with (at_builtin; refine wpList_push_at rfl (.tmp 15) (.tmp 22) 22 rfl i0 (.slice none 0 0) 24 Try.underlying22 hi0 hz0 hz1 hz2 rfl (by decide) _ _ rfl hownC [.slice A2 n c2] rfl rfl (by simp [Value.oneCell']) (by omega) (by omega) (by omega) ?_)
      intro H' cH' wd hownD hgD hat
      have hrl : (tab n (E s)).length = n := tab_length _ _
      have hTs := rowsTo_len n s E
      have hbuilt := Built.push (R := A2) (cR := c2) (r := tab n (E s)) HT.out hbz HB12.out (own_row_cells HO2.out) (by rw [hrl]; exact own_cap HO2.out) (by rw [hTs, hrl]; exact hownD) (by rw [hTs]; exact hgD) (by rcases hat with h | h; exact .inl h; exact .inr (by simpa using h))
      rw [← rowsTo_more] at hbuilt
      have hbwd : Below w.heap.size w wd := (HBR.out.trans (HB12.out.mono hbz)).grown hgD (by omega) (fun i hi => (hownC.lt _ hi).1)
      have HEND := Lib.hid (And.intro hbuilt hbwd)
      clear hrl hTs hbuilt hbwd hownD hgD hat hownC
      go_wp2_with fail
      go_roundw
      case rel => exact ⟨s + 1, H', cH', _, by omega, by go_num, rfl, Lib.hid HEND.out.1, HEND.out.2⟩
      case measure => simp [intOf]; omega
    · have hsn : n = s := by omega
      subst hsn
      have hown := HT.out.1
      rw [rowsTo_len] at hown
      obtain ⟨g, rfl, hg0, hg1⟩ := own_some hown (by omega)
      obtain ⟨base, hbase⟩ : ∃ base, w.heap.size = base := ⟨_, rfl⟩
      obtain ⟨b, f, c, hmat⟩ := MatAt.of (D := E) (n := n) HT.out.mgrid (by omega)
      rw [hbase] at hmat
      have HMAT := Lib.hid hmat
      have HCAP := Lib.hid (own_cap hown)
      have hbr := HBR.out
      rw [hbase] at hbr
      have HBR2 := Lib.hid hbr
      have HBASE := Lib.hid hbase
      clear hown hmat hbr hbase HBR HT
      go_wp2_with fail
      go_loopw [5] (fun v wr => ∃ m : Nat, m ≤ n ∧ v = .int .i64 m ∧ Hid (MatAt wr base g 0 n b f c (fm n E m)) ∧ Below base w wr) (fun v _ => n - (intOf v).toNat)
      case atStart => exact ⟨0, by omega, rfl, HMAT, HBR2.out⟩
      case round =>
        obtain ⟨m, hm, rfl, HM, hb4⟩ := hrel
        have HB4 := Lib.hid hb4
        clear hb4
        by_cases hlm : m < n
        · obtain ⟨E1, hE1⟩ : ∃ E1, fm n E m = E1 := ⟨_, rfl⟩
          have HE1 := Lib.hid hE1
          have hbd := HBD.out.fm hm
          rw [hE1] at hbd HM
          have HBD1 := Lib.hid hbd
          clear hE1 hbd
          go_wp2_with fail
          go_loopw [6] (fun v wr => ∃ i : Nat, i ≤ n ∧ v = .int .i64 i ∧ Hid (MatAt wr base g 0 n b f c (fi m n E1 i)) ∧ Below base w wr) (fun v _ => n - (intOf v).toNat)
          case atStart => exact ⟨0, by omega, rfl, HM, HB4.out⟩
          case round =>
            clear HM HB4
            obtain ⟨i, hi, rfl, HM, hb5⟩ := hrel
            have HB5 := Lib.hid hb5
            clear hb5
            by_cases hli : i < n
            · obtain ⟨F0, hF0⟩ : ∃ F0, fi m n E1 i = F0 := ⟨_, rfl⟩
              have HF0 := Lib.hid hF0
              have hbd := HBD1.out.fi hlm hi
              rw [hF0] at hbd HM
              have HBD2 := Lib.hid hbd
              clear hF0 hbd
              go_wp2_with fail
              go_loopw [7] (fun v wr => ∃ k : Nat, k ≤ n ∧ v = .int .i64 k ∧ Hid (MatAt wr base g 0 n b f c (fk m i F0 k)) ∧ Below base w wr) (fun v _ => n - (intOf v).toNat)
              case atStart => exact ⟨0, by omega, rfl, HM, HB5.out⟩
              case round =>
                clear HM HB5
                obtain ⟨k, hk, rfl, HM, hb6⟩ := hrel
                have HB6 := Lib.hid hb6
                clear hb6
                by_cases hlk : k < n
                · have HBZ := Lib.hid (show base ≤ wr.heap.size by have := HM.out.1.1; have := HM.out.1.2.1; omega)
                  obtain ⟨F, hF⟩ : ∃ F, fk m i F0 k = F := ⟨_, rfl⟩
                  have HFE := Lib.hid hF
                  have hbd := HBD2.out.fk hlm hli hk
                  rw [hF] at hbd HM
                  have HF := Lib.hid hbd
                  clear hF hbd
                  obtain ⟨⟨_, hgl, _⟩, hall, _⟩ := HM.out
                  obtain ⟨x1, x2, x3, x4, x5, x6, x7⟩ := hall i hli
                  obtain ⟨y1, y2, y3, y4, y5, y6, y7⟩ := hall m hlm
                  have x8 := x6 m hlm
                  have x9 := x6 k hlk
                  have xf := x7 (f i + k)
                  have y8 := y6 k hlk
                  obtain ⟨pa1, pa2⟩ := HF.out i m hli hlm
                  obtain ⟨qa1, qa2⟩ := HF.out m k hlm hlk
                  obtain ⟨ra1, ra2⟩ := HF.out i k hli hlk
                  obtain ⟨p, hp⟩ : ∃ p, F i m = p := ⟨_, rfl⟩
                  obtain ⟨q, hq⟩ : ∃ q, F m k = q := ⟨_, rfl⟩
                  obtain ⟨r, hrr⟩ : ∃ r, F i k = r := ⟨_, rfl⟩
                  have HPQ := Lib.hid (And.intro hp (And.intro hq hrr))
                  rw [hp] at x8 pa1 pa2
                  rw [hq] at y8 qa1 qa2
                  rw [hrr] at x9 ra1 ra2
                  rw [Nat.zero_add] at x1 y1
                  have i1 : (0 : Int) ≤ i := by omega
                  have i2 : (i : Int) < n := by omega
                  have i3 : (0 : Int) ≤ m := by omega
                  have i4 : (m : Int) < n := by omega
                  have i5 : (0 : Int) ≤ k := by omega
                  have i6 : (k : Int) < n := by omega
                  have hw : IntKind.i64.wrap (p + q) = p + q := IntWalk.i64_in _ (by omega)
                  clear hall x4 x5 x6 x7 y4 y5 y6 y7 hp hq hrr
                  have HX := Lib.hid (And.intro x2 x3)
                  by_cases hs0 : p + q < r
                  · have hmin : min r (p + q) = p + q := by omega
                    have hmi2 : min (p + q) r = p + q := by omega
                    have hdl : decide (p + q < r) = true := by simp; omega
                    have HMV := Lib.hid (show minI r (p + q) = p + q by unfold minI; rw [if_pos hs0])
                    go_wp2_with fail
                    go_still_tail 29, (by kernel_rfl)
                    change wpList _ _ _ _ _ wr.drew
                    obtain ⟨W1, hW1⟩ : ∃ W1, wr.drew = W1 := ⟨_, rfl⟩
                    have hb1 : Below wr.heap.size wr W1 := by rw [← hW1]; exact below_drewT _
                    have n1 := cell_keep hb1 x3 x9
                    have n2 : W1.frozen? ⟨b i, f i + k, none⟩ = false := by rw [hb1.frozen (p := ⟨b i, f i + k, none⟩) x3]; exact xf
                    have HFIN := Lib.hid (And.intro ((HM.out.keep hb1).put (v := p + q) hli hlk) ((HB6.out.trans (hb1.mono HBZ.out)).setCell (p := ⟨b i, f i + k, none⟩) x2 (.int .i64 (p + q))))
                    have HPU := Lib.hid (show fk m i F0 (k + 1) = upd F i k (p + q) by show upd (fk m i F0 k) i k (minI (fk m i F0 k i k) (fk m i F0 k i m + fk m i F0 k m k)) = _; rw [HFE.out, HPQ.out.1, HPQ.out.2.1, HPQ.out.2.2, HMV.out])
                    rw [hW1]
                    clear hW1 hb1 x1 x2 x3 x8 x9 xf y1 y2 y3 y8 hmin hmi2 hdl hw
                    go_wp2_with fail
                    go_roundw
                    case rel => exact ⟨k + 1, by omega, by go_num, Lib.hid (by rw [HPU.out]; exact HFIN.out.1), HFIN.out.2⟩
                    case measure => simp [intOf]; omega
                  · have hmin : min r (p + q) = r := by omega
                    have hmi2 : min (p + q) r = r := by omega
                    have hdl : decide (p + q < r) = false := by simp; omega
                    have HMV := Lib.hid (show minI r (p + q) = r by unfold minI; rw [if_neg hs0])
                    go_wp2_with fail
                    go_still_tail 29, (by kernel_rfl)
                    change wpList _ _ _ _ _ wr.drew
                    obtain ⟨W1, hW1⟩ : ∃ W1, wr.drew = W1 := ⟨_, rfl⟩
                    have hb1 : Below wr.heap.size wr W1 := by rw [← hW1]; exact below_drewT _
                    have n1 := cell_keep hb1 x3 x9
                    have n2 : W1.frozen? ⟨b i, f i + k, none⟩ = false := by rw [hb1.frozen (p := ⟨b i, f i + k, none⟩) x3]; exact xf
                    have HFIN := Lib.hid (And.intro ((HM.out.keep hb1).put (v := r) hli hlk) ((HB6.out.trans (hb1.mono HBZ.out)).setCell (p := ⟨b i, f i + k, none⟩) x2 (.int .i64 (r))))
                    have HPU := Lib.hid (show fk m i F0 (k + 1) = upd F i k (r) by show upd (fk m i F0 k) i k (minI (fk m i F0 k i k) (fk m i F0 k i m + fk m i F0 k m k)) = _; rw [HFE.out, HPQ.out.1, HPQ.out.2.1, HPQ.out.2.2, HMV.out])
                    rw [hW1]
                    clear hW1 hb1 x1 x2 x3 x8 x9 xf y1 y2 y3 y8 hmin hmi2 hdl hw
                    go_wp2_with fail
                    go_roundw
                    case rel => exact ⟨k + 1, by omega, by go_num, Lib.hid (by rw [HPU.out]; exact HFIN.out.1), HFIN.out.2⟩
                    case measure => simp [intOf]; omega
                · have hee : k = n := by omega
                  subst hee
                  go_wp2_with fail
                  go_roundw
                  case rel => exact ⟨i + 1, by omega, by go_num, Lib.hid (by show MatAt wr base g 0 k b f c (fk m i (fi m k E1 i) k); rw [HF0.out]; exact HM.out), HB6.out⟩
                  case measure => simp [intOf]; omega
            · have haa : i = n := by omega
              subst haa
              go_wp2_with fail
              go_roundw
              case rel => exact ⟨m + 1, by omega, by go_num, Lib.hid (by show MatAt wr base g 0 i b f c (fi m i (fm i E m) i); rw [HE1.out]; exact HM.out), HB5.out⟩
              case measure => simp [intOf]; omega
        · have hmm : m = n := by omega
          subst hmm
          have HG := Lib.hid HM.out.mgrid
          go_wp2_with fail
          go_ret
          exact ⟨some ⟨g, 0, none⟩, _, by rw [mat_len]; rfl, by rw [mat_len]; exact HCAP.out, by rw [HBASE.out]; exact HG.out, by rw [HBASE.out]; exact HB4.out⟩
end Go.Proofs.Ytmbpcilgjolaeaa
