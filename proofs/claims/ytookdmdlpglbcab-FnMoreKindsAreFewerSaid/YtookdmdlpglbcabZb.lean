/- The walk of the law FnMoreKindsAreFewer. No condition. -/
import Derived.Test.YtookdmdlpglbcabZa
import Derived.Test.YtookdmdlpglbcabYl
namespace Go.Proofs.Ytookdmdlpglbcab
open Go.RowKit

theorem fewV_less_kinds {zs : List Int} (hv : stampsB zs = true) {k : Nat} {r : Int} (h : 0 ≤ fewV (zs.take k) r) : 0 ≤ fewV zs r ∧ fewV zs r ≤ fewV (zs.take k) r := by
  obtain ⟨_, m, rfl, hm, he⟩ := fewV_parts h
  have e : fewV zs (m : Int) = fw zs m := fewV_yes hv (inRI.2 (by omega))
  rw [he] at h ⊢
  rw [e]
  exact fw_kinds (fun s hs => (stamp_mem hv hs).1) (fun s hs => List.mem_of_mem_take hs) m h
theorem reaV_less_kinds {zs : List Int} (hv : stampsB zs = true) {k : Nat} (h1 : 1 ≤ k) (hk : k ≤ zs.length) {m : Nat} (hm1 : 1 ≤ m) (hm6 : m ≤ 6) : reaV (zs.take k) (m : Int) ≤ (reachV zs m : Int) := by
  have hv2 := stampsB_take hv h1 hk
  rw [reaV_yes hv2 (inRI.2 (by omega))]
  have hA := reach_found (fun s hs => stamp_mem hv2 hs) hm6
  have hB := reach_found (fun s hs => stamp_mem hv hs) hm6
  have := reach_kinds (fun s hs => (stamp_mem hv hs).1) (fun s hs => List.mem_of_mem_take hs) hA hB
  omega

set_option maxRecDepth 100000 in
set_option maxHeartbeats 4000000 in
theorem fnMoreKindsAreFewer_law (A : Option Addr) (c : Nat) (zs : List Int) (w : World) (hr : Own w 0 w.heap.size A (zs.map (Value.int .u8))) (hx : zs.length ≤ c ∧ c ≤ maxLen ∧ ∀ z ∈ zs, (Lit.int .u8 z).wf = true) :
    Calls Try.prog 10 #[.slice A zs.length c] w fun e w' => e = .returned (.bool true) ∧ Below w.heap.size w w' := by
  have hl : zs.length ≤ 9223372036854775807 := by have := hx.1; have := hx.2.1; unfold maxLen at this; omega
  have HX := Lib.hid hx
  clear hx
  by_cases h20 : zs.length ≤ 1048576
  · go_enter Try.func10, Try.ntmps10
    go_wp2_with fail
    refine (drawReachOf_any _ _ _ _ hr HX.out).mono ?_
    rintro e w1 ⟨B, d, rs, most, rfl, hrb, h6, hdc, hsm, ho, hb1⟩
    obtain ⟨hrb1, hrb2⟩ := hrb
    obtain ⟨q, hq⟩ : ∃ q, reaV rs most = q := ⟨_, rfl⟩
    have hqb := reaV_bd rs most
    rw [hq] at hqb
    have HQ := Lib.hid hq
    clear hsm hq
    go_wp2_with fail
    refine (impRO_ret _ _ _ _ _ ho _ HQ.out).mono ?_
    rintro e w2 ⟨rfl, hb2⟩
    have ho2 := ho.past hb2
    go_wp2_with fail
    refine (specRO_ret _ _ _ _ _ ho2 (by omega) _ HQ.out).mono ?_
    rintro e w3 ⟨rfl, hb3⟩
    have ho3 := ho2.past hb3
    have hb13 := (hb1.trans (hb2.mono hb1.size))
    have hb13 := hb13.trans (hb3.mono hb13.size)
    have hqq : (q != q) = false := by simp
    clear hb1 hb2 hb3 ho ho2
    go_wp2_with fail
    refine (impRO_ret _ _ _ _ _ ho3 _ HQ.out).mono ?_
    rintro e w4 ⟨rfl, hb4⟩
    have ho4 := ho3.past hb4
    have HB := Lib.hid (hb13.trans (hb4.mono hb13.size))
    clear hb13 hb4 ho3 hqq
    by_cases hq0 : q < 0
    · go_wp2
      go_ret
      exact ⟨rfl, HB.out⟩
    · obtain ⟨hv, m, rfl, hm1, hm6, hqm⟩ := reaV_parts (zs := rs) (r := most) (by rw [HQ.out]; omega)
      have hlen := stampsB_len hv
      by_cases h2 : rs.length < 2
      · have h2' : (rs.length : Int) < 2 := by omega
        go_wp2
        go_ret
        exact ⟨rfl, HB.out⟩
      · have h2' : ¬ (rs.length : Int) < 2 := by omega
        rw [HQ.out] at hqm
        have HV := Lib.hid hv
        obtain ⟨b, o, rfl, hbo, hco⟩ := ho4.open (by rw [List.length_map]; omega)
        obtain ⟨p, hp⟩ : ∃ p, p = rs.length - 1 := ⟨_, rfl⟩
        have hsub : (rs.length : Int) - 1 = (p : Int) := by omega
        have hw : IntKind.i64.wrap ((rs.length : Int) - 1) = (p : Int) := by rw [hsub]; exact IntWalk.i64_in _ (by omega)
        have hsl := slice_uptoI b o rs.length d p (by omega)
        have hpl : (rs.take p).length = p := by rw [List.length_take]; omega
        have hot := ints_take ho4 p
        have HK := Lib.hid (fun r (h : 0 ≤ fewV (rs.take p) r) => fewV_less_kinds hv (k := p) h)
        have hrk := reaV_less_kinds hv (k := p) (by omega) (by omega) hm1 hm6
        rw [← hqm] at hrk
        obtain ⟨ts, hts⟩ : ∃ ts, rs.take p = ts := ⟨_, rfl⟩
        rw [hts] at hpl hot HK hrk
        obtain ⟨u, hu⟩ : ∃ u, reaV ts (m : Int) = u := ⟨_, rfl⟩
        rw [hu] at hrk
        have HU := Lib.hid hu
        have hic := fun r X (hX : Ints X X.heap.size (some ⟨b, o, none⟩) ts) b2 hb2 => impFS_ret (some ⟨b, o, none⟩) d ts r X hX b2 hb2
        rw [hpl] at hic
        have HIC := Lib.hid hic
        have hir := fun X (hX : Ints X X.heap.size (some ⟨b, o, none⟩) ts) => impRO_ret (some ⟨b, o, none⟩) d ts (m : Int) X hX u HU.out
        rw [hpl] at hir
        have HIRR := Lib.hid hir
        have hp3 : p ≤ 3 := by omega
        clear hv hqm hco hp hpl hts hu hic hir h2
        go_wp2
        clear hsl hw hsub h2'
        go_loopw [7] (fun i wr => ∃ k : Nat, k ≤ 16 ∧ i = .int .i64 ((9 * k : Nat) : Int) ∧ Below w4.heap.size w4 wr) (fun i _ => 144 - (intOf i).toNat)
        case atStart => exact ⟨0, by omega, rfl, Below.refl _ _⟩
        case round =>
          obtain ⟨k, hk, rfl, hbr⟩ := hrel
          have hor := ho4.past hbr
          have hotr := hot.past hbr
          have HBR := Lib.hid hbr
          obtain ⟨n, hn⟩ : ∃ n, 9 * k = n := ⟨_, rfl⟩
          rw [hn]
          have HN := Lib.hid hn
          clear hbr
          by_cases hlt : n ≤ 140
          · have hle : (n : Int) ≤ 140 := by omega
            obtain ⟨x, hx⟩ : ∃ x, fewV ts (n : Int) = x := ⟨_, rfl⟩
            obtain ⟨y, hy⟩ : ∃ y, fewV rs (n : Int) = y := ⟨_, rfl⟩
            have hxy : 0 ≤ x → 0 ≤ y ∧ y ≤ x := fun h => by
              have := HK.out (n : Int) (by rw [hx]; exact h)
              rw [hx, hy] at this; exact this
            have HXX := Lib.hid hx
            have HYY := Lib.hid hy
            clear hx hy
            go_wp2_with fail
            refine (HIC.out _ _ hotr _ HXX.out).mono ?_
            rintro e w6 ⟨rfl, hb6⟩
            have hor6 := hor.past hb6
            go_wp2_with fail
            refine (impFS_ret _ _ _ _ _ hor6 _ HYY.out).mono ?_
            rintro e w7 ⟨rfl, hb7⟩
            have HB7 := Lib.hid (show Below w4.heap.size w4 w7 from by have h := HBR.out.trans (hb6.mono HBR.out.size); exact h.trans (hb7.mono h.size))
            clear hb6 hb7 hor hor6 hotr
            by_cases hx0 : 0 ≤ x
            · obtain ⟨hy0, hyx⟩ := hxy hx0
              clear hxy
              go_wp2
              go_roundw
              case rel => exact ⟨k + 1, by have := HN.out; omega, by have := HN.out; go_num, HB7.out⟩
              case measure => simp [intOf]; omega
            · clear hxy
              go_wp2
              go_roundw
              case rel => exact ⟨k + 1, by have := HN.out; omega, by have := HN.out; go_num, HB7.out⟩
              case measure => simp [intOf]; omega
          · have hle : ¬ (n : Int) ≤ 140 := by omega
            have HFIN := Lib.hid (HB.out.trans (HBR.out.mono HB.out.size))
            go_wp2_with fail
            refine (HIRR.out _ hotr).mono ?_
            rintro e w6 ⟨rfl, hb6⟩
            have HB6 := Lib.hid (HFIN.out.trans (hb6.mono HFIN.out.size))
            clear hb6 hor hotr
            go_wp2
            go_ret
            exact ⟨by simp, HB6.out⟩
  · go_enter Try.func10, Try.ntmps10
    go_wp2
    go_ret
    exact ⟨rfl, Below.refl _ _⟩
end Go.Proofs.Ytookdmdlpglbcab
