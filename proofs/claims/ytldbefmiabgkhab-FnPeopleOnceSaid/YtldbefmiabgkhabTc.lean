/- Groups: spec.people, spec.PeopleOf. No condition. -/
import Derived.Test.YtldbefmiabgkhabT9
namespace Go.Proofs.Ytldbefmiabgkhab
open Go.RowKit

theorem first_at {zs : List Int} {x : Int} (h : x ∈ zs) : ∃ K, K < zs.length ∧ zs.getD K 0 = x ∧ ∀ j, j < K → zs.getD j 0 ≠ x := by
  induction zs with
  | nil => cases h
  | cons a t ih =>
    by_cases e : a = x
    · exact ⟨0, by simp, by simpa using e, fun j hj => by omega⟩
    · rcases List.mem_cons.1 h with h1 | h1
      · exact absurd h1.symm e
      · obtain ⟨K, h2, h3, h4⟩ := ih h1
        refine ⟨K + 1, by simp; omega, by simpa using h3, fun j hj => ?_⟩
        cases j with
        | zero => simpa using e
        | succ j => simpa using h4 j (by omega)

/-- spec.place tells whether a number is there. -/
theorem place_is (A : Option Addr) (c : Nat) (zs : List Int) (x : Int) (w : World) (hr : Ints w w.heap.size A zs) (hl : zs.length ≤ 1000000000) :
    ∃ r : Int, decide (r < 0) = !decide (x ∈ zs) ∧ decide (0 ≤ r) = decide (x ∈ zs) ∧ Calls Try.prog 40 #[.slice A zs.length c, .int .i64 x] w fun e w' => e = .returned (.int .i64 r) ∧ w = w' := by
  by_cases h : x ∈ zs
  · obtain ⟨K, h1, h2, h3⟩ := first_at h
    exact ⟨K, by simp [h], by simp [h], place_at A c zs x w hr hl K h1 h2 h3⟩
  · exact ⟨-1, by simp [h], by simp [h], place_no A c zs x w hr hl h⟩

/-- What 'spec.people' says. -/
def PeoPost (w : World) (V S : List Int) (e : Ending) (w' : World) : Prop := ∃ A c A2 c2, e = .returned (.tuple #[.slice A V.length c, .slice A2 S.length c2]) ∧ V.length ≤ c ∧ OwnInts w' w.heap.size w'.heap.size A V ∧ OwnInts w' w.heap.size w'.heap.size A2 S ∧ Below w.heap.size w w'
def PeoRes (w : World) (g : List (List Int)) (name : Int) (V : List Int) (e : Ending) (w' : World) : Prop := ∃ S, Hid (∀ x, x ∈ S ↔ Rc g (· = name) x) ∧ S.length ≤ 9 ∧ PeoPost w V S e w'

theorem getD_some {zs : List Int} {k : Nat} {y : Int} (hk : k < zs.length) (h : zs.getD k 0 = y) : (zs.map (Value.int .i64))[k]? = some (.int .i64 y) := by
  rw [List.getElem?_map, List.getElem?_eq_getElem hk, ← getD_get hk, h]; rfl
theorem getD_left {a b : List Int} {k : Nat} (hk : k < a.length) : (a ++ b).getD k 0 = a.getD k 0 := by
  rw [getD_get hk, getD_get (by simp; omega), List.getElem_append_left hk]

set_option maxRecDepth 100000 in
set_option maxHeartbeats 16000000 in
theorem people_any (A : Option Addr) (c : Nat) (rs : List (List Int)) (name : Int) (p : Nat → Bool) (w : World) (hr : Grid w 0 w.heap.size A rs) (hg : groupsB rs = true) (hn0 : 0 ≤ name) (hn8 : name ≤ 8) (hp : ∀ x : Nat, p x = true ↔ Rc rs (· = name) x) :
    Calls Try.prog 29 #[.slice A rs.length c, .int .i64 name] w (PeoRes w rs name (upL (peo rs.length p) 9)) := by
  obtain ⟨i0, hi0, hz0, hz1, hz2⟩ := info_parts Try.infoD
  have HG := Lib.hid (gr_of hg)
  have hl5 := HG.out.n5
  have HP := Lib.hid hp
  have HST := Lib.hid (one_rowD w name)
  have HSE := Lib.hid (Seen.start (g := rs) ⟨hn0, hn8⟩)
  clear hp hg
  go_enter Try.func29, Try.ntmps29
  go_wp2
  go_loopw [6, 7] (fun v i wr => ∃ (i' q c' : Nat) (H : Option Addr) (V : List Int), i' ≤ q ∧ i = .int .i64 i' ∧ v = .slice H q c' ∧ q = V.length ∧ Hid (Seen rs name V i') ∧ wr.ownsRow w.heap.size 3 1 (.slice H q c') q (V.map (Value.int .i64)) ∧ Below w.heap.size w wr) (fun _ i _ => 9 - (intOf i).toNat)
  case atStart => exact ⟨0, 1, _, _, [name], by omega, rfl, rfl, rfl, HSE, HST.out, (Below.refl _ _).alloc (Nat.le_refl _) _⟩
  case round =>
    clear HST HSE
    obtain ⟨i, q, cH, H, V, hi, rfl, rfl, hq, HV, hown, hbr⟩ := hrel
    have HO := Lib.hid hown
    have HBR := Lib.hid hbr
    have hbz := hbr.size
    have HQ := Lib.hid hq
    have hV9 := HV.out.len
    have hq9 : q ≤ 9 := by omega
    by_cases hlt : i < q
    · have hiI : (i : Int) < (q : Int) := by omega
      have hiV : i < V.length := by omega
      obtain ⟨g, rfl, hg1, hg2⟩ := own_some hown (by omega)
      have hcs := hown.cellAt i (by omega)
      obtain ⟨y, hy⟩ : ∃ y, V.getD i 0 = y := ⟨_, rfl⟩
      rw [getD_some hiV hy] at hcs
      have hyr := HV.out.rg y (by rw [← hy, getD_get hiV]; exact List.getElem_mem hiV)
      have HYV := Lib.hid (show V[i] = y by rw [← hy, getD_get hiV])
      obtain ⟨yn, rfl⟩ : ∃ yn : Nat, y = yn := ⟨y.toNat, by omega⟩
      have HY := Lib.hid hy
      by_cases hyl : yn < rs.length
      · have ty : decide ((rs.length : Int) ≤ (yn : Int)) = false := decide_eq_false (by omega)
        have tyn : decide (rs.length ≤ yn) = false := decide_eq_false (by omega)
        have HCEL := Lib.hid (fun (W : World) (hW : Below w.heap.size w W) => (hr.below hW).open hyl)
        obtain ⟨b, o, R, c1, rfl, hb, hcell0, hc1, ho⟩ := hr.open hyl
        have HR0 := Lib.hid hcell0
        have HR1 := Lib.hid ho
        have HM := Lib.hid (HG.out.m4 yn hyl)
        have hm4 := HM.out
        have HGD := Lib.hid (getD_row hyl)
        obtain ⟨r, hre⟩ : ∃ r, rs[yn] = r := ⟨_, rfl⟩
        rw [hre] at HR0 HR1 hm4 HGD
        have hcell := (hbr.cell (p := ⟨b, o + yn, none⟩) hb).trans HR0.out
        have hynI : (yn : Int) < (rs.length : Int) := by omega
        clear hcell0 ho hc1 hre hy hown hbr HCEL HM
        go_wp2_with fail
        clear hcs hcell ty tyn
        go_loopw [6, 8] (fun v k wr => ∃ (k' q c' : Nat) (H : Option Addr) (V : List Int), k' ≤ r.length ∧ k = .int .i64 k' ∧ v = .slice H q c' ∧ q = V.length ∧ i < q ∧ Hid (Seen rs name V i ∧ V.getD i 0 = (yn : Int) ∧ ∀ z ∈ r.take k', z ∈ V) ∧ wr.ownsRow w.heap.size 3 1 (.slice H q c') q (V.map (Value.int .i64)) ∧ Below w.heap.size w wr) (fun _ k _ => r.length - (intOf k).toNat)
        case atStart => exact ⟨0, q, cH, _, V, by omega, rfl, rfl, HQ.out, hlt, Lib.hid ⟨HV.out, HY.out, by simp⟩, HO.out, HBR.out⟩
        case round =>
          clear HV HO HBR HQ HY hV9 hq9 HYV hiI hiV hlt hi hq hg1 hg2 hbz
          obtain ⟨k, q, cH, H, V, hk, rfl, rfl, hq, hiq, HV, hown, hbr⟩ := hrel
          have HO := Lib.hid hown
          have HBR := Lib.hid hbr
          have hbz := hbr.size
          have HQ := Lib.hid hq
          have hV9 := HV.out.1.len
          have hq9 : q ≤ 9 := by omega
          have hiI : (i : Int) < (q : Int) := by omega
          have hiV : i < V.length := by omega
          have HHR := Lib.hid (own_of_rowS (by decide) hown).row
          obtain ⟨g, rfl, hg1, hg2⟩ := own_some hown (by omega)
          have hcs := hown.cellAt i (by omega)
          rw [getD_some hiV HV.out.2.1] at hcs
          have hcell := (hbr.cell (p := ⟨b, o + yn, none⟩) hb).trans HR0.out
          by_cases hlk : k < r.length
          · have hkI : (k : Int) < (r.length : Int) := by omega
            obtain ⟨b', o', rfl, hb', hc'⟩ := (HR1.out.below hbr).open (by simp; omega)
            have q0 := ints_at hc' hlk
            have HTK := Lib.hid (List.take_succ_eq_append_getElem hlk)
            have HMEM := Lib.hid (List.getElem_mem hlk)
            obtain ⟨z, hz⟩ : ∃ z, r[k] = z := ⟨_, rfl⟩
            rw [hz] at q0 HTK HMEM
            obtain ⟨t, ht1, ht2, hP⟩ := place_is _ cH V z wr HHR.out (by omega)
            rw [← hq] at hP
            have HPL := Lib.hid hP
            clear hz hc' hP ht2 hown hbr hq
            by_cases hzV : z ∈ V
            · rw [decide_eq_true hzV] at ht1
              have hti : decide (t < 0) = false := ht1
              have HIN := Lib.hid (show ∀ z ∈ r.take (k + 1), z ∈ V by
                rw [HTK.out]; intro u hu
                rcases List.mem_append.1 hu with h | h
                · exact HV.out.2.2 u h
                · simp only [List.mem_singleton] at h; subst h; exact hzV)
              clear hzV ht1
              go_wp2_with (go_at_call 40; (with_reducible refine HPL.out.mono ?_); rintro e w' ⟨rfl, rfl⟩)
              go_roundw
              case rel => exact ⟨k + 1, q, cH, _, V, by omega, by go_num, rfl, HQ.out, hiq, Lib.hid ⟨HV.out.1, HV.out.2.1, HIN.out⟩, HO.out, HBR.out⟩
              case measure => simp [intOf]; omega
            · rw [decide_eq_false hzV] at ht1
              have hti : decide (t < 0) = true := ht1
              have HSE := Lib.hid (show Seen rs name (V ++ [z]) i from Seen.push HG.out HV.out.1 hiV (y := yn) (by rw [← getD_get hiV]; exact HV.out.2.1) hyl (by rw [HGD.out]; exact HMEM.out) hzV)
              have HGE := Lib.hid (show (V ++ [z]).getD i 0 = (yn : Int) by rw [getD_left hiV]; exact HV.out.2.1)
              have HIN := Lib.hid (show ∀ u ∈ r.take (k + 1), u ∈ V ++ [z] by
                rw [HTK.out]; intro u hu
                rcases List.mem_append.1 hu with h | h
                · exact List.mem_append_left _ (HV.out.2.2 u h)
                · exact List.mem_append_right _ h)
              clear hzV ht1
              go_wp2_with (first | (go_at_call 40; (with_reducible refine HPL.out.mono ?_); rintro e w' ⟨rfl, rfl⟩) | (at_builtin; refine wpList_push rfl (.tmp 51) (.tmp 62) 24 rfl i0 (.int .i64 0) 8 Try.underlying24 hi0 hz0 hz1 hz2 rfl (by decide) _ _ rfl HO.out [.int .i64 z] rfl rfl (by simp [Value.oneCell']) (by omega) (by omega) hbz ?_))
              intro H' c' w6 hown6 hg6
              have HW := Lib.hid (And.intro hown6 (HBR.out.grown hg6 hbz (fun i hi => (HO.out.lt _ hi).1)))
              clear hown6 hg6
              go_wp2
              go_roundw
              case rel => exact ⟨k + 1, q + 1, c', H', V ++ [z], by omega, by go_num, rfl, by rw [List.length_append, ← HQ.out]; rfl, by omega, Lib.hid ⟨HSE.out, HGE.out, HIN.out⟩, by rw [List.map_append]; exact HW.out.1, HW.out.2⟩
              case measure => simp [intOf]; omega
          · have hkk : k = r.length := by omega
            subst hkk
            have HNX := Lib.hid (show Seen rs name V (i + 1) from HV.out.1.next hiV (fun y' hy' hyl' z hz => by
              have : y' = yn := by
                have h1 := HV.out.2.1
                rw [getD_get hiV, hy'] at h1; omega
              subst this
              rw [HGD.out] at hz
              have h2 := HV.out.2.2
              rw [List.take_length] at h2
              exact h2 z hz))
            clear hown hbr hq
            go_wp2_with fail
            go_roundw
            case rel => exact ⟨i + 1, q, cH, _, V, by omega, by go_num, rfl, HQ.out, HNX, HO.out, HBR.out⟩
            case measure => simp [intOf]; omega
      · have ty : decide ((rs.length : Int) ≤ (yn : Int)) = true := decide_eq_true (by omega)
        have tyn : decide (rs.length ≤ yn) = true := decide_eq_true (by omega)
        have HNX := Lib.hid (show Seen rs name V (i + 1) from HV.out.next hiV (fun y' hy' hyl' => by rw [HYV.out] at hy'; omega))
        clear hown hbr hy hq
        go_wp2_with fail
        go_roundw
        case rel => exact ⟨i + 1, q, cH, _, V, by omega, by go_num, rfl, HQ.out, HNX, HO.out, HBR.out⟩
        case measure => simp [intOf]; omega
    · have hiq : i = q := by omega
      have HIN := Lib.hid (show ∀ x, x ∈ V ↔ Rc rs (· = name) x from fun x => by have h := HV.out; rw [hiq, hq] at h; exact h.done x)
      have HPV := Lib.hid (show ∀ x : Nat, p x = decide ((x : Int) ∈ V) from fun x => by
        rw [Bool.eq_iff_iff, HP.out, decide_eq_true_eq, HIN.out])
      have HS2 := Lib.hid (own_of_rowS (by decide) hown)
      obtain ⟨W2, hW2⟩ : ∃ W2 : World, W2 = wr := ⟨_, rfl⟩
      subst hW2
      have HST := Lib.hid (first_litD W2)
      have HLOW := Lib.hid (peo_low (n := rs.length) p (Nat.le_refl _))
      clear hown hbr hiq hq
      go_wp2_with fail
      clear hlt
      go_loopw [9, 10] (fun v x wr => ∃ (x' m c' : Nat) (H3 : Option Addr) (T : List Int), rs.length ≤ x' ∧ x' ≤ 9 ∧ x = .int .i64 x' ∧ v = .slice H3 m c' ∧ m = T.length ∧ Hid (T = upL (peo rs.length p) x') ∧ wr.ownsRow W2.heap.size 3 1 (.slice H3 m c') m (T.map (Value.int .i64)) ∧ Below W2.heap.size W2 wr) (fun _ x _ => 9 - (intOf x).toNat)
      case atStart => exact ⟨rs.length, 0, _, _, [], by omega, by omega, rfl, rfl, rfl, Lib.hid HLOW.out.symm, HST.out, (Below.refl _ _).alloc (Nat.le_refl _) _⟩
      case round =>
        clear HST HLOW
        obtain ⟨x, m, cT, H3, T, hx5, hx9, rfl, rfl, hm, HT, hown, hbr⟩ := hrel
        have HO2 := Lib.hid hown
        have HB2 := Lib.hid hbr
        have hbz2 := hbr.size
        have HM := Lib.hid hm
        have hTl : m ≤ 9 := by rw [hm, HT.out]; have := upL_len (peo rs.length p) x; omega
        by_cases hlx : x < 9
        · obtain ⟨t, ht1, ht2, hP⟩ := place_is _ cH V (x : Int) wr ((HS2.out.below hbr).row.more hbr.size) (by have := HQ.out; omega)
          rw [← HQ.out] at hP
          have HPL := Lib.hid hP
          have HPX := Lib.hid (HPV.out x)
          have hxI : (x : Int) < 9 := by omega
          clear hP ht1 hown hbr hm
          by_cases hxV : (x : Int) ∈ V
          · rw [decide_eq_true hxV] at ht2
            have HE := Lib.hid (show upL (peo rs.length p) (x + 1) = upL (peo rs.length p) x ++ [(x : Int)] from upL_yes (by rw [peo, HPX.out, decide_eq_true hxV, decide_eq_true hx5]; rfl))
            clear hxV
            go_wp2_with (first | (go_at_call 40; (with_reducible refine HPL.out.mono ?_); rintro e w' ⟨rfl, rfl⟩) | (at_builtin; refine wpList_push rfl (.tmp 75) (.tmp 77) 24 rfl i0 (.int .i64 0) 8 Try.underlying24 hi0 hz0 hz1 hz2 rfl (by decide) _ _ rfl HO2.out [.int .i64 (x : Int)] rfl rfl (by simp [Value.oneCell']) (by omega) (by omega) hbz2 ?_))
            intro H' c' w6 hown6 hg6
            have HW := Lib.hid (And.intro hown6 (HB2.out.grown hg6 hbz2 (fun i hi => (HO2.out.lt _ hi).1)))
            clear hown6 hg6
            go_wp2
            go_roundw
            case rel => exact ⟨x + 1, m + 1, c', H', T ++ [(x : Int)], by omega, by omega, by go_num, rfl, by rw [List.length_append, ← HM.out]; rfl, Lib.hid (by rw [HE.out, HT.out]), by rw [List.map_append]; exact HW.out.1, HW.out.2⟩
            case measure => simp [intOf]; omega
          · rw [decide_eq_false hxV] at ht2
            have HE := Lib.hid (show upL (peo rs.length p) (x + 1) = upL (peo rs.length p) x from upL_no (by rw [peo, HPX.out, decide_eq_false hxV, Bool.and_false]))
            clear hxV
            go_wp2_with (go_at_call 40; (with_reducible refine HPL.out.mono ?_); rintro e w' ⟨rfl, rfl⟩)
            go_roundw
            case rel => exact ⟨x + 1, m, cT, H3, T, by omega, by omega, by go_num, rfl, HM.out, Lib.hid (by rw [HE.out, HT.out]), HO2.out, HB2.out⟩
            case measure => simp [intOf]; omega
        · have hx : x = 9 := by omega
          subst hx
          have HF := Lib.hid (show PeoRes w rs name (upL (peo rs.length p) 9) (.returned (.tuple #[.slice H3 m cT, .slice H q cH])) wr by
            rw [← HT.out, HM.out, HQ.out]
            have h1 := HO2.out
            rw [HM.out] at h1
            refine ⟨V, Lib.hid HIN.out, hV9, H3, cT, H, cH, rfl, own_cap h1, Own.less (own_of_rowS (by decide) h1) (by omega), (HS2.out.below HB2.out).more HB2.out.size, HBR.out.trans (HB2.out.mono hbz)⟩)
          clear hown hbr hm
          go_wp2_with fail
          go_ret2
          exact HF.out
end Go.Proofs.Ytldbefmiabgkhab
