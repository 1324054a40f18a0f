/- Coaches in memory; impl.coachesOf. No condition. -/
import Derived.Test.YtimbkclhkepgfaaK1
import Derived.Test.YtimbkclhkepgfaaG6
import Derived.Test.YtimbkclhkepgfaaDr
import Derived.Deep.RegionLaw
namespace Go.Proofs.Ytimbkclhkepgfaa
open Go.RowKit

set_option maxRecDepth 100000 in
theorem isStop_any (x : Int) (w : World) : Calls Try.prog 16 #[.int .i64 x] w fun e w' => e = .returned (.bool (inR x 0 4)) ∧ w = w' := by
  by_cases h : 0 ≤ x
  · by_cases h2 : x < 5
    · go_enter Try.func16, Try.ntmps16
      go_wp2
      go_ret
      exact ⟨by simp [inR]; omega, rfl⟩
    · go_enter Try.func16, Try.ntmps16
      go_wp2
      go_ret
      exact ⟨by simp [inR]; omega, rfl⟩
  · go_enter Try.func16, Try.ntmps16
    go_wp2
    go_ret
    exact ⟨by simp [inR]; omega, rfl⟩
set_option maxRecDepth 100000 in
theorem isOnClock_any (x : Int) (w : World) : Calls Try.prog 22 #[.int .i64 x] w fun e w' => e = .returned (.bool (inR x 0 60)) ∧ w = w' := by
  by_cases h : 0 ≤ x
  · by_cases h2 : x ≤ 60
    · go_enter Try.func22, Try.ntmps22
      go_wp2
      go_ret
      exact ⟨by simp [inR]; omega, rfl⟩
    · go_enter Try.func22, Try.ntmps22
      go_wp2
      go_ret
      exact ⟨by simp [inR]; omega, rfl⟩
  · go_enter Try.func22, Try.ntmps22
    go_wp2
    go_ret
    exact ⟨by simp [inR]; omega, rfl⟩

/-- A list of coaches, as it lies in memory. -/
def cv (c : Coach) : List Value := [.int .i64 c.fr, .int .i64 c.lv, .int .i64 c.to, .int .i64 c.cm]
def flatC (cs : List Coach) : List Value := cs.flatMap cv
theorem flatC_length (cs : List Coach) : (flatC cs).length = 4 * cs.length := by
  induction cs with
  | nil => rfl
  | cons r rs ih => simp only [flatC, cv, List.flatMap_cons, List.length_append, List.length_cons, List.length_nil] at ih ⊢; omega
theorem flatC_cons (r : Coach) (rs : List Coach) : flatC (r :: rs) = cv r ++ flatC rs := rfl
theorem flatC_append (rs ss : List Coach) : flatC (rs ++ ss) = flatC rs ++ flatC ss := by simp [flatC]
theorem flatC_get (rs : List Coach) (k j : Nat) (h : k < rs.length) (hj : j < 4) : (flatC rs)[k * 4 + j]? = (cv rs[k])[j]? := by
  induction rs generalizing k with
  | nil => simp at h
  | cons r rs ih =>
    rw [flatC_cons]
    cases k with
    | zero => rw [List.getElem?_append_left (by simp [cv]; omega)]; simp
    | succ k =>
      simp only [List.length_cons] at h
      rw [List.getElem?_append_right (by simp [cv]; omega)]
      simp only [List.getElem_cons_succ]
      rw [show (k + 1) * 4 + j - (cv r).length = k * 4 + j by simp [cv]; omega]
      exact ih k (by omega)
theorem coach_at {w : World} {b o : Nat} {rs : List Coach} (hc : ∀ j u, (flatC rs)[j]? = some u → w.cell? ⟨b, o + j, none⟩ = some u) {k : Nat} (hk : k < rs.length) :
    w.cell? ⟨b, o + k * 4, none⟩ = some (.int .i64 rs[k].fr) ∧ w.cell? ⟨b, o + k * 4 + 1, none⟩ = some (.int .i64 rs[k].lv) ∧ w.cell? ⟨b, o + k * 4 + 2, none⟩ = some (.int .i64 rs[k].to) ∧ w.cell? ⟨b, o + k * 4 + 3, none⟩ = some (.int .i64 rs[k].cm) := by
  have h := fun j hj => flatC_get rs k j hk hj
  exact ⟨hc _ _ (h 0 (by omega)), by rw [Nat.add_assoc]; exact hc _ _ (h 1 (by omega)), by rw [Nat.add_assoc]; exact hc _ _ (h 2 (by omega)), by rw [Nat.add_assoc]; exact hc _ _ (h 3 (by omega))⟩

theorem Try.infoC : (Try.prog.info? 65).map (fun i => (i.zero, i.size, i.bytes)) = some (some (.agg #[.int .i64 0, .int .i64 0, .int .i64 0, .int .i64 0]), 4, 32) := by kernel_rfl

theorem below_drew {B : Nat} {a w : World} (h : Below B a w) : Below B a w.drew := ⟨h.os, h.tape, h.output, h.size, h.block⟩

/-- What 'impl.coachesOf' answers. -/
def CoachesPost (rs : List (List Int)) (w : World) (e : Ending) (w' : World) : Prop :=
  (coachesB rs = true → ∃ A c, e = .returned (.tuple #[.slice A rs.length c, .bool true]) ∧ rs.length ≤ c ∧ Own w' (w.heap.size + 1) w'.heap.size A (flatC (rs.map cp)) ∧ Below w.heap.size w w') ∧
  (coachesB rs = false → e = .returned (.tuple #[.slice none 0 0, .bool false]) ∧ Below w.heap.size w w')
theorem coachesPost_no {rs : List (List Int)} {w w' : World} (h : coachesB rs = false) (hb : Below w.heap.size w w') : CoachesPost rs w (.returned (.tuple #[.slice none 0 0, .bool false])) w' :=
  ⟨fun h2 => (by rw [h] at h2; cases h2), fun _ => ⟨rfl, hb⟩⟩

set_option maxRecDepth 100000 in
set_option maxHeartbeats 8000000 in
theorem coachesOf_all (A : Option Addr) (c : Nat) (rs : List (List Int)) (w : World) (hr : Grid w 0 w.heap.size A rs) (hs : ∀ r ∈ rs, r.length ≤ 1000000000) :
    Calls Try.prog 21 #[.slice A rs.length c] w (CoachesPost rs w) := by
  have HS := Lib.hid hs
  clear hs
  obtain ⟨i0, hi0, hz0, hz1, hz2⟩ := info_parts Try.infoC
  by_cases h6 : rs.length ≤ 10
  · have hd6 : decide ((10 : Int) < (rs.length : Int)) = false := decide_eq_false (by omega)
    go_enter Try.func21, Try.ntmps21
    go_wp2_with (at_make; refine wpList_make_own _ rfl (.const (.int .i64 0)) (.tmp 12) _ rfl w.heap.size 65 i0 (.agg #[.int .i64 0, .int .i64 0, .int .i64 0, .int .i64 0]) 4 Try.underlying42 hi0 hz0 hz1 _ _ _ rs.length rfl rfl rfl (by rw [hz2]; omega) (by unfold maxLen; omega) (Nat.le_refl _) ?_)
    intro w1 hown hg
    have HST := Lib.hid (show w1.ownsRow w.heap.size 65 4 (.slice (some ⟨w.heap.size, 0, none⟩) 0 rs.length) 0 (flatC ((rs.take 0).map cp)) from hown)
    have HB1 := Lib.hid (show Below w.heap.size w w1 from (Below.refl _ _).grown hg (Nat.le_refl _) (by simp))
    clear hown hg hd6
    go_wp2
    go_loopw [4, 16] (fun v i wr => ∃ (k : Nat) (H : Option Addr) (cH : Nat), k ≤ rs.length ∧ i = .int .i64 k ∧ v = .slice H k cH ∧ wr.ownsRow w.heap.size 65 4 (.slice H k cH) k (flatC ((rs.take k).map cp)) ∧ (rs.take k).all okC = true ∧ Below w.heap.size w wr) (fun _ i _ => rs.length - (intOf i).toNat)
    case atStart => exact ⟨0, _, _, by omega, rfl, rfl, HST.out, by simp, HB1.out⟩
    case round =>
      obtain ⟨k, H, cH, hk, rfl, rfl, hown, hall, hbr⟩ := hrel
      clear HST HB1
      have HA := Lib.hid hall
      have HO := Lib.hid hown
      have HBR := Lib.hid hbr
      have hbz := hbr.size
      clear hall hown
      by_cases hlt : k < rs.length
      · obtain ⟨b, o, R, c1, rfl, hb, hcell, hc1, ho⟩ := (hr.below hbr).open hlt
        have HT := Lib.hid (all_take (p := okC) hlt)
        have HTK := Lib.hid (List.take_succ_eq_append_getElem hlt)
        have HN := Lib.hid (coaches_no hlt)
        have hsz := HS.out _ (List.getElem_mem hlt)
        obtain ⟨r, hre⟩ : ∃ r, rs[k] = r := ⟨_, rfl⟩
        rw [hre] at hcell ho hsz
        have HRE := Lib.hid hre
        have HLT := Lib.hid hlt
        clear hre hc1 hbr
        by_cases h4 : r.length = 4
        · obtain ⟨p, l, q, d, rfl⟩ := four_of h4
          clear h4 hsz
          obtain ⟨b', o', rfl, hb', hc'⟩ := ho.open (by simp)
          have q0 := ints_at hc' (show 0 < [p, l, q, d].length by simp)
          have q1 := ints_at hc' (show 1 < [p, l, q, d].length by simp)
          have q2 := ints_at hc' (show 2 < [p, l, q, d].length by simp)
          have q3 := ints_at hc' (show 3 < [p, l, q, d].length by simp)
          simp only [List.getElem_cons_zero, List.getElem_cons_succ, Nat.add_zero] at q0 q1 q2 q3
          have hle2 : ([p, l, q, d] : List Int).length = 4 := rfl
          rw [hle2] at hcell
          clear hc' ho hle2
          have HBAD := Lib.hid (show okC [p, l, q, d] = false → ∀ w', Below w.heap.size w w' → CoachesPost rs w (.returned (.tuple #[.slice none 0 0, .bool false])) w' from fun h w' hw => coachesPost_no (HN.out (by rw [HRE.out]; exact h)) hw)
          have HSTOP := Lib.hid (fun (a : Int) (b : Bool) (hb : inR a 0 4 = b) (X : World) => show Calls Try.prog 16 #[.int .i64 a] X fun e w' => e = .returned (.bool b) ∧ X = w' from by have := isStop_any a X; rw [hb] at this; exact this)
          have HCLK := Lib.hid (fun (a : Int) (b : Bool) (hb : inR a 0 60 = b) (X : World) => show Calls Try.prog 22 #[.int .i64 a] X fun e w' => e = .returned (.bool b) ∧ X = w' from by have := isOnClock_any a X; rw [hb] at this; exact this)
          have hbw : b' < wr.heap.size := by omega
          go_wp2
          go_region
          by_cases i0 : inR p 0 4 = true
          · have HQ0 := Lib.hid (HSTOP.out p true i0)
            by_cases i1 : inR q 0 4 = true
            · have HQ1 := Lib.hid (HSTOP.out q true i1)
              by_cases i2 : inR l 0 60 = true
              · have HQ2 := Lib.hid (HCLK.out l true i2)
                have hl0 : 0 ≤ l := (inR_iff.1 i2).1
                have hl1 : l ≤ 60 := (inR_iff.1 i2).2
                by_cases i3 : inR d 0 60 = true
                · have HQ3 := Lib.hid (HCLK.out d true i3)
                  by_cases i4 : d ≤ l
                  · have HF := Lib.hid (HBAD.out (by rw [okC_four, show inR d (l + 1) 60 = false by simp [inR]; omega]; simp))
                    clear i0 i1 i2 i3 HSTOP HCLK HBAD
                    go_wp2_with (first | (go_at_call 16; ((with_reducible refine (HQ0.out _).mono ?_); rintro e w' ⟨rfl, rfl⟩)) | (go_at_call 16; ((with_reducible refine (HQ1.out _).mono ?_); rintro e w' ⟨rfl, rfl⟩)) | (go_at_call 22; ((with_reducible refine (HQ2.out _).mono ?_); rintro e w' ⟨rfl, rfl⟩)) | (go_at_call 22; ((with_reducible refine (HQ3.out _).mono ?_); rintro e w' ⟨rfl, rfl⟩)))
                    go_ret2
                    exact HF.out _ (below_drew (HBR.out.alloc hbz _))
                  · have i4' : l < d := by omega
                    have HOK := Lib.hid (show okC [p, l, q, d] = true by rw [okC_four, i0, i1, i2, show inR d (l + 1) 60 = true from inR_iff.2 ⟨by omega, (inR_iff.1 i3).2⟩]; rfl)
                    clear i0 i1 i2 i3 i4 HSTOP HCLK HBAD
                    have hown2 := (HO.out.alloc (.cells #[.int .i64 p, .int .i64 l, .int .i64 q, .int .i64 d] 65)).drew
                    go_wp2_with (first | (go_at_call 16; ((with_reducible refine (HQ0.out _).mono ?_); rintro e w' ⟨rfl, rfl⟩)) | (go_at_call 16; ((with_reducible refine (HQ1.out _).mono ?_); rintro e w' ⟨rfl, rfl⟩)) | (go_at_call 22; ((with_reducible refine (HQ2.out _).mono ?_); rintro e w' ⟨rfl, rfl⟩)) | (go_at_call 22; ((with_reducible refine (HQ3.out _).mono ?_); rintro e w' ⟨rfl, rfl⟩)) | (at_builtin; refine wpList_push_in rfl (.tmp 65) (.tmp 67) 42 rfl i0 (.agg #[.int .i64 0, .int .i64 0, .int .i64 0, .int .i64 0]) 32 Try.underlying42 hi0 hz0 hz1 hz2 rfl (by decide) _ _ rfl hown2 [.int .i64 p, .int .i64 l, .int .i64 q, .int .i64 d] rfl _ (World.size_alloc _ _).symm rfl (by simp [Value.oneCell']) (by omega) (by omega) (by simp; omega) ?_))
                    intro A2 c2 w2 hown3 hg3 _
                    have hgw : wr.grownBy w2 (Value.slice H k cH).ownBlock := grown_trans (g_drew (g_alloc (World.grownBy.refl wr _) _)) hg3
                    have HW := Lib.hid (And.intro hown3 (HBR.out.grown hgw hbz (fun i hi => (HO.out.lt _ hi).1)))
                    clear hown2 hown3 hg3 hgw
                    go_wp2
                    go_roundw
                    case rel =>
                      refine ⟨k + 1, A2, c2, by have := HLT.out; omega, by go_num, rfl, ?_, by rw [HT.out, HA.out, HRE.out, HOK.out]; rfl, HW.out.2⟩
                      rw [HTK.out, HRE.out, List.map_append, flatC_append, List.map_take]
                      exact HW.out.1
                    case measure => have := HLT.out; simp [intOf]; omega
                · have i3' : inR d 0 60 = false := by simpa using i3
                  have HQ3 := Lib.hid (HCLK.out d false i3')
                  have HF := Lib.hid (HBAD.out (by
                    have : inR d (l + 1) 60 = false := by simp [inR] at i3' ⊢; omega
                    rw [okC_four, this]; simp))
                  clear i0 i1 i2 i3 i3' HSTOP HCLK HBAD
                  go_wp2_with (first | (go_at_call 16; ((with_reducible refine (HQ0.out _).mono ?_); rintro e w' ⟨rfl, rfl⟩)) | (go_at_call 16; ((with_reducible refine (HQ1.out _).mono ?_); rintro e w' ⟨rfl, rfl⟩)) | (go_at_call 22; ((with_reducible refine (HQ2.out _).mono ?_); rintro e w' ⟨rfl, rfl⟩)) | (go_at_call 22; ((with_reducible refine (HQ3.out _).mono ?_); rintro e w' ⟨rfl, rfl⟩)))
                  go_ret2
                  exact HF.out _ (below_drew (HBR.out.alloc hbz _))
              · have i2' : inR l 0 60 = false := by simpa using i2
                have HQ2 := Lib.hid (HCLK.out l false i2')
                have HF := Lib.hid (HBAD.out (by rw [okC_four, i2']; simp))
                clear i0 i1 i2 i2' HSTOP HCLK HBAD
                go_wp2_with (first | (go_at_call 16; ((with_reducible refine (HQ0.out _).mono ?_); rintro e w' ⟨rfl, rfl⟩)) | (go_at_call 16; ((with_reducible refine (HQ1.out _).mono ?_); rintro e w' ⟨rfl, rfl⟩)) | (go_at_call 22; ((with_reducible refine (HQ2.out _).mono ?_); rintro e w' ⟨rfl, rfl⟩)))
                go_ret2
                exact HF.out _ (below_drew (HBR.out.alloc hbz _))
            · have i1' : inR q 0 4 = false := by simpa using i1
              have HQ1 := Lib.hid (HSTOP.out q false i1')
              have HF := Lib.hid (HBAD.out (by rw [okC_four, i1']; simp))
              clear i0 i1 i1' HSTOP HCLK HBAD
              go_wp2_with (first | (go_at_call 16; ((with_reducible refine (HQ0.out _).mono ?_); rintro e w' ⟨rfl, rfl⟩)) | (go_at_call 16; ((with_reducible refine (HQ1.out _).mono ?_); rintro e w' ⟨rfl, rfl⟩)))
              go_ret2
              exact HF.out _ (below_drew (HBR.out.alloc hbz _))
          · have i0' : inR p 0 4 = false := by simpa using i0
            have HQ0 := Lib.hid (HSTOP.out p false i0')
            have HF := Lib.hid (HBAD.out (by rw [okC_four, i0']; simp))
            clear i0 i0' HSTOP HCLK HBAD
            go_wp2_with (first | (go_at_call 16; ((with_reducible refine (HQ0.out _).mono ?_); rintro e w' ⟨rfl, rfl⟩)))
            go_ret2
            exact HF.out _ (below_drew (HBR.out.alloc hbz _))
        · have ht : ((r.length : Int) != 4) = true := by simp; omega
          have HF := Lib.hid (show CoachesPost rs w (.returned (.tuple #[.slice none 0 0, .bool false])) wr from coachesPost_no (HN.out (by rw [HRE.out]; exact okC_no h4)) HBR.out)
          clear h4 ho
          go_wp2
          go_ret2
          exact HF.out
      · have hk' : k = rs.length := by omega
        subst hk'
        have hB : coachesB rs = true := by rw [coaches_all (by have := HA.out; rwa [List.take_length] at this)]; exact decide_eq_true h6
        have HF := Lib.hid (show CoachesPost rs w (.returned (.tuple #[.slice H rs.length cH, .bool true])) wr from ⟨fun _ => ⟨H, cH, rfl, own_cap HO.out, by have := own_of_rowS (by decide) HO.out; rwa [List.take_length] at this, HBR.out⟩, fun h => by rw [hB] at h; cases h⟩)
        clear hB hbr
        go_wp2
        go_ret2
        exact HF.out
  · have hgt : (10 : Int) < (rs.length : Int) := by omega
    have HF := Lib.hid (show CoachesPost rs w (.returned (.tuple #[.slice none 0 0, .bool false])) w from coachesPost_no (by simp [coachesB, h6]) (Below.refl _ _))
    clear h6
    go_enter Try.func21, Try.ntmps21
    go_wp2
    go_ret2
    exact HF.out
end Go.Proofs.Ytimbkclhkepgfaa
