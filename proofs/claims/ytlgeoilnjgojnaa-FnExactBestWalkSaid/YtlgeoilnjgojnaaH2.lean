/- Houses in memory; impl.housesOf. No condition. -/
import Derived.Test.YtlgeoilnjgojnaaH1
import Derived.Test.YtlgeoilnjgojnaaG6
import Derived.Test.YtlgeoilnjgojnaaDr
import Derived.Deep.RegionLaw
namespace Go.Proofs.Ytlgeoilnjgojnaa
open Go.RowKit

/-- A list of pairs of numbers, as it lies in memory. -/
def flatP (rs : List (Int × Int)) : List Value := rs.flatMap fun r => [.int .i64 r.1, .int .i64 r.2]
theorem flatP_length (rs : List (Int × Int)) : (flatP rs).length = 2 * rs.length := by
  induction rs with
  | nil => rfl
  | cons r rs ih => simp only [flatP, List.flatMap_cons, List.length_append, List.length_cons, List.length_nil] at ih ⊢; omega
theorem flatP_cons (r : Int × Int) (rs : List (Int × Int)) : flatP (r :: rs) = [.int .i64 r.1, .int .i64 r.2] ++ flatP rs := rfl
theorem flatP_append (rs ss : List (Int × Int)) : flatP (rs ++ ss) = flatP rs ++ flatP ss := by simp [flatP]
theorem flatP_get (rs : List (Int × Int)) (k : Nat) (h : k < rs.length) : (flatP rs)[k * 2]? = some (.int .i64 rs[k].1) ∧ (flatP rs)[k * 2 + 1]? = some (.int .i64 rs[k].2) := by
  induction rs generalizing k with
  | nil => simp at h
  | cons r rs ih =>
    rw [flatP_cons]
    cases k with
    | zero => exact ⟨rfl, rfl⟩
    | succ k =>
      simp only [List.length_cons] at h
      have := ih k (by omega)
      rw [List.getElem?_append_right (by simp; omega), List.getElem?_append_right (by simp; omega)]
      simp only [List.length_cons, List.length_nil, List.getElem_cons_succ]
      rw [show (k + 1) * 2 - (0 + 1 + 1) = k * 2 by omega, show (k + 1) * 2 + 1 - (0 + 1 + 1) = k * 2 + 1 by omega]
      exact this
theorem pairs_at {w : World} {b o : Nat} {rs : List (Int × Int)} (hc : ∀ j u, (flatP rs)[j]? = some u → w.cell? ⟨b, o + j, none⟩ = some u) {k : Nat} (hk : k < rs.length) :
    w.cell? ⟨b, o + k * 2, none⟩ = some (.int .i64 rs[k].1) ∧ w.cell? ⟨b, o + k * 2 + 1, none⟩ = some (.int .i64 rs[k].2) := by
  have h := flatP_get rs k hk
  exact ⟨hc _ _ h.1, by rw [Nat.add_assoc]; exact hc _ _ h.2⟩

/-- A row as a house. -/
def hp (r : List Int) : Int × Int := (r.getD 0 0, r.getD 1 0)

theorem Try.infoH : (Try.prog.info? 66).map (fun i => (i.zero, i.size, i.bytes)) = some (some (.agg #[.int .i64 0, .int .i64 0]), 2, 16) := by kernel_rfl

/-- What 'impl.housesOf' answers. -/
def HousesPost (rs : List (List Int)) (w : World) (e : Ending) (w' : World) : Prop :=
  (housesB rs = true → ∃ A c, e = .returned (.tuple #[.slice A rs.length c, .bool true]) ∧ rs.length ≤ c ∧ Own w' (w.heap.size + 1) w'.heap.size A (flatP (rs.map hp)) ∧ Below w.heap.size w w') ∧
  (housesB rs = false → e = .returned (.tuple #[.slice none 0 0, .bool false]) ∧ Below w.heap.size w w')
theorem housesPost_no {rs : List (List Int)} {w w' : World} (h : housesB rs = false) (hb : Below w.heap.size w w') : HousesPost rs w (.returned (.tuple #[.slice none 0 0, .bool false])) w' :=
  ⟨fun h2 => (by rw [h] at h2; cases h2), fun _ => ⟨rfl, hb⟩⟩

set_option maxRecDepth 100000 in
set_option maxHeartbeats 4000000 in
theorem housesOf_all (A : Option Addr) (c : Nat) (rs : List (List Int)) (w : World) (hr : Grid w 0 w.heap.size A rs) (hs : ∀ r ∈ rs, r.length ≤ 1000000000) :
    Calls Try.prog 47 #[.slice A rs.length c] w (HousesPost rs w) := by
  have HS := Lib.hid hs
  clear hs
  obtain ⟨i0, hi0, hz0, hz1, hz2⟩ := info_parts Try.infoH
  by_cases h6 : rs.length ≤ 6
  · have hd6 : decide ((6 : Int) < (rs.length : Int)) = false := decide_eq_false (by omega)
    go_enter Try.func47, Try.ntmps47
    go_wp2_with (at_make; refine wpList_make_own _ rfl (.const (.int .i64 0)) (.tmp 11) _ rfl w.heap.size 66 i0 (.agg #[.int .i64 0, .int .i64 0]) 2 Try.underlying54 hi0 hz0 hz1 _ _ _ rs.length rfl rfl rfl (by rw [hz2]; omega) (by unfold maxLen; omega) (Nat.le_refl _) ?_)
    intro w1 hown hg
    have HST := Lib.hid (show w1.ownsRow w.heap.size 66 2 (.slice (some ⟨w.heap.size, 0, none⟩) 0 rs.length) 0 (flatP ((rs.take 0).map hp)) from hown)
    have HB1 := Lib.hid (show Below w.heap.size w w1 from (Below.refl _ _).grown hg (Nat.le_refl _) (by simp))
    clear hown hg hd6
    go_wp2
    go_loopw [4, 15] (fun v i wr => ∃ (k : Nat) (H : Option Addr) (cH : Nat), k ≤ rs.length ∧ i = .int .i64 k ∧ v = .slice H k cH ∧ wr.ownsRow w.heap.size 66 2 (.slice H k cH) k (flatP ((rs.take k).map hp)) ∧ (rs.take k).all okH = true ∧ Below w.heap.size w wr) (fun _ i _ => rs.length - (intOf i).toNat)
    case atStart => exact ⟨0, _, _, by omega, rfl, rfl, HST.out, by simp, HB1.out⟩
    case round =>
      obtain ⟨k, H, cH, hk, rfl, rfl, hown, hall, hbr⟩ := hrel
      clear HST HB1
      have HA := Lib.hid hall
      have HO := Lib.hid hown
      have HBR := Lib.hid hbr
      have hbz := hbr.size
      clear hall hown
      by_cases hlt : k < rs.length
      · obtain ⟨b, o, R, c1, rfl, hb, hcell, hc1, ho⟩ := (hr.below hbr).open hlt
        have HT := Lib.hid (all_take (p := okH) hlt)
        have HTK := Lib.hid (List.take_succ_eq_append_getElem hlt)
        have HN := Lib.hid (houses_no hlt)
        have hsz := HS.out _ (List.getElem_mem hlt)
        obtain ⟨r, hre⟩ : ∃ r, rs[k] = r := ⟨_, rfl⟩
        rw [hre] at hcell ho hsz
        have HRE := Lib.hid hre
        have HLT := Lib.hid hlt
        clear hre hc1 hbr
        by_cases h2 : r.length = 2
        · obtain ⟨p, s, rfl⟩ := two_of h2
          clear h2 hsz
          obtain ⟨b', o', rfl, hb', hc'⟩ := ho.open (by simp)
          have q0 := ints_at hc' (show 0 < [p, s].length by simp)
          have q1 := ints_at hc' (show 1 < [p, s].length by simp)
          simp only [List.getElem_cons_zero, List.getElem_cons_succ, Nat.add_zero] at q0 q1
          have hle2 : ([p, s] : List Int).length = 2 := rfl
          rw [hle2] at hcell
          clear hc' ho hle2
          have hbad : okH [p, s] = false → HousesPost rs w (.returned (.tuple #[.slice none 0 0, .bool false])) wr := fun h => housesPost_no (HN.out (by rw [HRE.out]; exact h)) HBR.out
          have HBAD := Lib.hid hbad
          clear hbad
          by_cases a0 : p < 0
          · have HF := Lib.hid (HBAD.out (by rw [okH_two, show inR p 0 20 = false by simp [inR]; omega]; rfl))
            go_wp2
            go_ret2
            exact HF.out
          have b0 : 0 ≤ p := by omega
          clear a0
          by_cases a1 : 20 < p
          · have HF := Lib.hid (HBAD.out (by rw [okH_two, show inR p 0 20 = false by simp [inR]; omega]; rfl))
            go_wp2
            go_ret2
            exact HF.out
          have b1 : p ≤ 20 := by omega
          clear a1
          by_cases a2 : s < 0
          · have HF := Lib.hid (HBAD.out (by rw [okH_two, show inR s 0 1 = false by simp [inR]; omega, Bool.and_false]))
            go_wp2
            go_ret2
            exact HF.out
          have b2 : 0 ≤ s := by omega
          clear a2
          by_cases a3 : 1 < s
          · have HF := Lib.hid (HBAD.out (by rw [okH_two, show inR s 0 1 = false by simp [inR]; omega, Bool.and_false]))
            go_wp2
            go_ret2
            exact HF.out
          have b3 : s ≤ 1 := by omega
          clear a3 HBAD HN
          have HOK := Lib.hid (show okH [p, s] = true by rw [okH_two, show inR p 0 20 = true from inR_iff.2 ⟨b0, b1⟩, show inR s 0 1 = true from inR_iff.2 ⟨b2, b3⟩]; rfl)
          go_wp2
          go_region_law (refine step_extend (w := wr.drew.alloc (.cells #[.int .i64 p, .int .i64 s] 66)) (by rfl) (.tmp 46) (.tmp 54) 54 (by rfl) i0 (.agg #[.int .i64 0, .int .i64 0]) 16 Try.underlying54 hi0 hz0 hz1 hz2 rfl (by decide) _ _ (by rfl) (HO.out.drew.alloc _) _ _ _ _ [.int .i64 p, .int .i64 s] (by rfl) (by simp) (own_new wr.drew #[.int .i64 p, .int .i64 s] 66) (by simp [Value.oneCell']) (by omega) (by omega) (by simp; omega) ?_; intro A2 c2 w2 hown2 hg2)
          all_goals
            have hgw : wr.grownBy w2 (Value.slice H k cH).ownBlock := grown_trans (g_alloc (g_drew (World.grownBy.refl wr _)) _) hg2
            have HW := Lib.hid (And.intro hown2 (HBR.out.grown hgw hbz (fun i hi => (HO.out.lt _ hi).1)))
            clear hown2 hg2 hgw
            go_wp2
            go_roundw
            case rel =>
              refine ⟨k + 1, A2, c2, by have := HLT.out; omega, by go_num, rfl, ?_, by rw [HT.out, HA.out, HRE.out, HOK.out]; rfl, HW.out.2⟩
              rw [HTK.out, HRE.out, List.map_append, flatP_append]
              exact HW.out.1
            case measure => have := HLT.out; simp [intOf]; omega
        · have ht : ((r.length : Int) != 2) = true := by simp; omega
          have HF := Lib.hid (show HousesPost rs w (.returned (.tuple #[.slice none 0 0, .bool false])) wr from housesPost_no (HN.out (by rw [HRE.out]; exact okH_no h2)) HBR.out)
          clear h2 ho
          go_wp2
          go_ret2
          exact HF.out
      · have hk' : k = rs.length := by omega
        subst hk'
        have hB : housesB rs = true := by rw [houses_all (by have := HA.out; rwa [List.take_length] at this)]; exact decide_eq_true h6
        have HF := Lib.hid (show HousesPost rs w (.returned (.tuple #[.slice H rs.length cH, .bool true])) wr from ⟨fun _ => ⟨H, cH, rfl, own_cap HO.out, by have := own_of_rowS (by decide) HO.out; rwa [List.take_length] at this, HBR.out⟩, fun h => by rw [hB] at h; cases h⟩)
        clear hB hbr
        go_wp2
        go_ret2
        exact HF.out
  · have hgt : (6 : Int) < (rs.length : Int) := by omega
    have HF := Lib.hid (show HousesPost rs w (.returned (.tuple #[.slice none 0 0, .bool false])) w from housesPost_no (by simp [housesB, h6]) (Below.refl _ _))
    clear h6
    go_enter Try.func47, Try.ntmps47
    go_wp2
    go_ret2
    exact HF.out
end Go.Proofs.Ytlgeoilnjgojnaa
