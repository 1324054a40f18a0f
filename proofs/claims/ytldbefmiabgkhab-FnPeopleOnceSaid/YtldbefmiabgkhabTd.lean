/- Groups: spec.PeopleOf, spec.loops, spec.LoopsOf. No condition. -/
import Derived.Test.YtldbefmiabgkhabTc
namespace Go.Proofs.Ytldbefmiabgkhab
open Go.RowKit

/-- The people whom a letter reaches; the groups that are members of themselves. -/
def PeoV (g : List (List Int)) (name : Int) (V : List Int) : Prop := ((groupsB g && inR name 0 8) = false ∧ V = []) ∨ (groupsB g = true ∧ inR name 0 8 = true ∧ ∃ p : Nat → Bool, (∀ x : Nat, p x = true ↔ Rc g (· = name) x) ∧ V = upL (peo g.length p) 9)
def LooV (g : List (List Int)) (V : List Int) : Prop := (groupsB g = false ∧ V = []) ∨ (groupsB g = true ∧ ∃ p : Nat → Bool, (∀ x : Nat, x < g.length → (p x = true ↔ Rc g (· ∈ g.getD x []) x)) ∧ V = upL p g.length)
theorem exists_peo (g : List (List Int)) (name : Int) : ∃ V, PeoV g name V := by
  by_cases h : groupsB g = true
  · by_cases h2 : inR name 0 8 = true
    · obtain ⟨p, hp⟩ := rc_bool g (· = name)
      exact ⟨_, .inr ⟨h, h2, p, hp, rfl⟩⟩
    · exact ⟨[], .inl ⟨by simp at h2; simp [h2], rfl⟩⟩
  · exact ⟨[], .inl ⟨by simp at h; simp [h], rfl⟩⟩
theorem loo_bool (g : List (List Int)) : ∃ p : Nat → Bool, ∀ x : Nat, p x = true ↔ Rc g (· ∈ g.getD x []) x :=
  ⟨fun x => @decide (Rc g (· ∈ g.getD x []) x) (Classical.propDecidable _), fun x => by simp⟩
theorem exists_loo (g : List (List Int)) : ∃ V, LooV g V := by
  by_cases h : groupsB g = true
  · obtain ⟨p, hp⟩ := loo_bool g
    exact ⟨_, .inr ⟨h, p, fun x _ => hp x, rfl⟩⟩
  · exact ⟨[], .inl ⟨by simpa using h, rfl⟩⟩
theorem PeoV.len {g : List (List Int)} {name : Int} {V : List Int} (h : PeoV g name V) : V.length ≤ 9 := by
  rcases h with ⟨_, rfl⟩ | ⟨_, _, p, _, rfl⟩
  · simp
  · exact upL_len _ _
theorem LooV.len {g : List (List Int)} {V : List Int} (h : LooV g V) : V.length ≤ 9 := by
  rcases h with ⟨_, rfl⟩ | ⟨h, p, _, rfl⟩
  · simp
  · have := upL_len p g.length; have := (gr_of h).n5; omega

set_option maxRecDepth 100000 in
set_option maxHeartbeats 2000000 in
theorem specPeopleOf_any (A : Option Addr) (c : Nat) (rs : List (List Int)) (name : Int) (V : List Int) (w : World) (hr : Grid w 0 w.heap.size A rs) (hl : rs.length ≤ 1000000000) (hs : ∀ r ∈ rs, r.length ≤ 1000000000) (hV : PeoV rs name V) :
    Calls Try.prog 9 #[.slice A rs.length c, .int .i64 name] w (iRes w V) := by
  have H := Lib.hid (validGroups_any A c rs w hr hl hs)
  rcases hV with ⟨hv, rfl⟩ | ⟨hv, hn, p, hp, rfl⟩
  · by_cases h : groupsB rs = true
    · have hn : inR name 0 8 = false := by rw [h, Bool.true_and] at hv; exact hv
      have HI := Lib.hid (inRange_is hn)
      rw [h] at H
      clear hv h hn hs
      go_enter Try.func9, Try.ntmps9
      go_wp2_with (first | (go_at_call 27; (with_reducible refine H.out.mono ?_); rintro e w' ⟨rfl, rfl⟩) | (go_at_call 28; (with_reducible refine (HI.out _).mono ?_); rintro e w' ⟨rfl, rfl⟩))
      go_ret
      exact iRes.none rfl (Below.refl _ _)
    · have h' : groupsB rs = false := by simpa using h
      rw [h'] at H
      clear hv h h' hs
      go_enter Try.func9, Try.ntmps9
      go_wp2_with (go_at_call 27; (with_reducible refine H.out.mono ?_); rintro e w' ⟨rfl, rfl⟩)
      go_ret
      exact iRes.none rfl (Below.refl _ _)
  · have hnn := inR_iff.1 hn
    have HI := Lib.hid (inRange_is hn)
    have HC := Lib.hid (people_any A c rs name p w hr hv hnn.1 hnn.2 hp)
    rw [hv] at H
    obtain ⟨T, hT⟩ : ∃ T, upL (peo rs.length p) 9 = T := ⟨_, rfl⟩
    rw [hT] at HC ⊢
    clear hv hn hs hp hT hnn
    go_enter Try.func9, Try.ntmps9
    go_wp2_with (first | (go_at_call 27; (with_reducible refine H.out.mono ?_); rintro e w' ⟨rfl, rfl⟩) | (go_at_call 28; (with_reducible refine (HI.out _).mono ?_); rintro e w' ⟨rfl, rfl⟩) | (go_at_call 29; (with_reducible refine HC.out.mono ?_); rintro e w' ⟨S, -, hS9, A1, c1, A2, c2, rfl, h1, h2, h3, h4⟩))
    go_ret
    exact ⟨A1, c1, rfl, h1, h2, h4⟩

set_option maxRecDepth 100000 in
set_option maxHeartbeats 4000000 in
theorem loops_any (A : Option Addr) (c : Nat) (rs : List (List Int)) (x : Nat) (b : Bool) (w : World) (hr : Grid w 0 w.heap.size A rs) (hg : groupsB rs = true) (hx : x < rs.length) (hb : b = true ↔ Rc rs (· ∈ rs.getD x []) x) :
    Calls Try.prog 34 #[.slice A rs.length c, .int .i64 (x : Int)] w fun e w' => e = .returned (.bool b) ∧ Below w.heap.size w w' := by
  have HG := Lib.hid hg
  have hl5 := (gr_of hg).n5
  have hm4 := (gr_of hg).m4 x hx
  have HLO := Lib.hid ((gr_of hg).lo x hx)
  have HB := Lib.hid hb
  have HR := Lib.hid hr
  have HGD := Lib.hid (getD_row hx)
  rw [HGD.out] at HB
  obtain ⟨bb, o, R, c1, rfl, hb0, hcell0, hc1, ho⟩ := hr.open hx
  obtain ⟨r, hre⟩ : ∃ r, rs[x] = r := ⟨_, rfl⟩
  rw [hre] at hcell0 ho hm4 HLO HB
  have HC0 := Lib.hid hcell0
  have HO := Lib.hid ho
  have hxI : (x : Int) < (rs.length : Int) := by omega
  clear hb hg hcell0 ho hre hc1
  go_enter Try.func34, Try.ntmps34
  go_wp2
  go_loopw [5] (fun k wr => ∃ k' : Nat, k' ≤ r.length ∧ k = .int .i64 k' ∧ Hid (∀ z ∈ r.take k', ¬ Rc rs (· = z) x) ∧ Below w.heap.size w wr) (fun k _ => r.length - (intOf k).toNat)
  case atStart => exact ⟨0, by omega, rfl, Lib.hid (by simp), Below.refl _ _⟩
  case round =>
    obtain ⟨k, hk, rfl, HN, hbr⟩ := hrel
    have HBR := Lib.hid hbr
    have hbz := hbr.size
    have hcell := (hbr.cell (p := ⟨bb, o + x, none⟩) hb0).trans HC0.out
    by_cases hlk : k < r.length
    · obtain ⟨b', o', rfl, hb', hc'⟩ := (HO.out.below hbr).open (by simp; omega)
      have q0 := ints_at hc' hlk
      have HTK := Lib.hid (List.take_succ_eq_append_getElem hlk)
      have HMEM := Lib.hid (List.getElem_mem hlk)
      have hkI : (k : Int) < (r.length : Int) := by omega
      obtain ⟨z, hz⟩ : ∃ z, r[k] = z := ⟨_, rfl⟩
      rw [hz] at q0 HTK HMEM
      obtain ⟨p, hp⟩ := rc_bool rs (· = z)
      have hzr := HLO.out z HMEM.out
      have HPE := Lib.hid (people_any _ c rs z p wr ((HR.out.below hbr).more hbz) HG.out hzr.1 hzr.2 hp)
      obtain ⟨T, hT⟩ : ∃ T, upL (peo rs.length p) 9 = T := ⟨_, rfl⟩
      rw [hT] at HPE
      clear hz hc' hT hp hbr
      go_wp2_with fail
      refine HPE.out.mono ?_
      rintro e w2 ⟨S, HS, hS9, A1, c2, A2, c3, rfl, h1, h2, h3, h4⟩
      obtain ⟨t, ht1, ht2, hP⟩ := place_is A2 c3 S (x : Int) w2 (h3.row.more (Nat.le_refl _)) (by omega)
      have HPL := Lib.hid hP
      have HB2 := Lib.hid (HBR.out.trans (h4.mono hbz))
      clear hP ht1 h1 h2 h3 h4
      by_cases hxS : (x : Int) ∈ S
      · rw [decide_eq_true hxS] at ht2
        have HF := Lib.hid (show b = true from HB.out.2 (Rc.one.2 ⟨z, HMEM.out, (HS.out _).1 hxS⟩))
        clear hxS
        go_wp2_with (go_at_call 40; (with_reducible refine HPL.out.mono ?_); rintro e w' ⟨rfl, rfl⟩)
        go_ret
        exact ⟨ret_bool HF.out.symm, HB2.out⟩
      · rw [decide_eq_false hxS] at ht2
        have HNN := Lib.hid (show ∀ u ∈ r.take (k + 1), ¬ Rc rs (· = u) x by
          rw [HTK.out]; intro u hu
          rcases List.mem_append.1 hu with h | h
          · exact HN.out u h
          · simp only [List.mem_singleton] at h; subst h; exact fun h => hxS ((HS.out _).2 h))
        clear hxS
        go_wp2_with (go_at_call 40; (with_reducible refine HPL.out.mono ?_); rintro e w' ⟨rfl, rfl⟩)
        go_roundw
        case rel => exact ⟨k + 1, by omega, by go_num, Lib.hid HNN.out, HB2.out⟩
        case measure => simp [intOf]; omega
    · have hkk : k = r.length := by omega
      subst hkk
      have HF := Lib.hid (show b = false by
        rw [Bool.eq_false_iff]
        intro hbt
        obtain ⟨z, hz, h2⟩ := Rc.one.1 (HB.out.1 hbt)
        have := HN.out
        rw [List.take_length] at this
        exact this z hz h2)
      clear hbr
      go_wp2_with fail
      go_ret
      exact ⟨ret_bool HF.out.symm, HBR.out⟩

set_option maxRecDepth 100000 in
set_option maxHeartbeats 4000000 in
theorem specLoopsOf_any (A : Option Addr) (c : Nat) (rs : List (List Int)) (V : List Int) (w : World) (hr : Grid w 0 w.heap.size A rs) (hl : rs.length ≤ 1000000000) (hs : ∀ r ∈ rs, r.length ≤ 1000000000) (hV : LooV rs V) :
    Calls Try.prog 17 #[.slice A rs.length c] w (iRes w V) := by
  obtain ⟨i0, hi0, hz0, hz1, hz2⟩ := info_parts Try.infoD
  have H := Lib.hid (validGroups_any A c rs w hr hl hs)
  have HR := Lib.hid hr
  rcases hV with ⟨hv, rfl⟩ | ⟨hv, p, hp, rfl⟩
  · rw [hv] at H
    clear hv hs
    go_enter Try.func17, Try.ntmps17
    go_wp2_with (go_at_call 27; (with_reducible refine H.out.mono ?_); rintro e w' ⟨rfl, rfl⟩)
    go_ret
    exact iRes.none rfl (Below.refl _ _)
  · have HG := Lib.hid hv
    have HP := Lib.hid hp
    have hl5 := (gr_of hv).n5
    rw [hv] at H
    have HST := Lib.hid (first_litD w)
    clear hv hs hp hl
    go_enter Try.func17, Try.ntmps17
    go_wp2_with (go_at_call 27; (with_reducible refine H.out.mono ?_); rintro e w' ⟨rfl, rfl⟩)
    clear H
    go_loopw [3, 4] (fun v x wr => ∃ (x' m c' : Nat) (H3 : Option Addr) (T : List Int), x' ≤ rs.length ∧ x = .int .i64 x' ∧ v = .slice H3 m c' ∧ m ≤ 9 ∧ Hid (m = T.length ∧ T = upL p x') ∧ wr.ownsRow w.heap.size 3 1 (.slice H3 m c') m (T.map (Value.int .i64)) ∧ Below w.heap.size w wr) (fun _ x _ => rs.length - (intOf x).toNat)
    case atStart => exact ⟨0, 0, _, _, [], by omega, rfl, rfl, by omega, Lib.hid ⟨rfl, rfl⟩, HST.out, (Below.refl _ _).alloc (Nat.le_refl _) _⟩
    case round =>
      clear HST
      obtain ⟨x, m, cT, H3, T, hx, rfl, rfl, hm9, HT, hown, hbr⟩ := hrel
      have HO := Lib.hid hown
      have HBR := Lib.hid hbr
      have hbz := hbr.size
      by_cases hlx : x < rs.length
      · have hxI : (x : Int) < (rs.length : Int) := by omega
        have HC := Lib.hid (loops_any A c rs x (p x) wr ((HR.out.below hbr).more hbz) HG.out hlx (HP.out x hlx))
        clear hown hbr
        by_cases hpx : p x = true
        · rw [hpx] at HC
          have HE := Lib.hid (upL_yes hpx)
          clear hpx
          go_wp2_with fail
          refine HC.out.mono ?_
          rintro e w2 ⟨rfl, hb2⟩
          have hs2 := hb2.size
          have HO2 := Lib.hid (own_keepR HO.out hb2)
          have HB2 := Lib.hid (HBR.out.trans (hb2.mono hbz))
          have hbz2 : w.heap.size ≤ w2.heap.size := by omega
          have hm8 : m + 1 ≤ 9 := by
            have h1 := HT.out
            have h2 := upL_len p (x + 1)
            rw [HE.out, ← h1.2, List.length_append, ← h1.1] at h2
            simp at h2; omega
          clear hb2
          go_wp2_with (at_builtin; refine wpList_push rfl (.tmp 18) (.tmp 20) 24 rfl i0 (.int .i64 0) 8 Try.underlying24 hi0 hz0 hz1 hz2 rfl (by decide) _ _ rfl HO2.out [.int .i64 (x : Int)] rfl rfl (by simp [Value.oneCell']) (by omega) (by omega) hbz2 ?_)
          intro H' c' w6 hown6 hg6
          have HW := Lib.hid (And.intro hown6 (HB2.out.grown hg6 hbz2 (fun i hi => (HO2.out.lt _ hi).1)))
          clear hown6 hg6
          go_wp2
          go_roundw
          case rel => exact ⟨x + 1, m + 1, c', H', T ++ [(x : Int)], by omega, by go_num, rfl, hm8, Lib.hid ⟨by rw [List.length_append, ← HT.out.1]; rfl, by rw [HE.out, HT.out.2]⟩, by rw [List.map_append]; exact HW.out.1, HW.out.2⟩
          case measure => simp [intOf]; omega
        · have hpx' : p x = false := by simpa using hpx
          rw [hpx'] at HC
          have HE := Lib.hid (upL_no hpx')
          clear hpx hpx'
          go_wp2_with fail
          refine HC.out.mono ?_
          rintro e w2 ⟨rfl, hb2⟩
          have HO2 := Lib.hid (own_keepR HO.out hb2)
          have HB2 := Lib.hid (HBR.out.trans (hb2.mono hbz))
          clear hb2
          go_wp2_with fail
          go_roundw
          case rel => exact ⟨x + 1, m, cT, H3, T, by omega, by go_num, rfl, hm9, Lib.hid ⟨HT.out.1, by rw [HE.out, HT.out.2]⟩, HO2.out, HB2.out⟩
          case measure => simp [intOf]; omega
      · have hxe : x = rs.length := by omega
        subst hxe
        have HF := Lib.hid (show iRes w (upL p rs.length) (.returned (.slice H3 m cT)) wr by rw [← HT.out.2]; exact iRes_row HO.out HT.out.1 HBR.out)
        clear hown hbr
        go_wp2
        go_ret
        exact HF.out
end Go.Proofs.Ytldbefmiabgkhab
