/- The walk of the law FnBoxOf. No condition. -/
import Derived.Test.YtphfolmhlcmbjaaDoorXi
import Derived.Test.YtphfolmhlcmbjaaDoorXf
namespace Go.Proofs.YtphfolmhlcmbjaaDoor
open Go.RowKit

theorem boxOf_nn {rs : List (ByteArray × Int)} {m : ByteArray} (h : 0 ≤ boxOfV rs m) : rulesB rs = true ∧ wordB m = true ∧ boxOfV rs m = boxV rs m ∧ hit rs m = true := by
  unfold boxOfV at h ⊢
  by_cases hc : (rulesB rs && wordB m) = true
  · rw [if_pos hc] at h ⊢
    simp only [Bool.and_eq_true] at hc
    refine ⟨hc.1, hc.2, rfl, ?_⟩
    rw [← Bool.not_eq_false]
    intro hh
    rw [boxV_none hh] at h
    omega
  · rw [if_neg hc] at h; omega
theorem boxOf_later {rs : List (ByteArray × Int)} {m : ByteArray} (h : 0 ≤ boxOfV rs m) (r : ByteArray × Int) : boxOfV (rs ++ [r]) m < 0 ∨ boxOfV (rs ++ [r]) m = boxOfV rs m := by
  obtain ⟨h1, h2, h3, h4⟩ := boxOf_nn h
  by_cases hc : rulesB (rs ++ [r]) = true
  · right
    rw [h3]
    unfold boxOfV
    rw [hc, h2, if_pos (by rfl), boxV_append, h4, if_pos (by rfl)]
  · left
    unfold boxOfV
    rw [if_neg (by simp [hc])]; omega
theorem boxV_drop {rs : List (ByteArray × Int)} {m : ByteArray} {k : Nat} (hk : k < rs.length) : boxV (rs.drop k) m = if bg m rs[k].1 = true then rs[k].2 else boxV (rs.drop (k + 1)) m := by
  rw [← List.getElem_cons_drop hk]; rfl
theorem cutU (s : ByteArray) (k : Nat) (h : k ≤ s.size) (W : World) : (Instr.slice 9 (.string s) none (some (.int .i64 (k : Int))) none).run Tryd.prog W = .ok (.string (s.extract 0 k)) W := by
  have h1 : (0 : Int) ≤ (k : Int) := by omega
  have h2 : (k : Int) ≤ (s.size : Int) := by omega
  have h3 := Tryd.underlying9
  go_simp

set_option maxRecDepth 100000 in
set_option maxHeartbeats 1000000 in
theorem drawBoxOf_any (A : Option Addr) (c : Nat) (zs : List Int) (w : World) (hr : Own w 0 w.heap.size A (zs.map (Value.int .u8))) (hx : zs.length ≤ c ∧ c ≤ maxLen ∧ ∀ z ∈ zs, (Lit.int .u8 z).wf = true) :
    Calls Tryd.prog 16 #[.slice A zs.length c] w fun e w' => ∃ (A : Option Addr) (c : Nat) (rs : List (ByteArray × Int)) (s : ByteArray), e = .returned (.tuple #[.slice A rs.length c, .string s]) ∧ s.size ≤ 6 ∧ DrawnU w A c rs w' := by
  have H := Lib.hid hx
  clear hx
  go_enter Tryd.func16, Tryd.ntmps16
  go_wp2_with fail
  refine (newReader_any _ _ _ _ hr H.out).mono ?_
  rintro e w1 ⟨rfl, hrd, hb1⟩
  have hgl := hrd.lt
  have hB1 := Lib.hid hb1
  have hz1 := hb1.size
  clear hb1
  go_wp2_with fail
  refine (someRules_any _ 0 _ hrd (by omega)).mono ?_
  rintro e w2 ⟨A2, c2, rs, rfl, h6, hc, htw, hm, ⟨q, hq, hrd2⟩, hg⟩
  have HTW := Lib.hid htw
  have HM := Lib.hid (And.intro hm hg)
  have hg12 := hg.size
  clear htw hm hg hrd
  go_wp2_with fail
  refine (one_atU _ q w2 hrd2 (by omega) [4, 3, 2, 1, 0, 5] (by decide) (by decide) 6 _ rfl rfl _ rfl).mono ?_
  rintro e w3 ⟨k, rfl, hk, hrd3, hg3⟩
  have hkb : 0 ≤ k ∧ k ≤ 5 := by simp at hk; omega
  obtain ⟨hk0, hk5⟩ := hkb
  obtain ⟨K, rfl⟩ := Int.eq_ofNat_of_zero_le hk0
  have HG3 := Lib.hid hg3
  clear hk hg3 hrd2
  go_wp2
  go_loopw [6, 7] (fun v i wr => ∃ (s : ByteArray) (m : Nat), v = .string s ∧ i = .int .i64 m ∧ s.size + m ≤ 5 ∧ (∃ q2, q2 + m ≤ q + 6 ∧ Rd wr w.heap.size q2) ∧ w2.grownBy wr (some w.heap.size)) (fun _ i _ => (intOf i).toNat)
  case atStart => exact ⟨ByteArray.empty, K, rfl, rfl, by have : ByteArray.empty.size = 0 := rfl; omega, ⟨q + 1, by omega, hrd3⟩, HG3.out⟩
  case round =>
    obtain ⟨s, m, rfl, rfl, hs5, ⟨q3, hq3, hrd4⟩, hg4⟩ := hrel
    clear hrd3
    have HG4 := Lib.hid hg4
    clear hg4
    by_cases hm0 : 0 < m
    · obtain ⟨m', hm'⟩ : ∃ m', m = m' + 1 := ⟨m - 1, by omega⟩
      have hmi : (m : Int) - 1 = (m' : Int) := by omega
      have HI := Lib.hid hm'
      have hs4 : s.size ≤ 5 := by omega
      clear hm'
      go_wp2_with fail
      refine (of_mem _ q3 wr hrd4 (by omega) [⟨#[97]⟩, ⟨#[98]⟩] (by decide) (by decide) 2 _ rfl rfl _ rfl).mono ?_
      rintro e w5 ⟨x, rfl, hx, hrd5, hg5⟩
      have hx1 : x.size = 1 := by simp at hx; rcases hx with rfl | rfl <;> rfl
      have HX := Lib.hid hx1
      have hx2 : x.size ≤ 1 := by omega
      have HG5 := Lib.hid (grown_trans HG4.out hg5)
      have HRD := Lib.hid hrd5
      clear hx hx1 hg5 hrd4 hrd5
      go_wp2
      go_roundw
      case rel =>
        refine ⟨_, m', rfl, rfl, ?_, ⟨q3 + 1, by have := HI.out; omega, HRD.out⟩, HG5.out⟩
        rw [ByteArray.size_append]; have := HX.out; have := HI.out; omega
      case measure => have := HI.out; simp [intOf]; omega
    · have hd0 : decide (0 < m) = false := decide_eq_false hm0
      have HF := Lib.hid (show DrawnU w A2 c2 rs wr from
        ⟨h6, hc, HTW.out, ((HM.out.1.apart (Nat.le_refl _) HG4.out (fun i hi => by injection hi with hi; omega)).more HG4.out.size).row, hB1.out.grown (grown_trans HM.out.2 HG4.out) hz1 (fun k hk => by injection hk with hk; omega)⟩)
      go_wp2
      go_ret2
      exact ⟨A2, c2, rs, s, rfl, by omega, HF.out⟩

set_option maxRecDepth 100000 in
set_option maxHeartbeats 4000000 in
theorem boxOf_law (A : Option Addr) (c : Nat) (zs : List Int) (w : World) (hr : Own w 0 w.heap.size A (zs.map (Value.int .u8))) (hx : zs.length ≤ c ∧ c ≤ maxLen ∧ ∀ z ∈ zs, (Lit.int .u8 z).wf = true) :
    Calls Tryd.prog 4 #[.slice A zs.length c] w fun e w' => e = .returned (.bool true) ∧ Below w.heap.size w w' := by
  have hl : zs.length ≤ 9223372036854775807 := by have := hx.1; have := hx.2.1; unfold maxLen at this; omega
  obtain ⟨i0, hi0, hz0, hz1, hz2⟩ := info_parts Tryd.infoU
  have HX := Lib.hid hx
  clear hx
  by_cases h20 : zs.length ≤ 1048576
  · go_enter Tryd.func4, Tryd.ntmps4
    go_wp2_with fail
    refine (drawBoxOf_any _ _ _ _ hr HX.out).mono ?_
    rintro e w1 ⟨A1, c1, rs, s, rfl, hs6, h8, hdc, htw, ho, hb1⟩
    have HM := Lib.hid htw.le
    have HSH := Lib.hid htw
    clear htw
    have HLAT := Lib.hid (fun h => boxOf_later (rs := rs) (m := s) h (ByteArray.empty, 9))
    have HNN := Lib.hid (fun h => boxOf_nn (rs := rs) (m := s) h)
    obtain ⟨q, hq⟩ : ∃ q, boxOfV rs s = q := ⟨_, rfl⟩
    have HQ := Lib.hid hq
    rw [hq] at HLAT HNN
    have hqq : (q != q) = false := by simp
    have hqe : (q == q) = true := by simp
    clear hq
    go_wp2_with fail
    refine (impBoxOf_any _ _ _ _ _ ho (by omega) (by omega) HM.out).mono ?_
    rintro e w2 ⟨rfl, hb2⟩
    rw [HQ.out]
    have ho2 := ho.past hb2
    go_wp2_with fail
    refine (specBoxOf_any _ _ _ _ _ ho2 (by omega) (by omega) HM.out).mono ?_
    rintro e w3 ⟨rfl, n3, hw3⟩
    rw [HQ.out]
    have hb3 : Below w2.heap.size w2 w3 := by rw [hw3]; exact below_drewN (Below.refl _ _) n3
    have ho3 := ho2.past hb3
    have hb13 := (hb1.trans (hb2.mono hb1.size)).trans (hb3.mono (Nat.le_trans hb1.size hb2.size))
    clear hw3 ho ho2
    by_cases hneg : q < 0
    · go_wp2_with fail
      refine (specBoxOf_any _ _ _ _ _ ho3 (by omega) (by omega) HM.out).mono ?_
      rintro e w4 ⟨rfl, n4, hw4⟩
      rw [HQ.out]
      have hb4 : Below w3.heap.size w3 w4 := by rw [hw4]; exact below_drewN (Below.refl _ _) n4
      clear hw4
      go_wp2_with fail
      go_ret
      exact ⟨rfl, hb13.trans (hb4.mono hb13.size)⟩
    · have hq0 : 0 ≤ q := by omega
      obtain ⟨hv, hf, hbox, _⟩ := HNN.out hq0
      have HBOX := Lib.hid hbox
      have HB13 := Lib.hid hb13
      have hz13 := hb13.size
      have hown0 : (w3.alloc (.cells #[] 31)).ownsRow w3.heap.size 31 2 (.slice (some ⟨w3.heap.size, 0, none⟩) 0 0) 0 [] := World.ownsRow_lit w3 #[] 0 (Nat.le_refl _) (by simp [maxLen]) rfl
      have hor := ho3.below ((Below.refl _ _).alloc (Nat.le_refl _) (.cells #[] 31))
      have HON := Lib.hid (flatU_ones rs)
      have HO3 := Lib.hid ho3
      clear hneg hb13 hb1 hb2 hb3 hv hf hbox ho3
      go_wp2_with (at_builtin; refine wpList_extend rfl (.tmp 36) (.tmp 37) 23 rfl i0 (.agg #[.string ⟨#[]⟩, .int .i64 0]) 24 Tryd.underlying23 hi0 hz0 hz1 hz2 rfl (by decide) _ _ rfl hown0 _ _ _ _ (flat rs) rfl (by rw [flat_length]; omega) hor HON.out (by omega) (by omega) (by simp) ?_)
      intro A6 c6 w6 hown6 hg6
      have hg56 : w3.grownBy w6 none := g_new (World.grownBy_alloc w3 _ none) hg6 (fun i hi => (hown0.lt _ hi).1)
      have hown6' : w6.ownsRow w3.heap.size 31 2 (.slice A6 (0 + rs.length) c6) (0 + rs.length) (flat rs) := by simpa using hown6
      simp only [Nat.zero_add] at hown6'
      try simp only [Nat.zero_add]
      have HG6 := Lib.hid hg56
      have hz56 := hg56.size
      clear hown0 hor hown6 hg6 hg56
      go_wp2_with (at_builtin; refine wpList_push rfl (.tmp 38) (.tmp 40) 23 rfl i0 (.agg #[.string ⟨#[]⟩, .int .i64 0]) 24 Tryd.underlying23 hi0 hz0 hz1 hz2 rfl (by decide) _ _ rfl hown6' [.string ByteArray.empty, .int .i64 9] rfl rfl (by simp [Value.oneCell']) (by omega) (by omega) hz56 ?_)
      intro A7 c7 w7 hown7 hg7
      have hg57 := g_new HG6.out hg7 (fun i hi => (hown6'.lt _ hi).1)
      have hmo : Own w7 0 w7.heap.size A7 (flat (rs ++ [(ByteArray.empty, 9)])) := by rw [flat_append]; exact (own_rowU hown7).row
      have hb57 := below_g hg57 (Nat.le_refl _)
      have HO7 := Lib.hid ((HO3.out.below hb57).more hb57.size)
      have HB17 := Lib.hid (HB13.out.trans (hb57.mono hz13))
      have hz17 := HB17.out.size
      have hms7 : ∀ r ∈ rs ++ [(ByteArray.empty, (9 : Int))], r.1.size ≤ 1048576 := fun r hr => by
        rcases List.mem_append.1 hr with hr | hr
        · exact HM.out r hr
        · simp at hr; rw [hr]; decide
      have hib := impBoxOf_any A7 c7 (rs ++ [(ByteArray.empty, 9)]) s w7 hmo (by simp; omega) (by omega) hms7
      rw [List.length_append] at hib
      obtain ⟨p, hp⟩ : ∃ p, boxOfV (rs ++ [(ByteArray.empty, 9)]) s = p := ⟨_, rfl⟩
      have hlat := HLAT.out hq0
      rw [hp] at hib hlat
      have HIB := Lib.hid (show Calls Tryd.prog 17 #[.slice A7 (rs.length + 1) c7, .string s] w7 fun e w' => e = .returned (.int .i64 p) ∧ Below w7.heap.size w7 w' from hib)
      clear hown6' hown7 hg7 hg57 hmo hb57 hms7 hib hp
      go_wp2_with fail
      refine HIB.out.mono ?_
      rintro e w8 ⟨rfl, hb8⟩
      have hor8 := (HO7.out.below hb8).more hb8.size
      have HB18 := Lib.hid (HB17.out.trans (hb8.mono hz17))
      have HO8 := Lib.hid hor8
      clear hb8 hor8
      go_wp2
      go_loopw [8, 9, 10] (fun f i _ wr => ∃ k : Nat, k ≤ rs.length ∧ i = .int .i64 ((k : Int) - 1) ∧ f = .int .i64 (boxV (rs.drop k) s) ∧ ∃ n, wr = w8.drewN n) (fun _ i _ _ => (intOf i + 1).toNat)
      case atStart => exact ⟨rs.length, by omega, by go_num, by rw [List.drop_length]; rfl, 0, rfl⟩
      case round =>
        obtain ⟨k, hk, rfl, rfl, n, hn⟩ := hrel
        have HN := Lib.hid hn
        obtain ⟨F, hF⟩ : ∃ F, boxV (rs.drop k) s = F := ⟨_, rfl⟩
        have HF := Lib.hid hF
        rw [hF]
        by_cases hk0 : k = 0
        · subst hk0
          have hFq : F = q := by rw [← hF, List.drop_zero, ← HBOX.out]
          subst hFq
          have HBF := Lib.hid (show Below w.heap.size w wr by rw [hn]; exact below_drewN HB18.out n)
          clear hF hn
          rcases hlat with hp | hp
          · go_wp2
            go_ret
            exact ⟨rfl, HBF.out⟩
          · have hpn : ¬ p < 0 := by omega
            subst hp
            go_wp2
            go_ret
            exact ⟨rfl, HBF.out⟩
        · obtain ⟨j, rfl⟩ : ∃ j, k = j + 1 := ⟨k - 1, by omega⟩
          have hjl : j < rs.length := by omega
          have hor : Own wr 0 w8.heap.size A1 (flat rs) := by rw [hn]; exact HO8.out
          obtain ⟨b, o, rfl, hb, hcc⟩ := hor.open (by rw [flat_length]; omega)
          obtain ⟨hc1, hc2⟩ := routes_at hcc hjl
          have hsz := HSH.out _ (List.getElem_mem hjl)
          have HST := Lib.hid (boxV_drop (m := s) hjl)
          obtain ⟨h, hhe⟩ : ∃ h, rs[j].1 = h := ⟨_, rfl⟩
          obtain ⟨g, hge⟩ : ∃ g, rs[j].2 = g := ⟨_, rfl⟩
          rw [hhe] at hc1 hsz HST
          rw [hge] at hc2 HST
          have hi : ((j + 1 : Nat) : Int) - 1 = (j : Int) := by omega
          have hw4 : IntKind.i64.wrap ((j : Int) - 1) = (j : Int) - 1 := IntWalk.i64_in _ (by omega)
          have hj0 : (0 : Int) ≤ (j : Int) := by omega
          have hjI : (j : Int) < rs.length := by omega
          rw [hi]
          clear hcc hhe hge hn hF hor
          by_cases hle : h.size ≤ s.size
          · have hleI : (h.size : Int) ≤ (s.size : Int) := by omega
            have hcut := cutU s h.size hle
            have HBG := Lib.hid (show bg s h = ((s.extract 0 h.size).toList == h.toList) by simp [bg, hle])
            obtain ⟨B, hB⟩ : ∃ B, ((s.extract 0 h.size).toList == h.toList) = B := ⟨_, rfl⟩
            rw [hB] at HBG
            cases B with
            | true =>
              go_wp2
              go_roundw
              case rel => exact ⟨j, by omega, by go_num, by rw [HST.out, HBG.out]; rfl, n, HN.out⟩
              case measure => simp [intOf]
            | false =>
              go_wp2
              go_roundw
              case rel => exact ⟨j, by omega, by go_num, by rw [HST.out, HBG.out, HF.out]; rfl, n, HN.out⟩
              case measure => simp [intOf]
          · have hgt : (s.size : Int) < (h.size : Int) := by omega
            have HBG := Lib.hid (show bg s h = false by simp [bg, hle])
            clear hle
            go_wp2
            go_roundw
            case rel => exact ⟨j, by omega, by go_num, by rw [HST.out, HBG.out, HF.out]; rfl, n, HN.out⟩
            case measure => simp [intOf]
  · go_enter Tryd.func4, Tryd.ntmps4
    go_wp2
    go_ret
    exact ⟨rfl, Below.refl _ _⟩
end Go.Proofs.YtphfolmhlcmbjaaDoor
