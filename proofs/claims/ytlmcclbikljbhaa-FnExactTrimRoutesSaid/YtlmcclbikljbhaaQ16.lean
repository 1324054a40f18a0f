/- The walk of the law FnRoutesByLength. No condition. -/
import Derived.Test.YtlmcclbikljbhaaQ15
import Derived.Deep.RegionHeld3
namespace Go.Proofs.Ytlmcclbikljbhaa
open Go.RowKit

theorem bg_pre (s h : ByteArray) : bg s h = true ↔ h.toList <+: s.toList := by
  rw [← bg_prefix, Lib.hasPrefix, List.isPrefixOf_iff_prefix, ByteArray.toList_eq, ByteArray.toList_eq]
theorem size_len (s : ByteArray) : s.size = s.toList.length := by rw [ByteArray.toList_eq, Array.length_toList]; rfl
theorem bg_full {t s : ByteArray} (h : t.size = s.size) (hb : bg t s = true) : t.toList = s.toList := by
  rw [bg_pre] at hb
  exact (hb.eq_of_length (by rw [← size_len, ← size_len]; exact h.symm)).symm
theorem toList_inj {t s : ByteArray} (h : t.toList = s.toList) : t = s := by
  rw [ByteArray.toList_eq, ByteArray.toList_eq] at h
  exact ByteArray.ext (Array.toList_inj.1 h)
theorem bg_self (s : ByteArray) : bg s s = true := (bg_pre s s).2 (List.prefix_refl _)
theorem fourB_size {s : ByteArray} (h : fourB s = true) : s.size = 4 := by simp only [fourB, Bool.and_eq_true, decide_eq_true_eq] at h; exact h.2

theorem officeP_more {rs : List (ByteArray × Int)} {s t : ByteArray} (h1 : routesB rs = true) (h2 : routesB (rs ++ [(s, 7)]) = true) (hs : s.size = 4) (hne : t.toList ≠ s.toList) : officeP (rs ++ [(s, 7)]) t = officeP rs t := by
  by_cases h4 : fourB t = true
  · have ht := fourB_size h4
    have hno : bg t s = false := by
      by_cases hb : bg t s = true
      · exact absurd (bg_full (by omega) hb) hne
      · simpa using hb
    have o2 := officeP_off h2 h4
    refine off_unique (routesB_iff.1 h2).2.2 o2 ?_
    rcases officeP_off h1 h4 with ⟨e, a⟩ | ⟨r, hr, hb, hv, hmax⟩
    · refine .inl ⟨e, fun r hr => ?_⟩
      rcases List.mem_append.1 hr with hr | hr
      · exact a r hr
      · simp only [List.mem_singleton] at hr; rw [hr]; exact hno
    · refine .inr ⟨r, by simp [hr], hb, hv, fun r' hr' hb' => ?_⟩
      rcases List.mem_append.1 hr' with hr' | hr'
      · exact hmax r' hr' hb'
      · simp only [List.mem_singleton] at hr'; rw [hr'] at hb'; simp only at hb'; rw [hno] at hb'; cases hb'
  · have h4' : fourB t = false := by simpa using h4
    simp [officeP, h4']
theorem officeP_seven {rs : List (ByteArray × Int)} {s : ByteArray} (h2 : routesB (rs ++ [(s, 7)]) = true) (hs : s.size = 4) : officeP (rs ++ [(s, 7)]) s = 7 := by
  have hok := (routesB_iff.1 h2).2.1
  have hd := (hok (s, 7) (by simp)).2.2.2
  have h4 : fourB s = true := by simp only [fourB, Bool.and_eq_true, decide_eq_true_eq]; exact ⟨hd, hs⟩
  refine off_unique (routesB_iff.1 h2).2.2 (officeP_off h2 h4) (.inr ⟨(s, 7), by simp, bg_self s, rfl, fun r' hr' _ => ?_⟩)
  have := (hok r' hr').1
  simp only; omega
theorem officeP_ge {rs : List (ByteArray × Int)} {s : ByteArray} : -1 ≤ officeP rs s := by
  by_cases hc : (routesB rs && fourB s) = true
  · simp only [Bool.and_eq_true] at hc
    rcases officeP_off hc.1 hc.2 with ⟨e, _⟩ | ⟨r, hr, _, hv, _⟩
    · omega
    · have := ((routesB_iff.1 hc.1).2.1 r hr).2.1; omega
  · unfold officeP; rw [if_neg hc]; omega

set_option maxRecDepth 100000 in
set_option maxHeartbeats 8000000 in
theorem routesByLength_law (A : Option Addr) (c : Nat) (zs : List Int) (w : World) (hr : Own w 0 w.heap.size A (zs.map (Value.int .u8))) (hx : zs.length ≤ c ∧ c ≤ maxLen ∧ ∀ z ∈ zs, (Lit.int .u8 z).wf = true) :
    Calls Try.prog 8 #[.slice A zs.length c] w fun e w' => e = .returned (.bool true) ∧ Below w.heap.size w w' := by
  have hl : zs.length ≤ 9223372036854775807 := by have := hx.1; have := hx.2.1; unfold maxLen at this; omega
  obtain ⟨i0, hi0, hz0, hz1, hz2⟩ := info_parts Try.infoQ
  have HX := Lib.hid hx
  clear hx
  by_cases h20 : zs.length ≤ 1048576
  · go_enter Try.func8, Try.ntmps8
    go_wp2_with fail
    refine (drawOfficeOf_any _ _ _ _ hr HX.out).mono ?_
    rintro e w1 ⟨A1, c1, rs, s, rfl, hs6, h8, hdc, htw, ho, hb1⟩
    have HM := Lib.hid (show ∀ r ∈ rs, r.1.size ≤ 1048576 from fun r h => by have := htw r h; omega)
    have HM9 := Lib.hid (show ∀ r ∈ rs, r.1.size ≤ 9000000000000000000 from fun r h => by have := htw r h; omega)
    clear htw
    obtain ⟨q, hq⟩ : ∃ q, officeP rs s = q := ⟨_, rfl⟩
    have hqm : -1 ≤ q := by rw [← hq]; exact officeP_ge
    have HQ := Lib.hid hq
    have hqq : (q != q) = false := by simp
    clear hq
    go_wp2_with fail
    refine (impOfficeOf_any _ _ _ _ _ ho hdc (by omega) HM.out).mono ?_
    rintro e w2 ⟨rfl, hb2⟩
    rw [HQ.out]
    have ho2 := ho.past hb2
    go_wp2_with fail
    refine (specOfficeOf_any _ _ _ _ _ ho2 (by omega) (by omega) HM.out).mono ?_
    rintro e w3 ⟨rfl, n3, hw3⟩
    rw [HQ.out]
    have hb3 : Below w2.heap.size w2 w3 := by rw [hw3]; exact below_drewN (Below.refl _ _) n3
    have ho3 := ho2.past hb3
    have hb13 := (hb1.trans (hb2.mono hb1.size)).trans (hb3.mono (Nat.le_trans hb1.size hb2.size))
    clear hw3 ho ho2 hb1 hb2 hb3
    go_wp2_with fail
    refine (impOfficeOf_any _ _ _ _ _ ho3 hdc (by omega) HM.out).mono ?_
    rintro e w4 ⟨rfl, hb4⟩
    rw [HQ.out]
    have ho4 := ho3.past hb4
    have hb14 := hb13.trans (hb4.mono hb13.size)
    clear ho3 hb13 hb4 hqq
    go_wp2_with fail
    refine (impValidRoutes_any _ _ _ _ ho4 hdc HM9.out).mono ?_
    rintro e w5 ⟨rfl, hb5⟩
    have ho5 := ho4.past hb5
    have hb15 := hb14.trans (hb5.mono hb14.size)
    clear ho4 hb14 hb5
    by_cases hv : routesB rs = true
    · rw [hv]
      have HV := Lib.hid hv
      clear hv
      by_cases hl8 : rs.length = 8
      · have h1 : ((rs.length : Int) == 8) = true := beq_iff_eq.2 (by omega)
        clear hl8
        go_wp2_with fail
        go_ret
        exact ⟨rfl, hb15⟩
      have h1 : ((rs.length : Int) == 8) = false := beq_eq_false_iff_ne.2 (by omega)
      have hl7 : rs.length ≤ 7 := by omega
      clear hl8
      by_cases hs4 : s.size = 4
      · have h2 : ((s.size : Int) != 4) = false := by simp; omega
        have HS4 := Lib.hid hs4
        have hge4 : 4 ≤ s.size := by omega
        clear hs4
        have hown0 : (w5.alloc (.cells #[] 38)).ownsRow w5.heap.size 38 2 (.slice (some ⟨w5.heap.size, 0, none⟩) 0 0) 0 [] := World.ownsRow_lit w5 #[] 0 (Nat.le_refl _) (by simp [maxLen]) rfl
        have hor := ho5.below ((Below.refl _ _).alloc (Nat.le_refl _) (.cells #[] 38))
        have hones : ∀ u ∈ flat rs, u.oneCell' = true := fun u hu => by
          simp only [flat, List.mem_flatMap, List.mem_cons, List.not_mem_nil, or_false] at hu
          obtain ⟨r, _, rfl | rfl⟩ := hu <;> rfl
        have HON := Lib.hid hones
        clear hones
        go_wp2_with (at_builtin; refine wpList_extend rfl (.tmp 40) (.tmp 41) 31 rfl i0 (.agg #[.string ⟨#[]⟩, .int .i64 0]) 24 Try.underlying31 hi0 hz0 hz1 hz2 rfl (by decide) _ _ rfl hown0 _ _ _ _ (flat rs) rfl (by rw [flat_length]; omega) hor HON.out (by omega) (by omega) (by simp) ?_)
        intro A6 c6 w6 hown6 hg6
        have hg56 : w5.grownBy w6 none := g_new (World.grownBy_alloc w5 _ none) hg6 (fun i hi => (hown0.lt _ hi).1)
        have hown6' : w6.ownsRow w5.heap.size 38 2 (.slice A6 (0 + rs.length) c6) (0 + rs.length) (flat rs) := by simpa using hown6
        simp only [Nat.zero_add] at hown6'
        try simp only [Nat.zero_add]
        have HG6 := Lib.hid hg56
        have hz56 := hg56.size
        clear hown0 hor hown6 hg6 hg56
        go_wp2_with (at_builtin; refine wpList_push rfl (.tmp 42) (.tmp 45) 31 rfl i0 (.agg #[.string ⟨#[]⟩, .int .i64 0]) 24 Try.underlying31 hi0 hz0 hz1 hz2 rfl (by decide) _ _ rfl hown6' [.string s, .int .i64 7] rfl rfl (by simp [Value.oneCell']) (by omega) (by omega) hz56 ?_)
        intro A7 c7 w7 hown7 hg7
        have hg57 := g_new HG6.out hg7 (fun i hi => (hown6'.lt _ hi).1)
        have hmo : Own w7 0 w7.heap.size A7 (flat (rs ++ [(s, 7)])) := by rw [flat_append]; exact (own_rowS hown7).row
        have hcap7 := own_cap hown7
        have hb57 := below_g hg57 (Nat.le_refl _)
        have ho7 := ho5.past hb57
        have hb17 := hb15.trans (hb57.mono hb15.size)
        obtain ⟨ms, hms⟩ : ∃ ms, rs ++ [(s, (7 : Int))] = ms := ⟨_, rfl⟩
        have hml : ms.length = rs.length + 1 := by rw [← hms]; simp
        rw [hms] at hmo
        have HMM := Lib.hid (show ∀ r ∈ ms, r.1.size ≤ 1048576 from fun r hr => by
          rw [← hms] at hr
          rcases List.mem_append.1 hr with hr | hr
          · exact HM.out r hr
          · simp only [List.mem_singleton] at hr; rw [hr]; simp only; omega)
        have HMM9 := Lib.hid (show ∀ r ∈ ms, r.1.size ≤ 9000000000000000000 from fun r hr => Nat.le_trans (HMM.out r hr) (by omega))
        have HMS := Lib.hid hms
        have HML := Lib.hid hml
        have hml8 : ms.length ≤ 8 := by omega
        have hmc : ms.length ≤ c7 := by omega
        have hval := impValidRoutes_any A7 c7 ms w7 hmo hmc HMM9.out
        rw [hml] at hval
        clear hms hml hown6' hown7 hg7 hg57 hb57 ho5 hb15 hcap7 h2 h1
        by_cases hmv : routesB ms = true
        · rw [hmv] at hval
          have HVAL := Lib.hid hval
          have HMV := Lib.hid hmv
          clear hval
          go_wp2_with fail
          refine HVAL.out.mono ?_
          rintro e w8 ⟨rfl, hb8⟩
          have hmo8 := hmo.past hb8
          have ho8 := ho7.past hb8
          have hb18 := hb17.trans (hb8.mono hb17.size)
          have h7 := officeP_seven (rs := rs) (s := s) (by rw [HMS.out]; exact hmv) HS4.out
          rw [HMS.out] at h7
          have hi8 := impOfficeOf_any A7 c7 ms s w8 hmo8 hmc (by omega) HMM.out
          rw [h7, HML.out] at hi8
          have HI8 := Lib.hid hi8
          clear hi8 h7 hmo ho7 hb17 hmv hb8
          go_wp2_with fail
          refine HI8.out.mono ?_
          rintro e w9 ⟨rfl, hb9⟩
          have hmo9 := hmo8.past hb9
          have ho9 := ho8.past hb9
          have hb19 := hb18.trans (hb9.mono hb18.size)
          clear hmo8 ho8 hb18 hb9
          go_wp2_with fail
          refine (allDigits_any w9).mono ?_
          rintro e w10 ⟨AT, cT, ts, rfl, ht256, hfew, hot, hb10⟩
          have HMO := Lib.hid (hmo9.past hb10)
          have HO10 := Lib.hid (ho9.past hb10)
          have HOT := Lib.hid hot
          have hb110 := hb19.trans (hb10.mono hb19.size)
          have HB110 := Lib.hid hb110
          have hz110 := hb110.size
          clear hmo9 ho9 hb19 hot hb10 hfew hb110
          go_wp2
          go_loopw [8] (fun i wr => ∃ k : Nat, k ≤ ts.length ∧ i = .int .i64 k ∧ Below w10.heap.size w10 wr) (fun i _ => ts.length - (intOf i).toNat)
          case atStart => exact ⟨0, by omega, rfl, Below.refl _ _⟩
          case round =>
            obtain ⟨k, hk, rfl, hbr⟩ := hrel
            have HBR := Lib.hid hbr
            have hbz := hbr.size
            obtain ⟨W, hW⟩ : ∃ W : World, W = wr := ⟨_, rfl⟩
            subst hW
            by_cases hlt : k < ts.length
            · obtain ⟨bt, ot, rfl, hbt, hct⟩ := (HOT.out.below hbr).open (by simp; omega)
              have hc := hct k (.string ts[k]) (by simp [List.getElem?_eq_getElem hlt])
              obtain ⟨t, hte⟩ : ∃ t, ts[k] = t := ⟨_, rfl⟩
              rw [hte] at hc
              have hkI : (k : Int) < ts.length := by omega
              have hk0 : (0 : Int) ≤ (k : Int) := by omega
              have hbtW : bt < W.heap.size := by omega
              clear hct hte hbr
              by_cases hne : t.toList = s.toList
              · have hts := toList_inj hne
                have hne' : (s.toList != s.toList) = false := by simp
                have hne2 : (s.toList == s.toList) = true := by simp
                rw [hts] at hc
                clear hne hts
                go_wp2
                go_quiet (fail)
                clear hne' hne2
                go_simp
                go_wp2
                go_roundw
                case rel => exact ⟨k + 1, by omega, by go_num, below_drewN HBR.out nq⟩
                case measure => simp [intOf]; omega
              · have hne' : (t.toList != s.toList) = true := by simpa using hne
                have hne2 : (t.toList == s.toList) = false := by simpa using hne
                obtain ⟨v, hv⟩ : ∃ v, officeP rs t = v := ⟨_, rfl⟩
                have hv2 : officeP ms t = v := by rw [← HMS.out, officeP_more HV.out (by rw [HMS.out]; exact HMV.out) HS4.out hne, hv]
                have hvv : (v != v) = false := by simp
                have HQ1 := Lib.hid (show ∀ X, Below W.heap.size W X → Calls Try.prog 23 #[.slice A7 (rs.length + 1) c7, .string t] X fun e w' => e = .returned (.int .i64 v) ∧ Below X.heap.size X w' from fun X hX => by
                  have := impOfficeOf_any A7 c7 ms t X ((HMO.out.below (HBR.out.trans (hX.mono hbz))).more (Nat.le_trans hbz hX.size)) hmc (by omega) HMM.out
                  rwa [hv2, HML.out] at this)
                have HQ2 := Lib.hid (show ∀ X, Below W.heap.size W X → Calls Try.prog 23 #[.slice A1 rs.length c1, .string t] X fun e w' => e = .returned (.int .i64 v) ∧ Below X.heap.size X w' from fun X hX => by
                  have := impOfficeOf_any A1 c1 rs t X ((HO10.out.below (HBR.out.trans (hX.mono hbz))).more (Nat.le_trans hbz hX.size)) hdc (by omega) HM.out
                  rwa [hv] at this)
                have q4 : Below W.heap.size W W.drew := ⟨rfl, rfl, rfl, Nat.le_refl _, fun _ _ => rfl⟩
                have HC := Lib.hid hc
                clear hne hv hv2 hc
                go_wp2
                go_region_held3 (fun w' => w'.cell? ⟨bt, ot + k, none⟩ = some (.string t))
                  (first | exact cell_stay q6 hbtW HC.out | exact cell_stay q5 hbtW HC.out | exact cell_stay q4 hbtW HC.out)
                  ((first
                    | (go_at_call 23; ((with_reducible refine (HQ1.out _ q5).mono ?_); rintro e wy ⟨rfl, by6⟩); have q6 : Below W.heap.size W wy := q5.trans (by6.mono q5.size))
                    | (go_at_call 23; ((with_reducible refine (HQ2.out _ q5).mono ?_); rintro e wy ⟨rfl, by6⟩); have q6 : Below W.heap.size W wy := q5.trans (by6.mono q5.size))
                    | (go_at_call 23; ((with_reducible refine (HQ1.out _ q4).mono ?_); rintro e wx ⟨rfl, bx5⟩); have q5 : Below W.heap.size W wx := q4.trans (bx5.mono q4.size))
                    | (go_at_call 23; ((with_reducible refine (HQ2.out _ q4).mono ?_); rintro e wx ⟨rfl, bx5⟩); have q5 : Below W.heap.size W wx := q4.trans (bx5.mono q4.size))))
                all_goals
                  have HQ6 := Lib.hid q6
                  clear q4 q5 q6 bx5 by6 hne' hne2
                  go_simp
                  go_wp2
                  go_roundw
                  case rel => exact ⟨k + 1, by omega, by go_num, HBR.out.trans (HQ6.out.mono hbz)⟩
                  case measure => simp [intOf]; omega
            · have hkd : decide (k < ts.length) = false := decide_eq_false hlt
              have HBF := Lib.hid (HB110.out.trans (hbr.mono hz110))
              clear hbr
              go_wp2
              go_ret
              exact ⟨rfl, HBF.out⟩
        · have hmv' : routesB ms = false := by simpa using hmv
          rw [hmv'] at hval
          have HVAL := Lib.hid hval
          have HMF := Lib.hid hmv'
          clear hval hmv hmv'
          go_wp2_with fail
          refine HVAL.out.mono ?_
          rintro e w8 ⟨rfl, hb8⟩
          have hb18 := hb17.trans (hb8.mono hb17.size)
          have hmo8 := hmo.past hb8
          have hval2 := impValidRoutes_any A7 c7 ms w8 hmo8 hmc HMM9.out
          rw [HMF.out, HML.out] at hval2
          have HVAL2 := Lib.hid hval2
          clear hval2
          go_wp2_with fail
          refine HVAL2.out.mono ?_
          rintro e w9 ⟨rfl, hb9⟩
          go_wp2_with fail
          go_ret
          exact ⟨rfl, hb18.trans (hb9.mono hb18.size)⟩
      · have h2 : ((s.size : Int) != 4) = true := by simp; omega
        clear hs4
        go_wp2_with fail
        go_ret
        exact ⟨rfl, hb15⟩
    · have hv' : routesB rs = false := by simpa using hv
      rw [hv']
      clear hv hv'
      go_wp2_with fail
      go_ret
      exact ⟨rfl, hb15⟩
  · go_enter Try.func8, Try.ntmps8
    go_wp2
    go_ret
    exact ⟨rfl, Below.refl _ _⟩
end Go.Proofs.Ytlmcclbikljbhaa
