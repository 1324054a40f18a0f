/- OrderBy: spec. No condition. -/
import Derived.Test.YtaaekpbiaghjfaaO0
import Derived.Test.YtaaekpbiaghjfaaH9
import Derived.Test.YtaaekpbiaghjfaaS9
namespace Go.Proofs.Ytaaekpbiaghjfaa
open Go.RowKit

/-- Does a house come ahead of another one. -/
def earl (a b : Int × Int) (loop : Bool) : Bool := if loop = false then decide (a.1 < b.1) else if a.2 = b.2 then (if a.2 = 0 then decide (a.1 < b.1) else decide (b.1 < a.1)) else decide (a.2 < b.2)

set_option maxRecDepth 100000 in
set_option maxHeartbeats 1000000 in
theorem earlier_any (b1 o1 c1 b2 o2 c2 : Nat) (p s q t : Int) (loop : Bool) (w : World) (h1 : w.cell? ⟨b1, o1, none⟩ = some (.int .i64 p)) (h2 : w.cell? ⟨b1, o1 + 1, none⟩ = some (.int .i64 s)) (h3 : w.cell? ⟨b2, o2, none⟩ = some (.int .i64 q)) (h4 : w.cell? ⟨b2, o2 + 1, none⟩ = some (.int .i64 t)) :
    Calls Try.prog 71 #[.slice (some ⟨b1, o1, none⟩) 2 c1, .slice (some ⟨b2, o2, none⟩) 2 c2, .bool loop] w fun e w' => e = .returned (.bool (earl (p, s) (q, t) loop)) ∧ ∃ n, w' = w.drewN n := by
  cases loop with
  | false =>
    go_enter Try.func71, Try.ntmps71
    go_wp2
    go_quiet (fail)
    go_simp
    go_wp2
    go_ret
    exact ⟨rfl, _, rfl⟩
  | true =>
    by_cases hst : s = t
    · subst hst
      have hss : (s != s) = false := by simp
      by_cases h0 : s = 0
      · have hz : (s == 0) = true := beq_iff_eq.2 h0
        have HD := Lib.hid (show earl (p, s) (q, s) true = decide (p < q) by simp [earl, h0])
        clear h0
        go_enter Try.func71, Try.ntmps71
        go_wp2
        go_quiet (fail)
        go_simp
        go_wp2
        go_quiet (fail)
        go_simp
        go_wp2
        go_ret
        exact ⟨ret_bool HD.out.symm, _, rfl⟩
      · have hz : (s == 0) = false := beq_eq_false_iff_ne.2 h0
        have HD := Lib.hid (show earl (p, s) (q, s) true = decide (q < p) by simp [earl, h0])
        clear h0
        go_enter Try.func71, Try.ntmps71
        go_wp2
        go_quiet (fail)
        go_simp
        go_wp2
        go_quiet (fail)
        go_simp
        go_wp2
        go_ret
        exact ⟨ret_bool HD.out.symm, _, rfl⟩
    · have hss : (s != t) = true := by simpa using hst
      have HD := Lib.hid (show earl (p, s) (q, t) true = decide (s < t) by simp [earl, hst])
      clear hst
      go_enter Try.func71, Try.ntmps71
      go_wp2
      go_quiet (fail)
      go_simp
      go_wp2
      go_quiet (fail)
      go_simp
      go_wp2
      go_ret
      exact ⟨ret_bool HD.out.symm, _, rfl⟩

def ltH (rs : List (List Int)) (loop : Bool) (a b : Int) : Bool := earl (hAt rs a) (hAt rs b) loop

theorem getD_at {l : List Int} {k : Nat} (h : k < l.length) : l[k]? = some (l.getD k 0) := by simp [List.getD, List.getElem?_eq_getElem h]

set_option maxRecDepth 100000 in
set_option maxHeartbeats 8000000 in
theorem ordered_any (A : Option Addr) (c : Nat) (rs : List (List Int)) (loop : Bool) (w : World) (hr : Grid w 0 w.heap.size A rs) (hv : housesB rs = true) :
    Calls Try.prog 60 #[.slice A rs.length c, .bool loop] w fun e w' => ∃ A' c', e = .returned (.slice A' (ordL (ltH rs loop) rs.length).length c') ∧ (ordL (ltH rs loop) rs.length).length ≤ c' ∧ OwnInts w' w.heap.size w'.heap.size A' (ordL (ltH rs loop) rs.length) ∧ Below w.heap.size w w' := by
  obtain ⟨i0, hi0, hz0, hz1, hz2⟩ := info_parts Try.info3
  have hl6 := house_len hv
  have HV := Lib.hid hv
  have hstart : (w.alloc (.cells #[] 3)).ownsRow w.heap.size 3 1 (.slice (some ⟨w.heap.size, 0, none⟩) 0 0) 0 [] := World.ownsRow_lit w #[] 0 (Nat.le_refl _) (by simp [maxLen]) rfl
  have HST := Lib.hid hstart
  have HL0 := Lib.hid (show ([] : List Int) = ordL (ltH rs loop) ([] : List Int).length from rfl)
  clear hv hstart
  go_enter Try.func60, Try.ntmps60
  go_wp2
  go_loopw [5, 6] (fun v i wr => ∃ (h : Nat) (c : Nat) (zs : List Int), v = .slice (some ⟨h, 0, none⟩) zs.length c ∧ i = .int .i64 zs.length ∧ zs.length ≤ rs.length ∧
      wr.ownsRow w.heap.size 3 1 (.slice (some ⟨h, 0, none⟩) zs.length c) zs.length (zs.map (Value.int .i64)) ∧ Hid (zs = ordL (ltH rs loop) zs.length) ∧ w.grownBy wr none)
    (fun _ i _ => rs.length - (intOf i).toNat)
  case atStart => exact ⟨_, _, [], rfl, rfl, by simp, HST.out, HL0, World.grownBy_alloc w _ none⟩
  case round =>
    obtain ⟨h, c, zs, rfl, rfl, hk, hown, HZS, hgr⟩ := hrel
    clear HST HL0
    have hgz := hgr.size
    obtain ⟨W, hW⟩ : ∃ W : World, W = wr := ⟨_, rfl⟩
    subst hW
    by_cases hlt : zs.length < rs.length
    · have hgrid := (hr.below (below_g hgr (Nat.le_refl _))).more hgz
      obtain ⟨p, s, b, o, b', o', c1, he, _, rfl, g, g0, g1, hb, hb'⟩ := hgrid.house HV.out hlt
      have HAT := Lib.hid (hAt_of (z := (zs.length : Int)) rfl hlt he)
      have HGR := Lib.hid hgrid
      have hltI : (zs.length : Int) < rs.length := by omega
      have HG := Lib.hid hgr
      have HOWN := Lib.hid hown
      have hzrow := (own_out hown).row
      have HZR := Lib.hid hzrow
      clear he hgrid hgr hown hzrow
      go_wp2
      go_loopw [7] (fun i wx => ∃ k : Nat, k ≤ zs.length ∧ i = .int .i64 k ∧ Hid (scanK (ltH rs loop zs.length) zs zs.length = scanK (ltH rs loop zs.length) zs k) ∧ ∃ n, wx = W.drewN n) (fun i _ => (intOf i).toNat)
      case atStart => exact ⟨zs.length, Nat.le_refl _, rfl, Lib.hid rfl, 0, rfl⟩
      case round =>
        obtain ⟨k, hkz, rfl, HSC, hwx⟩ := hrel
        have HWX := Lib.hid hwx
        have hbx : Below W.heap.size W wr := by obtain ⟨n, rfl⟩ := hwx; exact below_drewN (Below.refl _ _) n
        have gx := (hbx.cell (p := ⟨b, o + zs.length, none⟩) (by omega)).trans g
        obtain ⟨X, hX⟩ : ∃ X : World, X = wr := ⟨_, rfl⟩
        subst hX
        by_cases hk0 : k = 0
        · have hd : decide (0 < k) = false := decide_eq_false (by omega)
          have HK := Lib.hid (show k = scanK (ltH rs loop zs.length) zs zs.length by rw [HSC.out, hk0]; rfl)
          clear hk0
          go_wp2
          go_quiet (fail)
          go_simp
          have hcap := own_cap HOWN.out
          have hdn : Below W.heap.size W (X.drewN nq) := below_drewN hbx nq
          have hgw1 : w.grownBy (X.drewN nq) none := g_new HG.out (grown_of_below hdn) (by simp)
          have hown1 : (X.drewN nq).ownsRow w.heap.size 3 1 (.slice (some ⟨h, 0, none⟩) zs.length c) zs.length (zs.map (Value.int .i64)) := HOWN.out.kept (row := none) (grown_of_below hdn) (by simp [Value.ownBlock])
          have ho1 := (own_out hown1).row
          have hsrc1 := ho1.take k
          have hu := slice_upto h zs.length c (k) hkz hcap
          obtain ⟨oo, hfr, ho⟩ := slice_from h zs.length c (k) hkz hcap
          obtain ⟨w1, hw1⟩ : ∃ w1 : World, w1 = X.drewN nq := ⟨_, rfl⟩
          rw [← hw1] at hgw1 hown1 ho1 hsrc1 ⊢
          have hsrc2 : Own w1 0 w1.heap.size (some ⟨h, oo, none⟩) ((zs.map (Value.int .i64)).drop (k)) := by
            by_cases hjj : k < zs.length
            · rw [ho hjj]; have := ho1.drop (k); rwa [Nat.zero_add] at this
            · exact .inl (List.drop_of_length_le (by simp; omega))
          have HO := Lib.hid ho
          have HS1 := Lib.hid hsrc1
          have HS2 := Lib.hid hsrc2
          have HG1 := Lib.hid hgw1
          clear ho hsrc1 hsrc2 hgw1 hown1 ho1 hw1 hdn hbx HWX
          go_wp2
          have hzn : (Value.int .i64 0).cells.size = 1 := rfl
          have hzl : zs.length ≤ 10000 := by omega
          have hones : ∀ u ∈ (zs.map (Value.int .i64)).take (k), u.oneCell' = true := fun u hu => by
            obtain ⟨z, _, rfl⟩ := List.mem_map.1 (List.mem_of_mem_take hu); rfl
          have hones2 : ∀ u ∈ (zs.map (Value.int .i64)).drop (k), u.oneCell' = true := fun u hu => by
            obtain ⟨z, _, rfl⟩ := List.mem_map.1 (List.mem_of_mem_drop hu); rfl
          have HZ1 := Lib.hid hones
          have HZ2 := Lib.hid hones2
          clear hones hones2
          go_region_law (first
          | (refine step_extend (w := w1.drew.alloc (.cells #[] 3)) (by rfl) (.tmp 37) (.tmp 40) 27 (by rfl) i0 (.int .i64 0) 8 Try.underlying27 hi0 hz0 hz1 hz2 rfl (by decide) _ _ (by rfl) (first_lit _ w1.heap.size (Nat.le_refl _)) _ _ _ _ _ (by rfl) (by simp; omega) (HS1.out.grownN (Nat.le_refl _) (g_alloc (g_drew (World.grownBy.refl w1 none)) _)) HZ1.out (by omega) (by omega) (g_alloc (g_drew (World.grownBy.refl w1 none)) _).size ?_; intro A2 c2 w2 hown2 hg2; have hgA : w1.grownBy w2 none := g_new (g_alloc (g_drew (World.grownBy.refl w1 none)) _) hg2 (fun i hi => ((first_lit w1.drew w1.heap.size (Nat.le_refl _)).lt _ hi).1); have hown2' : w2.ownsRow w1.heap.size 3 1 (.slice A2 k c2) k ((zs.map (Value.int .i64)).take k) := (by simpa using hown2))
          | (refine step_extend (w := (w1.drew.alloc (.cells #[] 3)).alloc (.cells #[.int .i64 (zs.length : Int)] 3)) (by rfl) (.tmp 37) (.tmp 40) 27 (by rfl) i0 (.int .i64 0) 8 Try.underlying27 hi0 hz0 hz1 hz2 rfl (by decide) _ _ (by rfl) ((first_lit _ w1.heap.size (Nat.le_refl _)).alloc _) _ _ _ _ _ (by rfl) (by simp; omega) (HS1.out.grownN (Nat.le_refl _) (g_alloc (g_alloc (g_drew (World.grownBy.refl w1 none)) _) _)) HZ1.out (by omega) (by omega) (g_alloc (g_alloc (g_drew (World.grownBy.refl w1 none)) _) _).size ?_; intro A2 c2 w2 hown2 hg2; have hgA : w1.grownBy w2 none := g_new (g_alloc (g_alloc (g_drew (World.grownBy.refl w1 none)) _) _) hg2 (fun i hi => (((first_lit w1.drew w1.heap.size (Nat.le_refl _)).alloc (.cells #[.int .i64 (zs.length : Int)] 3)).lt _ hi).1); have hown2' : w2.ownsRow w1.heap.size 3 1 (.slice A2 k c2) k ((zs.map (Value.int .i64)).take k) := (by simpa using hown2); have hsb : Own w2 0 (w1.heap.size + 2) (some ⟨w1.heap.size + 1, 0, none⟩) [.int .i64 (zs.length : Int)] := src_b w1.drew _ #[.int .i64 (zs.length : Int)] 3 hg2)
          | (refine step_extend (w := (w1.drew.alloc (.cells #[.int .i64 (zs.length : Int)] 3)).alloc (.cells #[] 3)) (by rfl) (.tmp 37) (.tmp 40) 27 (by rfl) i0 (.int .i64 0) 8 Try.underlying27 hi0 hz0 hz1 hz2 rfl (by decide) _ _ (by rfl) (first_lit' _ w1.heap.size (w1.heap.size + 1) (g_alloc (g_drew (World.grownBy.refl w1 none)) _).size (World.size_alloc _ _)) _ _ _ _ _ (by rfl) (by simp; omega) (HS1.out.grownN (Nat.le_refl _) (g_alloc (g_alloc (g_drew (World.grownBy.refl w1 none)) _) _)) HZ1.out (by omega) (by omega) (g_alloc (g_alloc (g_drew (World.grownBy.refl w1 none)) _) _).size ?_; intro A2 c2 w2 hown2 hg2; have hgA : w1.grownBy w2 none := g_new (g_alloc (g_alloc (g_drew (World.grownBy.refl w1 none)) _) _) hg2 (fun i hi => ((first_lit' (w1.drew.alloc (.cells #[.int .i64 (zs.length : Int)] 3)) w1.heap.size (w1.heap.size + 1) (g_alloc (g_drew (World.grownBy.refl w1 none)) _).size (World.size_alloc _ _)).lt _ hi).1); have hown2' : w2.ownsRow w1.heap.size 3 1 (.slice A2 k c2) k ((zs.map (Value.int .i64)).take k) := (by simpa using hown2); have hsb : Own w2 0 (w1.heap.size + 1) (some ⟨w1.heap.size, 0, none⟩) [.int .i64 (zs.length : Int)] := src_c w1.drew _ #[.int .i64 (zs.length : Int)] 3 hg2)
          | (refine step_extend (w := w2) (by rfl) (.tmp 41) (.tmp 43) 27 (by rfl) i0 (.int .i64 0) 8 Try.underlying27 hi0 hz0 hz1 hz2 rfl (by decide) _ _ (by rfl) hown2' _ _ _ _ [.int .i64 (zs.length : Int)] (by rfl) (by simp) hsb (by simp [Value.oneCell']) (by omega) (by omega) hgA.size ?_; intro A3 c3 w3 hown3 hg3; have hgB : w1.grownBy w3 none := g_new hgA hg3 (fun i hi => (hown2'.lt _ hi).1))
          | (refine step_extend (w := w2.alloc (.cells #[.int .i64 (zs.length : Int)] 3)) (by rfl) (.tmp 41) (.tmp 43) 27 (by rfl) i0 (.int .i64 0) 8 Try.underlying27 hi0 hz0 hz1 hz2 rfl (by decide) _ _ (by rfl) (hown2'.alloc _) _ _ _ _ [.int .i64 (zs.length : Int)] (by rfl) (by simp) (own_new w2 #[.int .i64 (zs.length : Int)] 3) (by simp [Value.oneCell']) (by omega) (by omega) (g_alloc hgA _).size ?_; intro A3 c3 w3 hown3 hg3; have hgB : w1.grownBy w3 none := g_new (g_alloc hgA _) hg3 (fun i hi => (hown2'.lt _ hi).1))
          | (refine step_extend (by rfl) (.tmp 44) (.tmp 47) 27 (by rfl) i0 (.int .i64 0) 8 Try.underlying27 hi0 hz0 hz1 hz2 rfl (by decide) _ _ (by rfl) hown3 _ _ _ _ _ (by rfl) (by simp) (HS2.out.grownN (Nat.le_refl _) hgB) HZ2.out (by omega) (by omega) hgB.size ?_; intro A4 c4 w4 hown4 hg4; have hgC : w1.grownBy w4 none := g_new hgB hg4 (fun i hi => (hown3.lt _ hi).1)))
          all_goals
            have hel : k + 1 + (zs.length - k) = zs.length + 1 := by omega
            simp only [hel] at hown4 ⊢
            clear hel
            obtain ⟨h4, rfl⟩ := own_some' hown4 (by omega)
            have hgD := g_new HG1.out (show w1.grownBy w4 none from hgC) (fun i hi => by cases hi)
            have HZD := Lib.hid (And.intro hown4 hgD)
            clear hown4 hgD hgC hg4 hown3 hg3 hgB hg2 hown2 hown2' hgA
            try clear hsb
            go_wp2
            go_roundw
            case rel =>
              have hl' : (zs.take k ++ [(zs.length : Int)] ++ zs.drop k).length = zs.length + 1 := by simp; omega
              refine ⟨h4, c4, zs.take k ++ [(zs.length : Int)] ++ zs.drop k, by rw [hl'], by rw [hl']; go_num, by rw [hl']; omega, ?_, ?_, HZD.out.2⟩
              · rw [hl']
                have hq := own_base HZD.out.1 (base' := w.heap.size) HG1.out.size
                simpa [List.map_append, List.map_take, List.map_drop] using hq
              · rw [hl']
                refine Lib.hid ?_
                rw [ordL, ← HZS.out, ← HK.out]
                rfl
            case measure => simp [intOf]; omega
        · obtain ⟨m, hm⟩ : ∃ m, k = m + 1 := ⟨k - 1, by omega⟩
          obtain ⟨j, hj, hjl⟩ : ∃ j : Nat, zs.getD m 0 = (j : Int) ∧ j < zs.length := by
            have := ordL_get (lt := ltH rs loop) (n := zs.length) (k := m) (by omega)
            rwa [← HZS.out] at this
          have hcz := HZR.out.below hbx
          obtain ⟨bz, oz, e, hbz, hcz⟩ := hcz.open (by rw [List.length_map]; omega)
          simp only [Option.some.injEq, Addr.mk.injEq, and_true] at e
          obtain ⟨rfl, rfl⟩ := e
          have hzc := hcz m (.int .i64 j) (by rw [List.getElem?_map, getD_at (by omega), hj]; rfl)
          rw [Nat.zero_add] at hzc
          obtain ⟨q, t, b2, o2, b2', o2', c2, he2, _, e2, k1, k2, k3, hb2, hb2'⟩ := (HGR.out.below hbx).house HV.out (show j < rs.length by omega)
          simp only [Option.some.injEq, Addr.mk.injEq, and_true] at e2
          obtain ⟨rfl, rfl⟩ := e2
          have HAT2 := Lib.hid (hAt_of (z := (j : Int)) rfl (show j < rs.length by omega) he2)
          have x0 := (hbx.cell (p := ⟨b', o', none⟩) (by omega)).trans g0
          have x1 := (hbx.cell (p := ⟨b', o' + 1, none⟩) (by omega)).trans g1
          have hq := fun n => earlier_any b' o' c1 b2' o2' c2 p s q t loop (X.drewN n) x0 x1 k2 k3
          have HE := Lib.hid (show ltH rs loop zs.length (zs.getD m 0) = earl (p, s) (q, t) loop by rw [hj]; simp only [ltH, HAT.out, HAT2.out])
          obtain ⟨r, hre⟩ : ∃ r, earl (p, s) (q, t) loop = r := ⟨_, rfl⟩
          rw [hre] at hq
          have HRE := Lib.hid hre
          have HQ := Lib.hid hq
          have hm1 : (k : Int) - 1 = (m : Int) := by omega
          have hmw : IntKind.i64.wrap ((k : Int) - 1) = (m : Int) := by rw [hm1]; exact IntWalk.i64_in _ (by omega)
          have hd : decide (0 < k) = true := decide_eq_true (by omega)
          have hmz : (m : Int) < zs.length := by omega
          have hjr : (j : Int) < rs.length := by omega
          have HM := Lib.hid hm
          have hkpos : 0 < k := by omega
          clear hq hre he2 hcz hj hk0 hm
          go_wp2
          have HX := Lib.hid (And.intro HM.out (And.intro HE.out HRE.out))
          cases r with
          | true =>
            go_quiet ((go_at_call 71; exact Calls.quiet_of (HQ.out _)))
            go_simp
            have hkm : (k : Int) - 1 = (m : Int) := hm1
            clear hmw hd hm1
            go_wp2
            go_roundw
            case rel => exact ⟨m, by have := HM.out; omega, rfl, Lib.hid (by rw [HSC.out, HM.out]; exact scanK_yes (by rw [HE.out, HRE.out])), by obtain ⟨n, hn⟩ := HWX.out; rw [hn]; exact ⟨_, World.drewN_drewN ..⟩⟩
            case measure => simp [intOf]; have := HM.out; omega
          | false =>
            go_quiet ((go_at_call 71; exact Calls.quiet_of (HQ.out _)))
            go_simp
            have HK := Lib.hid (show k = scanK (ltH rs loop zs.length) zs zs.length by
              rw [HSC.out, HM.out]; exact (scanK_no (by rw [HE.out, HRE.out])).symm)
            clear hm1 hmw
            have hcap := own_cap HOWN.out
            have hdn : Below W.heap.size W (X.drewN nq) := below_drewN hbx nq
            have hgw1 : w.grownBy (X.drewN nq) none := g_new HG.out (grown_of_below hdn) (by simp)
            have hown1 : (X.drewN nq).ownsRow w.heap.size 3 1 (.slice (some ⟨h, 0, none⟩) zs.length c) zs.length (zs.map (Value.int .i64)) := HOWN.out.kept (row := none) (grown_of_below hdn) (by simp [Value.ownBlock])
            have ho1 := (own_out hown1).row
            have hsrc1 := ho1.take k
            have hu := slice_upto h zs.length c (k) hkz hcap
            obtain ⟨oo, hfr, ho⟩ := slice_from h zs.length c (k) hkz hcap
            obtain ⟨w1, hw1⟩ : ∃ w1 : World, w1 = X.drewN nq := ⟨_, rfl⟩
            rw [← hw1] at hgw1 hown1 ho1 hsrc1 ⊢
            have hsrc2 : Own w1 0 w1.heap.size (some ⟨h, oo, none⟩) ((zs.map (Value.int .i64)).drop (k)) := by
              by_cases hjj : k < zs.length
              · rw [ho hjj]; have := ho1.drop (k); rwa [Nat.zero_add] at this
              · exact .inl (List.drop_of_length_le (by simp; omega))
            have HO := Lib.hid ho
            have HS1 := Lib.hid hsrc1
            have HS2 := Lib.hid hsrc2
            have HG1 := Lib.hid hgw1
            clear ho hsrc1 hsrc2 hgw1 hown1 ho1 hw1 hdn hbx HWX
            go_wp2
            have hzn : (Value.int .i64 0).cells.size = 1 := rfl
            have hzl : zs.length ≤ 10000 := by omega
            have hones : ∀ u ∈ (zs.map (Value.int .i64)).take (k), u.oneCell' = true := fun u hu => by
              obtain ⟨z, _, rfl⟩ := List.mem_map.1 (List.mem_of_mem_take hu); rfl
            have hones2 : ∀ u ∈ (zs.map (Value.int .i64)).drop (k), u.oneCell' = true := fun u hu => by
              obtain ⟨z, _, rfl⟩ := List.mem_map.1 (List.mem_of_mem_drop hu); rfl
            have HZ1 := Lib.hid hones
            have HZ2 := Lib.hid hones2
            clear hones hones2
            go_region_law (first
            | (refine step_extend (w := w1.drew.alloc (.cells #[] 3)) (by rfl) (.tmp 37) (.tmp 40) 27 (by rfl) i0 (.int .i64 0) 8 Try.underlying27 hi0 hz0 hz1 hz2 rfl (by decide) _ _ (by rfl) (first_lit _ w1.heap.size (Nat.le_refl _)) _ _ _ _ _ (by rfl) (by simp; omega) (HS1.out.grownN (Nat.le_refl _) (g_alloc (g_drew (World.grownBy.refl w1 none)) _)) HZ1.out (by omega) (by omega) (g_alloc (g_drew (World.grownBy.refl w1 none)) _).size ?_; intro A2 c2 w2 hown2 hg2; have hgA : w1.grownBy w2 none := g_new (g_alloc (g_drew (World.grownBy.refl w1 none)) _) hg2 (fun i hi => ((first_lit w1.drew w1.heap.size (Nat.le_refl _)).lt _ hi).1); have hown2' : w2.ownsRow w1.heap.size 3 1 (.slice A2 k c2) k ((zs.map (Value.int .i64)).take k) := (by simpa using hown2))
            | (refine step_extend (w := (w1.drew.alloc (.cells #[] 3)).alloc (.cells #[.int .i64 (zs.length : Int)] 3)) (by rfl) (.tmp 37) (.tmp 40) 27 (by rfl) i0 (.int .i64 0) 8 Try.underlying27 hi0 hz0 hz1 hz2 rfl (by decide) _ _ (by rfl) ((first_lit _ w1.heap.size (Nat.le_refl _)).alloc _) _ _ _ _ _ (by rfl) (by simp; omega) (HS1.out.grownN (Nat.le_refl _) (g_alloc (g_alloc (g_drew (World.grownBy.refl w1 none)) _) _)) HZ1.out (by omega) (by omega) (g_alloc (g_alloc (g_drew (World.grownBy.refl w1 none)) _) _).size ?_; intro A2 c2 w2 hown2 hg2; have hgA : w1.grownBy w2 none := g_new (g_alloc (g_alloc (g_drew (World.grownBy.refl w1 none)) _) _) hg2 (fun i hi => (((first_lit w1.drew w1.heap.size (Nat.le_refl _)).alloc (.cells #[.int .i64 (zs.length : Int)] 3)).lt _ hi).1); have hown2' : w2.ownsRow w1.heap.size 3 1 (.slice A2 k c2) k ((zs.map (Value.int .i64)).take k) := (by simpa using hown2); have hsb : Own w2 0 (w1.heap.size + 2) (some ⟨w1.heap.size + 1, 0, none⟩) [.int .i64 (zs.length : Int)] := src_b w1.drew _ #[.int .i64 (zs.length : Int)] 3 hg2)
            | (refine step_extend (w := (w1.drew.alloc (.cells #[.int .i64 (zs.length : Int)] 3)).alloc (.cells #[] 3)) (by rfl) (.tmp 37) (.tmp 40) 27 (by rfl) i0 (.int .i64 0) 8 Try.underlying27 hi0 hz0 hz1 hz2 rfl (by decide) _ _ (by rfl) (first_lit' _ w1.heap.size (w1.heap.size + 1) (g_alloc (g_drew (World.grownBy.refl w1 none)) _).size (World.size_alloc _ _)) _ _ _ _ _ (by rfl) (by simp; omega) (HS1.out.grownN (Nat.le_refl _) (g_alloc (g_alloc (g_drew (World.grownBy.refl w1 none)) _) _)) HZ1.out (by omega) (by omega) (g_alloc (g_alloc (g_drew (World.grownBy.refl w1 none)) _) _).size ?_; intro A2 c2 w2 hown2 hg2; have hgA : w1.grownBy w2 none := g_new (g_alloc (g_alloc (g_drew (World.grownBy.refl w1 none)) _) _) hg2 (fun i hi => ((first_lit' (w1.drew.alloc (.cells #[.int .i64 (zs.length : Int)] 3)) w1.heap.size (w1.heap.size + 1) (g_alloc (g_drew (World.grownBy.refl w1 none)) _).size (World.size_alloc _ _)).lt _ hi).1); have hown2' : w2.ownsRow w1.heap.size 3 1 (.slice A2 k c2) k ((zs.map (Value.int .i64)).take k) := (by simpa using hown2); have hsb : Own w2 0 (w1.heap.size + 1) (some ⟨w1.heap.size, 0, none⟩) [.int .i64 (zs.length : Int)] := src_c w1.drew _ #[.int .i64 (zs.length : Int)] 3 hg2)
            | (refine step_extend (w := w2) (by rfl) (.tmp 41) (.tmp 43) 27 (by rfl) i0 (.int .i64 0) 8 Try.underlying27 hi0 hz0 hz1 hz2 rfl (by decide) _ _ (by rfl) hown2' _ _ _ _ [.int .i64 (zs.length : Int)] (by rfl) (by simp) hsb (by simp [Value.oneCell']) (by omega) (by omega) hgA.size ?_; intro A3 c3 w3 hown3 hg3; have hgB : w1.grownBy w3 none := g_new hgA hg3 (fun i hi => (hown2'.lt _ hi).1))
            | (refine step_extend (w := w2.alloc (.cells #[.int .i64 (zs.length : Int)] 3)) (by rfl) (.tmp 41) (.tmp 43) 27 (by rfl) i0 (.int .i64 0) 8 Try.underlying27 hi0 hz0 hz1 hz2 rfl (by decide) _ _ (by rfl) (hown2'.alloc _) _ _ _ _ [.int .i64 (zs.length : Int)] (by rfl) (by simp) (own_new w2 #[.int .i64 (zs.length : Int)] 3) (by simp [Value.oneCell']) (by omega) (by omega) (g_alloc hgA _).size ?_; intro A3 c3 w3 hown3 hg3; have hgB : w1.grownBy w3 none := g_new (g_alloc hgA _) hg3 (fun i hi => (hown2'.lt _ hi).1))
            | (refine step_extend (by rfl) (.tmp 44) (.tmp 47) 27 (by rfl) i0 (.int .i64 0) 8 Try.underlying27 hi0 hz0 hz1 hz2 rfl (by decide) _ _ (by rfl) hown3 _ _ _ _ _ (by rfl) (by simp) (HS2.out.grownN (Nat.le_refl _) hgB) HZ2.out (by omega) (by omega) hgB.size ?_; intro A4 c4 w4 hown4 hg4; have hgC : w1.grownBy w4 none := g_new hgB hg4 (fun i hi => (hown3.lt _ hi).1)))
            all_goals
              have hel : k + 1 + (zs.length - k) = zs.length + 1 := by omega
              simp only [hel] at hown4 ⊢
              clear hel
              obtain ⟨h4, rfl⟩ := own_some' hown4 (by omega)
              have hgD := g_new HG1.out (show w1.grownBy w4 none from hgC) (fun i hi => by cases hi)
              have HZD := Lib.hid (And.intro hown4 hgD)
              clear hown4 hgD hgC hg4 hown3 hg3 hgB hg2 hown2 hown2' hgA
              try clear hsb
              go_wp2
              go_roundw
              case rel =>
                have hl' : (zs.take k ++ [(zs.length : Int)] ++ zs.drop k).length = zs.length + 1 := by simp; omega
                refine ⟨h4, c4, zs.take k ++ [(zs.length : Int)] ++ zs.drop k, by rw [hl'], by rw [hl']; go_num, by rw [hl']; omega, ?_, ?_, HZD.out.2⟩
                · rw [hl']
                  have hq := own_base HZD.out.1 (base' := w.heap.size) HG1.out.size
                  simpa [List.map_append, List.map_take, List.map_drop] using hq
                · rw [hl']
                  refine Lib.hid ?_
                  rw [ordL, ← HZS.out, ← HK.out]
                  rfl
              case measure => simp [intOf]; omega
    · have hn : zs.length = rs.length := by omega
      have HF := Lib.hid (And.intro (own_cap hown) (And.intro (own_out hown) (below_g hgr (Nat.le_refl _))))
      have HZ2 := Lib.hid (show ordL (ltH rs loop) rs.length = zs by rw [← hn]; exact HZS.out.symm)
      clear hown hgr HZS
      go_wp2
      go_ret
      rw [HZ2.out]
      exact ⟨_, c, rfl, HF.out.1, HF.out.2.1, HF.out.2.2⟩
end Go.Proofs.Ytaaekpbiaghjfaa
