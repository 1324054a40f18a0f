/- Coaches: spec.unknown, spec.byTime. No condition. -/
import Derived.Test.YtimbkclhkepgfaaK1
import Derived.Test.YtimbkclhkepgfaaKs
import Derived.Test.YtimbkclhkepgfaaS9
import Derived.Test.YtimbkclhkepgfaaN9i
namespace Go.Proofs.Ytimbkclhkepgfaa
open Go.RowKit

theorem Grid.coach {w : World} {B : Nat} {A : Option Addr} {rs : List (List Int)} (h : Grid w 0 B A rs) (hv : coachesB rs = true) {k : Nat} (hk : k < rs.length) :
    ∃ (p l q d b o b' o' c1 : Nat), rs[k] = [(p : Int), (l : Int), (q : Int), (d : Int)] ∧ (p ≤ 4 ∧ l ≤ 60 ∧ q ≤ 4 ∧ l < d ∧ d ≤ 60) ∧ A = some ⟨b, o, none⟩ ∧ w.cell? ⟨b, o + k, none⟩ = some (.slice (some ⟨b', o', none⟩) 4 c1) ∧ w.cell? ⟨b', o', none⟩ = some (.int .i64 p) ∧ w.cell? ⟨b', o' + 1, none⟩ = some (.int .i64 l) ∧ w.cell? ⟨b', o' + 2, none⟩ = some (.int .i64 q) ∧ w.cell? ⟨b', o' + 3, none⟩ = some (.int .i64 d) ∧ b < B ∧ b' < B := by
  obtain ⟨p, l, q, d, he, h1, h2, h3, h4, h5, h6, h7, h8⟩ := coach_row hv hk
  obtain ⟨p, rfl⟩ := Int.eq_ofNat_of_zero_le h1
  obtain ⟨l, rfl⟩ := Int.eq_ofNat_of_zero_le h3
  obtain ⟨q, rfl⟩ := Int.eq_ofNat_of_zero_le h5
  obtain ⟨d, rfl⟩ := Int.eq_ofNat_of_zero_le (show 0 ≤ d by omega)
  obtain ⟨b, o, R, c1, hA, hlt, hcell, _, ho⟩ := h.open hk
  rw [he] at hcell ho
  obtain ⟨b', o', rfl, hb', hc'⟩ := ho.open (by simp)
  have q0 := ints_at hc' (show 0 < [(p : Int), (l : Int), (q : Int), (d : Int)].length by simp)
  have q1 := ints_at hc' (show 1 < [(p : Int), (l : Int), (q : Int), (d : Int)].length by simp)
  have q2 := ints_at hc' (show 2 < [(p : Int), (l : Int), (q : Int), (d : Int)].length by simp)
  have q3 := ints_at hc' (show 3 < [(p : Int), (l : Int), (q : Int), (d : Int)].length by simp)
  simp only [List.getElem_cons_zero, List.getElem_cons_succ, Nat.add_zero] at q0 q1 q2 q3
  exact ⟨p, l, q, d, b, o, b', o', c1, he, ⟨by omega, by omega, by omega, by omega, by omega⟩, hA, hcell, q0, q1, q2, q3, hlt, hb'⟩
theorem cAt_row {rs : List (List Int)} {k : Nat} (hk : k < rs.length) {p l q d : Int} (he : rs[k] = [p, l, q, d]) : cAt (rs.map cp) (k : Int) = ⟨p, l, q, d⟩ := by
  rw [cAt_of (by simpa using hk), List.getElem_map, he]; rfl
theorem getDC_at {l : List Int} {k : Nat} (h : k < l.length) : l[k]? = some (l.getD k 0) := by simp [List.getD, List.getElem?_eq_getElem h]

set_option maxRecDepth 100000 in
set_option maxHeartbeats 1000000 in
theorem unknown_any (n : Nat) (x : Int) (w : World) (hn : n ≤ 1000) :
    Calls Try.prog 30 #[.int .i64 n, .int .i64 x] w (iRes w (List.replicate n x)) := by
  obtain ⟨i0, hi0, hz0, hz1, hz2⟩ := info_parts Try.info3
  have hstart : (w.alloc (.cells #[] 3)).ownsRow w.heap.size 3 1 (.slice (some ⟨w.heap.size, 0, none⟩) 0 0) 0 [] := World.ownsRow_lit w #[] 0 (Nat.le_refl _) (by simp [maxLen]) rfl
  have HST := Lib.hid hstart
  clear hstart
  go_enter Try.func30, Try.ntmps30
  go_wp2
  go_loopw [0, 5] (fun i v wr => ∃ (k m : Nat) (H : Option Addr) (c : Nat), k + m = n ∧ i = .int .i64 m ∧ v = .slice H k c ∧ wr.ownsRow w.heap.size 3 1 (.slice H k c) k ((List.replicate k x).map (Value.int .i64)) ∧ Below w.heap.size w wr) (fun i _ _ => (intOf i).toNat)
  case atStart => exact ⟨0, n, _, 0, by omega, rfl, rfl, HST.out, (Below.refl _ _).alloc (Nat.le_refl _) _⟩
  case round =>
    obtain ⟨k, m, H, c, hkm, rfl, rfl, hown, hbr⟩ := hrel
    clear HST
    have hbz := hbr.size
    have HB := Lib.hid hbr
    have HKM := Lib.hid hkm
    have hk1 : k ≤ 1000 := by omega
    have hm1 : m ≤ 1000 := by omega
    clear hkm
    by_cases hlt : 0 < m
    · clear hbr
      go_wp2_with (at_builtin; refine wpList_push rfl (.tmp 11) (.tmp 13) 27 rfl i0 (.int .i64 0) 8 Try.underlying27 hi0 hz0 hz1 hz2 rfl (by decide) _ _ rfl hown [.int .i64 x] rfl rfl (by simp [Value.oneCell']) (by omega) (by omega) hbz ?_)
      intro A2 c2 w2 hown2 hg2
      have HW := Lib.hid (And.intro hown2 (HB.out.grown hg2 hbz (fun i hi => (hown.lt _ hi).1)))
      clear hown hown2 hg2
      go_wp2
      go_roundw
      case rel =>
        refine ⟨k + 1, m - 1, A2, c2, by have := HKM.out; omega, by go_num, rfl, ?_, HW.out.2⟩
        have h1 := HW.out.1
        rw [show List.replicate (k + 1) x = List.replicate k x ++ [x] from List.replicate_succ', List.map_append]
        simpa using h1
      case measure => simp [intOf]; omega
    · have hm0 : m = 0 := by omega
      subst hm0
      have hk' : n = k := by have := HKM.out; omega
      subst hk'
      have HF := Lib.hid (iRes_row hown (by simp) hbr)
      clear hown hbr
      go_wp2
      go_ret
      exact HF.out

set_option maxRecDepth 100000 in
set_option maxHeartbeats 8000000 in
theorem byTime_any (A : Option Addr) (c : Nat) (rs : List (List Int)) (w : World) (hr : Grid w 0 w.heap.size A rs) (hv : coachesB rs = true) :
    Calls Try.prog 31 #[.slice A rs.length c] w (iRes w (ordL (ltC (rs.map cp)) rs.length)) := by
  obtain ⟨i0, hi0, hz0, hz1, hz2⟩ := info_parts Try.info3
  have hl10 := coaches_len hv
  have HV := Lib.hid hv
  have hstart : (w.alloc (.cells #[] 3)).ownsRow w.heap.size 3 1 (.slice (some ⟨w.heap.size, 0, none⟩) 0 0) 0 [] := World.ownsRow_lit w #[] 0 (Nat.le_refl _) (by simp [maxLen]) rfl
  have HST := Lib.hid hstart
  have HL0 := Lib.hid (show ([] : List Int) = ordL (ltC (rs.map cp)) ([] : List Int).length from rfl)
  clear hv hstart
  go_enter Try.func31, Try.ntmps31
  go_wp2
  go_loopw [3, 4] (fun v i wr => ∃ (h : Nat) (c : Nat) (zs : List Int), v = .slice (some ⟨h, 0, none⟩) zs.length c ∧ i = .int .i64 zs.length ∧ zs.length ≤ rs.length ∧
      wr.ownsRow w.heap.size 3 1 (.slice (some ⟨h, 0, none⟩) zs.length c) zs.length (zs.map (Value.int .i64)) ∧ Hid (zs = ordL (ltC (rs.map cp)) zs.length) ∧ w.grownBy wr none)
    (fun _ i _ => rs.length - (intOf i).toNat)
  case atStart => exact ⟨_, _, [], rfl, rfl, by simp, HST.out, HL0, World.grownBy_alloc w _ none⟩
  case round =>
    obtain ⟨h, c, zs, rfl, rfl, hk, hown, HZS, hgr⟩ := hrel
    clear HST HL0
    have hgz := hgr.size
    obtain ⟨W, hW⟩ : ∃ W : World, W = wr := ⟨_, rfl⟩
    subst hW
    by_cases hlt : zs.length < rs.length
    · have hgrid := (hr.below (below_g hgr (Nat.le_refl _))).more hgz
      obtain ⟨p, l, q, d, b, o, b', o', c1, he, _, rfl, g, _, g1, _, _, hb, hb'⟩ := hgrid.coach HV.out hlt
      have HAT := Lib.hid (cAt_row hlt he)
      have HGR := Lib.hid hgrid
      have hltI : (zs.length : Int) < rs.length := by omega
      have HG := Lib.hid hgr
      have HOWN := Lib.hid hown
      have hzrow := (own_out hown).row
      have HZR := Lib.hid hzrow
      clear he hgrid hgr hown hzrow
      go_wp2
      go_loopw [5] (fun i wx => ∃ k : Nat, k ≤ zs.length ∧ i = .int .i64 k ∧ Hid (scanK (ltC (rs.map cp) zs.length) zs zs.length = scanK (ltC (rs.map cp) zs.length) zs k) ∧ ∃ n, wx = W.drewN n) (fun i _ => (intOf i).toNat)
      case atStart => exact ⟨zs.length, Nat.le_refl _, rfl, Lib.hid rfl, 0, rfl⟩
      case round =>
        obtain ⟨k, hkz, rfl, HSC, hwx⟩ := hrel
        have HWX := Lib.hid hwx
        have hbx : Below W.heap.size W wr := by obtain ⟨n, rfl⟩ := hwx; exact below_drewN (Below.refl _ _) n
        have gx := (hbx.cell (p := ⟨b, o + zs.length, none⟩) (by omega)).trans g
        obtain ⟨X, hX⟩ : ∃ X : World, X = wr := ⟨_, rfl⟩
        subst hX
        by_cases hk0 : k = 0
        · have hd : decide (0 < k) = false := decide_eq_false (by omega)
          have HK := Lib.hid (show k = scanK (ltC (rs.map cp) zs.length) zs zs.length by rw [HSC.out, hk0]; rfl)
          clear hk0
          go_wp2
          go_quiet (fail)
          go_simp
          have hcap := own_cap HOWN.out
          have hdn : Below W.heap.size W (X.drewN nq) := below_drewN hbx nq
          have hgw1 : w.grownBy (X.drewN nq) none := g_new HG.out (grown_of_below hdn) (by simp)
          have hown1 : (X.drewN nq).ownsRow w.heap.size 3 1 (.slice (some ⟨h, 0, none⟩) zs.length c) zs.length (zs.map (Value.int .i64)) := HOWN.out.kept (row := none) (grown_of_below hdn) (by simp [Value.ownBlock])
          have ho1 := (own_out hown1).row
          have hsrc1 := ho1.take k
          have hu := slice_upto h zs.length c (k) hkz hcap
          obtain ⟨oo, hfr, ho⟩ := slice_from h zs.length c (k) hkz hcap
          obtain ⟨w1, hw1⟩ : ∃ w1 : World, w1 = X.drewN nq := ⟨_, rfl⟩
          rw [← hw1] at hgw1 hown1 ho1 hsrc1 ⊢
          have hsrc2 : Own w1 0 w1.heap.size (some ⟨h, oo, none⟩) ((zs.map (Value.int .i64)).drop (k)) := by
            by_cases hjj : k < zs.length
            · rw [ho hjj]; have := ho1.drop (k); rwa [Nat.zero_add] at this
            · exact .inl (List.drop_of_length_le (by simp; omega))
          have HO := Lib.hid ho
          have HS1 := Lib.hid hsrc1
          have HS2 := Lib.hid hsrc2
          have HG1 := Lib.hid hgw1
          clear ho hsrc1 hsrc2 hgw1 hown1 ho1 hw1 hdn hbx HWX
          go_wp2
          have hzn : (Value.int .i64 0).cells.size = 1 := rfl
          have hzl : zs.length ≤ 10000 := by omega
          have hones : ∀ u ∈ (zs.map (Value.int .i64)).take (k), u.oneCell' = true := fun u hu => by
            obtain ⟨z, _, rfl⟩ := List.mem_map.1 (List.mem_of_mem_take hu); rfl
          have hones2 : ∀ u ∈ (zs.map (Value.int .i64)).drop (k), u.oneCell' = true := fun u hu => by
            obtain ⟨z, _, rfl⟩ := List.mem_map.1 (List.mem_of_mem_drop hu); rfl
          have HZ1 := Lib.hid hones
          have HZ2 := Lib.hid hones2
          clear hones hones2
          go_region_law (first
          | (refine step_extend (w := w1.drew.alloc (.cells #[] 3)) (by rfl) (.tmp 38) (.tmp 41) 27 (by rfl) i0 (.int .i64 0) 8 Try.underlying27 hi0 hz0 hz1 hz2 rfl (by decide) _ _ (by rfl) (first_lit _ w1.heap.size (Nat.le_refl _)) _ _ _ _ _ (by rfl) (by simp; omega) (HS1.out.grownN (Nat.le_refl _) (g_alloc (g_drew (World.grownBy.refl w1 none)) _)) HZ1.out (by omega) (by omega) (g_alloc (g_drew (World.grownBy.refl w1 none)) _).size ?_; intro A2 c2 w2 hown2 hg2; have hgA : w1.grownBy w2 none := g_new (g_alloc (g_drew (World.grownBy.refl w1 none)) _) hg2 (fun i hi => ((first_lit w1.drew w1.heap.size (Nat.le_refl _)).lt _ hi).1); have hown2' : w2.ownsRow w1.heap.size 3 1 (.slice A2 k c2) k ((zs.map (Value.int .i64)).take k) := (by simpa using hown2))
          | (refine step_extend (w := (w1.drew.alloc (.cells #[] 3)).alloc (.cells #[.int .i64 (zs.length : Int)] 3)) (by rfl) (.tmp 38) (.tmp 41) 27 (by rfl) i0 (.int .i64 0) 8 Try.underlying27 hi0 hz0 hz1 hz2 rfl (by decide) _ _ (by rfl) ((first_lit _ w1.heap.size (Nat.le_refl _)).alloc _) _ _ _ _ _ (by rfl) (by simp; omega) (HS1.out.grownN (Nat.le_refl _) (g_alloc (g_alloc (g_drew (World.grownBy.refl w1 none)) _) _)) HZ1.out (by omega) (by omega) (g_alloc (g_alloc (g_drew (World.grownBy.refl w1 none)) _) _).size ?_; intro A2 c2 w2 hown2 hg2; have hgA : w1.grownBy w2 none := g_new (g_alloc (g_alloc (g_drew (World.grownBy.refl w1 none)) _) _) hg2 (fun i hi => (((first_lit w1.drew w1.heap.size (Nat.le_refl _)).alloc (.cells #[.int .i64 (zs.length : Int)] 3)).lt _ hi).1); have hown2' : w2.ownsRow w1.heap.size 3 1 (.slice A2 k c2) k ((zs.map (Value.int .i64)).take k) := (by simpa using hown2); have hsb : Own w2 0 (w1.heap.size + 2) (some ⟨w1.heap.size + 1, 0, none⟩) [.int .i64 (zs.length : Int)] := src_b w1.drew _ #[.int .i64 (zs.length : Int)] 3 hg2)
          | (refine step_extend (w := (w1.drew.alloc (.cells #[.int .i64 (zs.length : Int)] 3)).alloc (.cells #[] 3)) (by rfl) (.tmp 38) (.tmp 41) 27 (by rfl) i0 (.int .i64 0) 8 Try.underlying27 hi0 hz0 hz1 hz2 rfl (by decide) _ _ (by rfl) (first_lit' _ w1.heap.size (w1.heap.size + 1) (g_alloc (g_drew (World.grownBy.refl w1 none)) _).size (World.size_alloc _ _)) _ _ _ _ _ (by rfl) (by simp; omega) (HS1.out.grownN (Nat.le_refl _) (g_alloc (g_alloc (g_drew (World.grownBy.refl w1 none)) _) _)) HZ1.out (by omega) (by omega) (g_alloc (g_alloc (g_drew (World.grownBy.refl w1 none)) _) _).size ?_; intro A2 c2 w2 hown2 hg2; have hgA : w1.grownBy w2 none := g_new (g_alloc (g_alloc (g_drew (World.grownBy.refl w1 none)) _) _) hg2 (fun i hi => ((first_lit' (w1.drew.alloc (.cells #[.int .i64 (zs.length : Int)] 3)) w1.heap.size (w1.heap.size + 1) (g_alloc (g_drew (World.grownBy.refl w1 none)) _).size (World.size_alloc _ _)).lt _ hi).1); have hown2' : w2.ownsRow w1.heap.size 3 1 (.slice A2 k c2) k ((zs.map (Value.int .i64)).take k) := (by simpa using hown2); have hsb : Own w2 0 (w1.heap.size + 1) (some ⟨w1.heap.size, 0, none⟩) [.int .i64 (zs.length : Int)] := src_c w1.drew _ #[.int .i64 (zs.length : Int)] 3 hg2)
          | (refine step_extend (w := w2) (by rfl) (.tmp 42) (.tmp 44) 27 (by rfl) i0 (.int .i64 0) 8 Try.underlying27 hi0 hz0 hz1 hz2 rfl (by decide) _ _ (by rfl) hown2' _ _ _ _ [.int .i64 (zs.length : Int)] (by rfl) (by simp) hsb (by simp [Value.oneCell']) (by omega) (by omega) hgA.size ?_; intro A3 c3 w3 hown3 hg3; have hgB : w1.grownBy w3 none := g_new hgA hg3 (fun i hi => (hown2'.lt _ hi).1))
          | (refine step_extend (w := w2.alloc (.cells #[.int .i64 (zs.length : Int)] 3)) (by rfl) (.tmp 42) (.tmp 44) 27 (by rfl) i0 (.int .i64 0) 8 Try.underlying27 hi0 hz0 hz1 hz2 rfl (by decide) _ _ (by rfl) (hown2'.alloc _) _ _ _ _ [.int .i64 (zs.length : Int)] (by rfl) (by simp) (own_new w2 #[.int .i64 (zs.length : Int)] 3) (by simp [Value.oneCell']) (by omega) (by omega) (g_alloc hgA _).size ?_; intro A3 c3 w3 hown3 hg3; have hgB : w1.grownBy w3 none := g_new (g_alloc hgA _) hg3 (fun i hi => (hown2'.lt _ hi).1))
          | (refine step_extend (by rfl) (.tmp 45) (.tmp 48) 27 (by rfl) i0 (.int .i64 0) 8 Try.underlying27 hi0 hz0 hz1 hz2 rfl (by decide) _ _ (by rfl) hown3 _ _ _ _ _ (by rfl) (by simp) (HS2.out.grownN (Nat.le_refl _) hgB) HZ2.out (by omega) (by omega) hgB.size ?_; intro A4 c4 w4 hown4 hg4; have hgC : w1.grownBy w4 none := g_new hgB hg4 (fun i hi => (hown3.lt _ hi).1)))
          all_goals
            have hel : k + 1 + (zs.length - k) = zs.length + 1 := by omega
            simp only [hel] at hown4 ⊢
            clear hel
            obtain ⟨h4, rfl⟩ := own_some' hown4 (by omega)
            have hgD := g_new HG1.out (show w1.grownBy w4 none from hgC) (fun i hi => by cases hi)
            have HZD := Lib.hid (And.intro hown4 hgD)
            clear hown4 hgD hgC hg4 hown3 hg3 hgB hg2 hown2 hown2' hgA
            try clear hsb
            go_wp2
            go_roundw
            case rel =>
              have hl' : (zs.take k ++ [(zs.length : Int)] ++ zs.drop k).length = zs.length + 1 := by simp; omega
              refine ⟨h4, c4, zs.take k ++ [(zs.length : Int)] ++ zs.drop k, by rw [hl'], by rw [hl']; go_num, by rw [hl']; omega, ?_, ?_, HZD.out.2⟩
              · rw [hl']
                have hq := own_base HZD.out.1 (base' := w.heap.size) HG1.out.size
                simpa [List.map_append, List.map_take, List.map_drop] using hq
              · rw [hl']
                refine Lib.hid ?_
                rw [ordL, ← HZS.out, ← HK.out]
                rfl
            case measure => simp [intOf]; omega
        · obtain ⟨m, hm⟩ : ∃ m, k = m + 1 := ⟨k - 1, by omega⟩
          obtain ⟨j, hj, hjl⟩ : ∃ j : Nat, zs.getD m 0 = (j : Int) ∧ j < zs.length := by
            have := ordL_get (lt := ltC (rs.map cp)) (n := zs.length) (k := m) (by omega)
            rwa [← HZS.out] at this
          have hcz := HZR.out.below hbx
          obtain ⟨bz, oz, e, hbz, hcz⟩ := hcz.open (by rw [List.length_map]; omega)
          simp only [Option.some.injEq, Addr.mk.injEq, and_true] at e
          obtain ⟨rfl, rfl⟩ := e
          have hzc := hcz m (.int .i64 j) (by rw [List.getElem?_map, getDC_at (by omega), hj]; rfl)
          rw [Nat.zero_add] at hzc
          obtain ⟨p2, l2, q2, d2, b2, o2, b2', o2', c2, he2, _, e2, k1, _, k3, _, _, hb2, hb2'⟩ := (HGR.out.below hbx).coach HV.out (show j < rs.length by omega)
          simp only [Option.some.injEq, Addr.mk.injEq, and_true] at e2
          obtain ⟨rfl, rfl⟩ := e2
          have HAT2 := Lib.hid (cAt_row (show j < rs.length by omega) he2)
          have x1 := (hbx.cell (p := ⟨b', o' + 1, none⟩) (by omega)).trans g1
          have HE := Lib.hid (show ltC (rs.map cp) zs.length (zs.getD m 0) = decide (l < l2) by
            rw [hj]; simp only [ltC, HAT.out, HAT2.out]
            by_cases h : l < l2
            · rw [decide_eq_true h]; exact decide_eq_true (by omega)
            · rw [decide_eq_false h]; exact decide_eq_false (by omega))
          have hm1 : (k : Int) - 1 = (m : Int) := by omega
          have hmw : IntKind.i64.wrap ((k : Int) - 1) = (m : Int) := by rw [hm1]; exact IntWalk.i64_in _ (by omega)
          have hd : decide (0 < k) = true := decide_eq_true (by omega)
          have hmz : (m : Int) < zs.length := by omega
          have hjr : (j : Int) < rs.length := by omega
          have HM := Lib.hid hm
          have hkpos : 0 < k := by omega
          clear he2 hcz hj hk0 hm
          by_cases hll : l < l2
          · have hdl : decide (l < l2) = true := decide_eq_true hll
            have HX := Lib.hid (And.intro HM.out (HE.out.trans hdl))
            go_wp2
            go_quiet (fail)
            go_simp
            have hkm : (k : Int) - 1 = (m : Int) := hm1
            clear hmw hd hm1 hdl
            go_wp2
            go_roundw
            case rel => exact ⟨m, by have := HM.out; omega, rfl, Lib.hid (by rw [HSC.out, HM.out]; exact scanK_yes HX.out.2), by obtain ⟨n, hn⟩ := HWX.out; rw [hn]; exact ⟨_, World.drewN_drewN ..⟩⟩
            case measure => simp [intOf]; have := HM.out; omega
          · have hdl : decide (l < l2) = false := decide_eq_false hll
            have HK := Lib.hid (show k = scanK (ltC (rs.map cp) zs.length) zs zs.length by
              rw [HSC.out, HM.out]; exact (scanK_no (HE.out.trans hdl)).symm)
            go_wp2
            go_quiet (fail)
            go_simp
            clear hm1 hmw hdl
            have hcap := own_cap HOWN.out
            have hdn : Below W.heap.size W (X.drewN nq) := below_drewN hbx nq
            have hgw1 : w.grownBy (X.drewN nq) none := g_new HG.out (grown_of_below hdn) (by simp)
            have hown1 : (X.drewN nq).ownsRow w.heap.size 3 1 (.slice (some ⟨h, 0, none⟩) zs.length c) zs.length (zs.map (Value.int .i64)) := HOWN.out.kept (row := none) (grown_of_below hdn) (by simp [Value.ownBlock])
            have ho1 := (own_out hown1).row
            have hsrc1 := ho1.take k
            have hu := slice_upto h zs.length c (k) hkz hcap
            obtain ⟨oo, hfr, ho⟩ := slice_from h zs.length c (k) hkz hcap
            obtain ⟨w1, hw1⟩ : ∃ w1 : World, w1 = X.drewN nq := ⟨_, rfl⟩
            rw [← hw1] at hgw1 hown1 ho1 hsrc1 ⊢
            have hsrc2 : Own w1 0 w1.heap.size (some ⟨h, oo, none⟩) ((zs.map (Value.int .i64)).drop (k)) := by
              by_cases hjj : k < zs.length
              · rw [ho hjj]; have := ho1.drop (k); rwa [Nat.zero_add] at this
              · exact .inl (List.drop_of_length_le (by simp; omega))
            have HO := Lib.hid ho
            have HS1 := Lib.hid hsrc1
            have HS2 := Lib.hid hsrc2
            have HG1 := Lib.hid hgw1
            clear ho hsrc1 hsrc2 hgw1 hown1 ho1 hw1 hdn hbx HWX
            go_wp2
            have hzn : (Value.int .i64 0).cells.size = 1 := rfl
            have hzl : zs.length ≤ 10000 := by omega
            have hones : ∀ u ∈ (zs.map (Value.int .i64)).take (k), u.oneCell' = true := fun u hu => by
              obtain ⟨z, _, rfl⟩ := List.mem_map.1 (List.mem_of_mem_take hu); rfl
            have hones2 : ∀ u ∈ (zs.map (Value.int .i64)).drop (k), u.oneCell' = true := fun u hu => by
              obtain ⟨z, _, rfl⟩ := List.mem_map.1 (List.mem_of_mem_drop hu); rfl
            have HZ1 := Lib.hid hones
            have HZ2 := Lib.hid hones2
            clear hones hones2
            go_region_law (first
            | (refine step_extend (w := w1.drew.alloc (.cells #[] 3)) (by rfl) (.tmp 38) (.tmp 41) 27 (by rfl) i0 (.int .i64 0) 8 Try.underlying27 hi0 hz0 hz1 hz2 rfl (by decide) _ _ (by rfl) (first_lit _ w1.heap.size (Nat.le_refl _)) _ _ _ _ _ (by rfl) (by simp; omega) (HS1.out.grownN (Nat.le_refl _) (g_alloc (g_drew (World.grownBy.refl w1 none)) _)) HZ1.out (by omega) (by omega) (g_alloc (g_drew (World.grownBy.refl w1 none)) _).size ?_; intro A2 c2 w2 hown2 hg2; have hgA : w1.grownBy w2 none := g_new (g_alloc (g_drew (World.grownBy.refl w1 none)) _) hg2 (fun i hi => ((first_lit w1.drew w1.heap.size (Nat.le_refl _)).lt _ hi).1); have hown2' : w2.ownsRow w1.heap.size 3 1 (.slice A2 k c2) k ((zs.map (Value.int .i64)).take k) := (by simpa using hown2))
            | (refine step_extend (w := (w1.drew.alloc (.cells #[] 3)).alloc (.cells #[.int .i64 (zs.length : Int)] 3)) (by rfl) (.tmp 38) (.tmp 41) 27 (by rfl) i0 (.int .i64 0) 8 Try.underlying27 hi0 hz0 hz1 hz2 rfl (by decide) _ _ (by rfl) ((first_lit _ w1.heap.size (Nat.le_refl _)).alloc _) _ _ _ _ _ (by rfl) (by simp; omega) (HS1.out.grownN (Nat.le_refl _) (g_alloc (g_alloc (g_drew (World.grownBy.refl w1 none)) _) _)) HZ1.out (by omega) (by omega) (g_alloc (g_alloc (g_drew (World.grownBy.refl w1 none)) _) _).size ?_; intro A2 c2 w2 hown2 hg2; have hgA : w1.grownBy w2 none := g_new (g_alloc (g_alloc (g_drew (World.grownBy.refl w1 none)) _) _) hg2 (fun i hi => (((first_lit w1.drew w1.heap.size (Nat.le_refl _)).alloc (.cells #[.int .i64 (zs.length : Int)] 3)).lt _ hi).1); have hown2' : w2.ownsRow w1.heap.size 3 1 (.slice A2 k c2) k ((zs.map (Value.int .i64)).take k) := (by simpa using hown2); have hsb : Own w2 0 (w1.heap.size + 2) (some ⟨w1.heap.size + 1, 0, none⟩) [.int .i64 (zs.length : Int)] := src_b w1.drew _ #[.int .i64 (zs.length : Int)] 3 hg2)
            | (refine step_extend (w := (w1.drew.alloc (.cells #[.int .i64 (zs.length : Int)] 3)).alloc (.cells #[] 3)) (by rfl) (.tmp 38) (.tmp 41) 27 (by rfl) i0 (.int .i64 0) 8 Try.underlying27 hi0 hz0 hz1 hz2 rfl (by decide) _ _ (by rfl) (first_lit' _ w1.heap.size (w1.heap.size + 1) (g_alloc (g_drew (World.grownBy.refl w1 none)) _).size (World.size_alloc _ _)) _ _ _ _ _ (by rfl) (by simp; omega) (HS1.out.grownN (Nat.le_refl _) (g_alloc (g_alloc (g_drew (World.grownBy.refl w1 none)) _) _)) HZ1.out (by omega) (by omega) (g_alloc (g_alloc (g_drew (World.grownBy.refl w1 none)) _) _).size ?_; intro A2 c2 w2 hown2 hg2; have hgA : w1.grownBy w2 none := g_new (g_alloc (g_alloc (g_drew (World.grownBy.refl w1 none)) _) _) hg2 (fun i hi => ((first_lit' (w1.drew.alloc (.cells #[.int .i64 (zs.length : Int)] 3)) w1.heap.size (w1.heap.size + 1) (g_alloc (g_drew (World.grownBy.refl w1 none)) _).size (World.size_alloc _ _)).lt _ hi).1); have hown2' : w2.ownsRow w1.heap.size 3 1 (.slice A2 k c2) k ((zs.map (Value.int .i64)).take k) := (by simpa using hown2); have hsb : Own w2 0 (w1.heap.size + 1) (some ⟨w1.heap.size, 0, none⟩) [.int .i64 (zs.length : Int)] := src_c w1.drew _ #[.int .i64 (zs.length : Int)] 3 hg2)
            | (refine step_extend (w := w2) (by rfl) (.tmp 42) (.tmp 44) 27 (by rfl) i0 (.int .i64 0) 8 Try.underlying27 hi0 hz0 hz1 hz2 rfl (by decide) _ _ (by rfl) hown2' _ _ _ _ [.int .i64 (zs.length : Int)] (by rfl) (by simp) hsb (by simp [Value.oneCell']) (by omega) (by omega) hgA.size ?_; intro A3 c3 w3 hown3 hg3; have hgB : w1.grownBy w3 none := g_new hgA hg3 (fun i hi => (hown2'.lt _ hi).1))
            | (refine step_extend (w := w2.alloc (.cells #[.int .i64 (zs.length : Int)] 3)) (by rfl) (.tmp 42) (.tmp 44) 27 (by rfl) i0 (.int .i64 0) 8 Try.underlying27 hi0 hz0 hz1 hz2 rfl (by decide) _ _ (by rfl) (hown2'.alloc _) _ _ _ _ [.int .i64 (zs.length : Int)] (by rfl) (by simp) (own_new w2 #[.int .i64 (zs.length : Int)] 3) (by simp [Value.oneCell']) (by omega) (by omega) (g_alloc hgA _).size ?_; intro A3 c3 w3 hown3 hg3; have hgB : w1.grownBy w3 none := g_new (g_alloc hgA _) hg3 (fun i hi => (hown2'.lt _ hi).1))
            | (refine step_extend (by rfl) (.tmp 45) (.tmp 48) 27 (by rfl) i0 (.int .i64 0) 8 Try.underlying27 hi0 hz0 hz1 hz2 rfl (by decide) _ _ (by rfl) hown3 _ _ _ _ _ (by rfl) (by simp) (HS2.out.grownN (Nat.le_refl _) hgB) HZ2.out (by omega) (by omega) hgB.size ?_; intro A4 c4 w4 hown4 hg4; have hgC : w1.grownBy w4 none := g_new hgB hg4 (fun i hi => (hown3.lt _ hi).1)))
            all_goals
              have hel : k + 1 + (zs.length - k) = zs.length + 1 := by omega
              simp only [hel] at hown4 ⊢
              clear hel
              obtain ⟨h4, rfl⟩ := own_some' hown4 (by omega)
              have hgD := g_new HG1.out (show w1.grownBy w4 none from hgC) (fun i hi => by cases hi)
              have HZD := Lib.hid (And.intro hown4 hgD)
              clear hown4 hgD hgC hg4 hown3 hg3 hgB hg2 hown2 hown2' hgA
              try clear hsb
              go_wp2
              go_roundw
              case rel =>
                have hl' : (zs.take k ++ [(zs.length : Int)] ++ zs.drop k).length = zs.length + 1 := by simp; omega
                refine ⟨h4, c4, zs.take k ++ [(zs.length : Int)] ++ zs.drop k, by rw [hl'], by rw [hl']; go_num, by rw [hl']; omega, ?_, ?_, HZD.out.2⟩
                · rw [hl']
                  have hq := own_base HZD.out.1 (base' := w.heap.size) HG1.out.size
                  simpa [List.map_append, List.map_take, List.map_drop] using hq
                · rw [hl']
                  refine Lib.hid ?_
                  rw [ordL, ← HZS.out, ← HK.out]
                  rfl
              case measure => simp [intOf]; omega
    · have hn : zs.length = rs.length := by omega
      have HF := Lib.hid (And.intro (own_cap hown) (And.intro (own_out hown) (below_g hgr (Nat.le_refl _))))
      have HZ2 := Lib.hid (show ordL (ltC (rs.map cp)) rs.length = zs by rw [← hn]; exact HZS.out.symm)
      clear hown hgr HZS
      go_wp2
      go_ret
      rw [HZ2.out]
      exact ⟨_, c, rfl, HF.out.1, HF.out.2.1, HF.out.2.2⟩
end Go.Proofs.Ytimbkclhkepgfaa
