/- Coaches that are drawn. No condition. -/
import Derived.Test.YtimbkclhkepgfaaG6
import Derived.Test.YtimbkclhkepgfaaRd2
namespace Go.Proofs.Ytimbkclhkepgfaa
open Go.RowKit

def Lens (m : Nat) (rs : List (List Int)) : Prop := ∀ r ∈ rs, r.length ≤ m
theorem Lens.push {m : Nat} {rs : List (List Int)} {r : List Int} (h : Lens m rs) (hr : r.length ≤ m) : Lens m (rs ++ [r]) := fun x hx => by
  rcases List.mem_append.1 hx with hx | hx
  · exact h x hx
  · simp at hx; rw [hx]; exact hr
theorem Lens.set {m : Nat} {rs : List (List Int)} {r : List Int} {k : Nat} (h : Lens m rs) (hr : r.length ≤ m) : Lens m (rs.set k r) := fun x hx => by
  rcases List.mem_or_eq_of_mem_set hx with hx | rfl
  · exact h x hx
  · exact hr
theorem own_newC (w : World) (us : Array Value) (t : TypeId) {g : Nat} (hg : w.heap.size = g) : Own (w.alloc (.cells us t)) 0 (g + 1) (some ⟨g, 0, none⟩) us.toList := by
  subst hg; exact own_new w us t
theorem one_atC (g p : Nat) (w : World) (hrd : Rd w g p) (hp : p ≤ 1000000) (zs : List Int) (hz : 0 < zs.length) (hl : zs.length ≤ 1000000) (n a : Nat) (hn : zs.length = n) (ha : a = w.heap.size) (vs : Array Value) (hvs : vs = (zs.map (Value.int .i64)).toArray) :
    Calls Try.prog 15 #[.pointer (some ⟨g, 0, none⟩), .slice (some ⟨a, 0, none⟩) n n] (w.alloc (.cells vs 3)) fun e w' => ∃ k : Int, e = .returned (.int .i64 k) ∧ k ∈ zs ∧ Rd w' g (p + 1) ∧ w.grownBy w' (some g) := by
  subst ha
  exact one_lit g p w hrd hp zs hz hl n hn vs hvs

set_option maxRecDepth 100000 in
set_option maxHeartbeats 2000000 in
theorem someCoaches_any (g p : Nat) (w : World) (hrd : Rd w g p) (hp : p ≤ 1000) :
    Calls Try.prog 14 #[.pointer (some ⟨g, 0, none⟩)] w fun e w' => ∃ (A : Option Addr) (c : Nat) (rs : List (List Int)),
      e = .returned (.slice A rs.length c) ∧ rs.length ≤ 10 ∧ rs.length ≤ c ∧ Lens 4 rs ∧ MGrid w' w.heap.size w'.heap.size A rs ∧ (∃ q, q ≤ p + 60 ∧ Rd w' g q) ∧ w.grownBy w' (some g) := by
  obtain ⟨i0, hi0, hz0, hz1, hz2⟩ := info_parts Try.infoR
  obtain ⟨j0, hj0, hy0, hy1, hy2⟩ := info_parts Try.info3
  have hgl := hrd.lt
  have hga : w.grownBy (w.alloc (.cells #[] 27)) (some g) := World.grownBy_alloc w _ _
  have hrda : Rd (w.alloc (.cells #[] 27)) g p := hrd.own (World.grownBy_alloc w _ none) (by simp)
  have HST := Lib.hid (Built.start w w.heap.size (Nat.le_refl _))
  have HGA := Lib.hid hga
  clear hga
  go_enter Try.func14, Try.ntmps14
  go_wp2_with fail
  refine (one_atC g p (w.alloc (.cells #[] 27)) hrda (by omega) [6, 8, 5, 10, 4, 2, 0] (by decide) (by decide) 7 _ rfl (by simp) _ rfl).mono ?_
  rintro e w1 ⟨k, rfl, hk, hrd1, hg1⟩
  have hkb : 0 ≤ k ∧ k ≤ 10 := by simp at hk; omega
  obtain ⟨hk0, hk10⟩ := hkb
  have HB1 := Lib.hid (And.intro (HST.out.apart hg1 (fun i hi => by injection hi with hi; omega)) (And.intro hrd1 (grown_trans HGA.out hg1)))
  clear hk hrd1 hg1 HST HGA hrda
  go_wp2
  go_loopw [3] (fun v wr => ∃ (H : Option Addr) (c : Nat) (hs : List Value) (rs : List (List Int)), v = .slice H rs.length c ∧ rs.length ≤ k.toNat ∧ Lens 4 rs ∧ Built wr w.heap.size H c hs rs ∧ Rd wr g (p + 1 + 5 * rs.length) ∧ w.grownBy wr (some g))
    (fun v _ => k.toNat - (match v with | .slice _ m _ => m | _ => 0))
  case atStart => exact ⟨_, 0, [], [], rfl, by simp, fun r hr => by simp at hr, HB1.out.1, HB1.out.2.1, HB1.out.2.2⟩
  case round =>
    obtain ⟨H, c, hs, rs, rfl, hl, htw, hbu, hrdr, hgr⟩ := hrel
    clear HB1
    have HTW := Lib.hid htw
    have HGR := Lib.hid hgr
    have hgz := hgr.size
    have hl6 : rs.length ≤ 10 := by omega
    clear htw hgr
    by_cases hlt : (rs.length : Int) < k
    · go_wp2_with fail
      refine (one_lit g _ wr hrdr (by omega) [20, 40, 10] (by decide) (by decide) 3 rfl _ rfl).mono ?_
      rintro e w2 ⟨x, rfl, hx, hrd2, hg2⟩
      have hx1 : 10 ≤ x ∧ x ≤ 40 := by simp at hx; omega
      obtain ⟨hx0, hx1⟩ := hx1
      clear hx
      go_wp2_with fail
      refine (pick_any g _ _ _ hrd2 (by omega) (by omega)).mono ?_
      rintro e w3 ⟨t, rfl, ht, hrd3, hg3⟩
      have ht1 : t < 40 := by have := ht.2 (by omega); omega
      have ht0 : 0 ≤ t := ht.1
      clear ht
      go_wp2_with fail
      refine (pick_any g _ _ _ hrd3 (by omega) (by omega)).mono ?_
      rintro e w4 ⟨y, rfl, hy, hrd4, hg4⟩
      clear hy
      go_wp2_with fail
      refine (pick_any g _ _ _ hrd4 (by omega) (by omega)).mono ?_
      rintro e w5 ⟨z, rfl, hz, hrd5, hg5⟩
      clear hz
      go_wp2_with fail
      refine (pick_any g _ _ _ hrd5 (by omega) (by omega)).mono ?_
      rintro e wz ⟨u, rfl, hu, hrdz, hgz5⟩
      have hu1 : u < 9 := hu.2 (by omega)
      have hu0 : 0 ≤ u := hu.1
      clear hu
      have hgz' := grown_trans (grown_trans (grown_trans (grown_trans hg2 hg3) hg4) hg5) hgz5
      have hb4 := hbu.apart hgz' (fun i hi => by injection hi with hi; omega)
      have hbel : Below wz.heap.size wz (wz.alloc (.cells #[.int .i64 y, .int .i64 t, .int .i64 z, .int .i64 (t + 1 + u)] 3)) := (Below.refl _ _).alloc (Nat.le_refl _) _
      have hb5 := hb4.keep hbel
      have hR : OwnInts (wz.alloc (.cells #[.int .i64 y, .int .i64 t, .int .i64 z, .int .i64 (t + 1 + u)] 3)) wz.heap.size (wz.alloc (.cells #[.int .i64 y, .int .i64 t, .int .i64 z, .int .i64 (t + 1 + u)] 3)).heap.size (some ⟨wz.heap.size, 0, none⟩) [y, t, z, t + 1 + u] :=
        own_block (e := 3) (heap_alloc_new wz _) (Nat.le_refl _)
      have hzz : w.heap.size ≤ wz.heap.size := Nat.le_trans hgz hgz'.size
      have H4 := Lib.hid (And.intro hb4 (And.intro hbel hR))
      have hrd5 := hrdz.own (World.grownBy_alloc wz (.cells #[.int .i64 y, .int .i64 t, .int .i64 z, .int .i64 (t + 1 + u)] 3) none) (by simp)
      have HG := Lib.hid (grown_trans HGR.out (grown_trans hgz' (World.grownBy_alloc wz (.cells #[.int .i64 y, .int .i64 t, .int .i64 z, .int .i64 (t + 1 + u)] 3) (some g))))
      have hown5 := hb5.1
      clear hbu hb4 hbel hb5 hR hg2 hg3 hg4 hgz' hrd2 hrd3 hrdz hrdr
      go_wp2_with (at_builtin; refine wpList_push_in rfl (.tmp 19) (.tmp 31) 23 rfl i0 (.slice none 0 0) 24 Try.underlying23 hi0 hz0 hz1 hz2 rfl (by decide) _ _ rfl hown5 [.slice (some ⟨wz.heap.size, 0, none⟩) 4 4] rfl _ (World.size_alloc _ _).symm rfl (by simp [Value.oneCell']) (by omega) (by omega) (by simp; omega) ?_)
      intro H' c' w6 hown6 hg6 hat6
      have hb6 := H4.out.1.push hzz H4.out.2.1 (r := [y, t, z, t + 1 + u]) H4.out.2.2 (by simp) hown6 hg6 (hat6.imp id (fun ⟨a, h1, h2⟩ => by rw [h1]; simp [h2]))
      have hrd6 := hrd5.own hg6 (fun i hi => by have := (hown5.lt _ hi).1; omega)
      have HF := Lib.hid (And.intro hb6 (And.intro hrd6 (grown_own HG.out hg6 (fun i hi => (hown5.lt _ hi).1))))
      clear hown5 hown6 hg6 hat6 hb6 hrd5 hrd6
      go_wp2
      go_roundw
      case rel => exact ⟨H', c', _, rs ++ [[y, t, z, t + 1 + u]], by simp, by simp; omega, HTW.out.push (by simp), HF.out.1, by rw [List.length_append]; exact HF.out.2.1, HF.out.2.2⟩
      case measure => simp; omega
    · have hN : rs.length = k.toNat := by omega
      have HN := Lib.hid hN
      have HMG := Lib.hid hbu.mgrid
      have hcap := hbu.cap
      clear hN
      by_cases h0 : rs.length = 0
      · have hd : decide (0 < rs.length) = false := decide_eq_false (by omega)
        have H0 := Lib.hid h0
        clear h0
        go_wp2
        go_ret
        exact ⟨H, c, rs, rfl, hl6, hcap, HTW.out, HMG.out, ⟨_, by omega, hrdr⟩, HGR.out⟩
      · have hpos : 0 < rs.length := by omega
        have hd : decide (0 < rs.length) = true := decide_eq_true hpos
        obtain ⟨gH, rfl, hgH, _⟩ := own_some hbu.1 hpos
        clear h0 hbu
        go_wp2_with fail
        refine (pick_any g _ 30 _ hrdr (by omega) (by omega)).mono ?_
        rintro e w2 ⟨y, rfl, hy, hrd2, hg2⟩
        have hm2 := (HMG.out.apart (Nat.le_refl _) hg2 (fun i hi => by injection hi with hi; omega)).more hg2.size
        have hz2 := hg2.size
        have H2 := Lib.hid (And.intro hm2 (grown_trans HGR.out hg2))
        clear hy hm2 hg2 hrdr
        by_cases hy0 : y = 0
        · subst hy0
          go_wp2_with fail
          refine (one_lit g _ w2 hrd2 (by omega) [-1, 5] (by decide) (by decide) 2 rfl _ rfl).mono ?_
          rintro e w3 ⟨x, rfl, hx, hrd3, hg3⟩
          clear hx
          have hm3 := (H2.out.1.apart (Nat.le_refl _) hg3 (fun i hi => by injection hi with hi; omega)).more hg3.size
          have hz3 := hg3.size
          have HG3 := Lib.hid (grown_trans H2.out.2 hg3)
          have HM3 := Lib.hid hm3
          have hownA : (w3.alloc (.cells #[.int .i64 x] 3)).ownsRow w3.heap.size 3 1 (.slice (some ⟨w3.heap.size, 0, none⟩) 1 1) 1 [.int .i64 x] := World.ownsRow_lit w3 #[.int .i64 x] 1 (Nat.le_refl _) (by simp [maxLen]) rfl
          clear hm3 hg3 hrd2
          have hownB := hownA.alloc (.cells #[.int .i64 1, .int .i64 2, .int .i64 3] 3)
          have hsrcB := own_newC (w3.alloc (.cells #[.int .i64 x] 3)) #[.int .i64 1, .int .i64 2, .int .i64 3] 3 (World.size_alloc _ _)
          go_wp2_with (at_builtin; refine wpList_extend rfl (.tmp 45) (.tmp 46) 27 rfl j0 (.int .i64 0) 8 Try.underlying27 hj0 hy0 hy1 hy2 rfl (by decide) _ _ rfl hownB _ 3 3 _ [.int .i64 1, .int .i64 2, .int .i64 3] rfl (by simp) hsrcB (by simp [Value.oneCell']) (by omega) (by omega) (by simp; omega) ?_)
          intro R' cR w5 hown5 hg5
          have hg35 : w3.grownBy w5 none := g_new (g_alloc (World.grownBy_alloc w3 (.cells #[.int .i64 x] 3) none) _) hg5 (fun i hi => (hownA.lt _ hi).1)
          have hb35 := below_g hg35 (Nat.le_refl _)
          have hR : OwnInts w5 w3.heap.size w5.heap.size R' [x, 1, 2, 3] := own_of_rowS (by decide) hown5
          have hm5 := HM3.out.keep (Nat.le_refl _) hb35
          obtain ⟨⟨yy, hcy⟩, hfy⟩ := hm5.cell hpos
          have hset := HM3.out.setHead (Nat.le_refl _) hb35 hR (own_cap hown5) hpos (by omega)
          have hrd5 := hrd3.own hg35 (by simp)
          have hrdS := hrd5.own (g_set (World.grownBy.refl w5 (some gH)) (0 + 0) (.slice R' [x, 1, 2, 3].length cR)) (fun i hi => by injection hi with hi; omega)
          have HF := Lib.hid (And.intro hset (And.intro (grown_own HG3.out (g_set (g_wide hg35 (some gH)) (0 + 0) (.slice R' [x, 1, 2, 3].length cR)) (fun i hi => by injection hi with hi; omega)) hrdS))
          clear hownB hsrcB hm5 hset hrdS hrd5 hg35 hb35 hR hown5 hg5 hownA hrd3
          rw [Nat.add_zero] at hcy hfy
          go_wp2
          go_ret
          exact ⟨some ⟨gH, 0, none⟩, c, rs.set 0 [x, 1, 2, 3], by rw [List.length_set]; rfl, by rw [List.length_set]; exact hl6, by rw [List.length_set]; exact hcap, HTW.out.set (by simp), HF.out.1.more (by simp [World.setCell]), ⟨_, by omega, (HF.out.2.2)⟩, HF.out.2.1⟩
        · have hyy : (y == 0) = false := beq_eq_false_iff_ne.2 hy0
          clear hy0
          go_wp2
          go_ret
          exact ⟨_, c, rs, rfl, hl6, hcap, HTW.out, H2.out.1, ⟨_, by omega, hrd2⟩, H2.out.2⟩
end Go.Proofs.Ytimbkclhkepgfaa
