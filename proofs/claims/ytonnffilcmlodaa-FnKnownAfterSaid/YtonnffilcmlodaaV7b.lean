/- Calls that are drawn: the walk of spec.someCalls, the draws. No condition. -/
import Derived.Test.YtonnffilcmlodaaV7a
import Derived.Test.YtonnffilcmlodaaVt
namespace Go.Proofs.Ytonnffilcmlodaa
open Go.RowKit

theorem two_push {rs : List (List Int)} {r : List Int} (h : ∀ x ∈ rs, x.length ≤ 2) (hr : r.length ≤ 2) : ∀ x ∈ rs ++ [r], x.length ≤ 2 := fun x hx => by
  rcases List.mem_append.1 hx with hx | hx
  · exact h x hx
  · simp at hx; rw [hx]; exact hr
theorem cf_two : ∀ n : Fin 8, 2 ≤ n.val → 1 ≤ (cfL n.val).length := by decide +kernel
theorem grown_of_belowS {w w' : World} (h : Below w.heap.size w w') (row : Option Nat) : w.grownBy w' row := ⟨h.os, h.tape, h.output, h.size, fun i hi _ => h.block i hi⟩
theorem Rd.keepB {w w' : World} {g p : Nat} (h : Rd w g p) (hb : Below w.heap.size w w') : Rd w' g p := h.own (grown_of_belowS hb none) (by simp)

set_option maxRecDepth 100000 in
set_option maxHeartbeats 8000000 in
theorem someCalls_any (g p : Nat) (w : World) (hrd : Rd w g p) (hp : p ≤ 1000) :
    Calls Try.prog 42 #[.pointer (some ⟨g, 0, none⟩)] w fun e w' => ∃ (n : Int) (A : Option Addr) (c : Nat) (rs : List (List Int)),
      e = .returned (.tuple #[.int .i64 n, .slice A rs.length c]) ∧ (0 ≤ n ∧ n ≤ 8) ∧ rs.length ≤ 22 ∧ rs.length ≤ c ∧ (∀ r ∈ rs, r.length ≤ 2) ∧ DrCs n rs ∧ Grid w' 0 w'.heap.size A rs ∧ w.grownBy w' (some g) := by
  obtain ⟨i0, hi0, hz0, hz1, hz2⟩ := info_parts Try.infoR
  have hgl := hrd.lt
  go_enter Try.func42, Try.ntmps42
  go_wp2_with fail
  refine (one_lit g p w hrd (by omega) [4, 5, 3, 6, 7, 2, 1, 0, 8] (by decide) (by decide) 9 rfl _ rfl).mono ?_
  rintro e w1 ⟨n, rfl, hn, hrd1, hg1⟩
  have hn8 : 0 ≤ n ∧ n ≤ 8 := by simp at hn; omega
  have HN := Lib.hid hn8
  obtain ⟨hn0, hn8⟩ := hn8
  have hz1' := hg1.size
  have HST := Lib.hid (Built.start w1 w.heap.size hg1.size)
  have hga : w.grownBy (w1.alloc (.cells #[] 28)) (some g) := grown_trans hg1 (World.grownBy_alloc w1 _ _)
  have hrda : Rd (w1.alloc (.cells #[] 28)) g (p + 1) := hrd1.own (World.grownBy_alloc w1 _ none) (by simp)
  have HGA := Lib.hid hga
  clear hn hrd1 hg1 hga
  go_wp2_with fail
  refine (one_at g (p + 1) (w1.alloc (.cells #[] 28)) hrda (by omega) [4, 6, 3, 8, 0, 20] (by decide) (by decide) 6 _ rfl (by simp) _ rfl).mono ?_
  rintro e w2 ⟨k0, rfl, hk, hrd2, hg2⟩
  have hkb : k0 = 0 ∨ k0 = 3 ∨ k0 = 4 ∨ k0 = 6 ∨ k0 = 8 ∨ k0 = 20 := by simp at hk; omega
  obtain ⟨K, rfl⟩ : ∃ K : Nat, k0 = K := ⟨k0.toNat, by omega⟩
  have hK20 : K ≤ 20 := by omega
  have HKB := Lib.hid (show K = 0 ∨ K = 3 ∨ K = 4 ∨ K = 6 ∨ K = 8 ∨ K = 20 by omega)
  have HB1 := Lib.hid (And.intro (HST.out.apart hg2 (fun i hi => by injection hi with hi; omega)) (And.intro hrd2 (grown_trans HGA.out hg2)))
  clear hk hkb hrd2 hg2 HST HGA hrda
  go_wp2_with fail
  go_loopw [5, 6] (fun v i wr => ∃ (H : Option Addr) (c : Nat) (hs : List Value) (rs : List (List Int)) (k : Nat), v = .slice H rs.length c ∧ i = .int .i64 k ∧ rs.length + k = K ∧ (n ≤ 1 → rs.length = 0) ∧ (∀ r ∈ rs, r.length ≤ 2) ∧ Built wr w.heap.size H c hs rs ∧ Rd wr g (p + 2 + 2 * rs.length) ∧ w.grownBy wr (some g))
    (fun _ i _ => (intOf i).toNat)
  case atStart => exact ⟨_, 0, [], [], K, rfl, rfl, by simp, fun _ => rfl, fun r hr => by simp at hr, HB1.out.1, HB1.out.2.1, HB1.out.2.2⟩
  case round =>
    obtain ⟨H, c, hs, rs, k, rfl, rfl, hl, hn1, htw, hbu, hrdr, hgr⟩ := hrel
    clear HB1
    have HTX := Lib.hid htw
    have HGX := Lib.hid hgr
    have hgz := hgr.size
    have hl20 : rs.length ≤ 20 := by omega
    clear htw hgr
    by_cases hlt : 0 < k ∧ 1 < n
    · obtain ⟨hk0, hn2⟩ := hlt
      have hkI : (0 : Int) < (k : Int) := by omega
      have HN1 := Lib.hid hn1
      clear hn1
      go_wp2_with fail
      refine (pick_any g _ _ _ hrdr (by omega) (by omega)).mono ?_
      rintro e w3 ⟨y, rfl, hy, hrd3, hg3⟩
      have hy0 : 0 ≤ y := hy.1
      have hy1 : y < n := hy.2 (by omega)
      clear hy
      go_wp2_with fail
      refine (pick_any g _ _ _ hrd3 (by omega) (by omega)).mono ?_
      rintro e w4 ⟨z, rfl, hz, hrd4, hg4⟩
      have hz0' : 0 ≤ z := hz.1
      have hz1' : z < n - 1 := hz.2 (by omega)
      clear hz
      obtain ⟨q, hq⟩ : ∃ q, (y + 1 + z).tmod n = q := ⟨_, rfl⟩
      have hg24 := grown_trans hg3 hg4
      have hb4 := hbu.apart hg24 (fun i hi => by injection hi with hi; omega)
      have hbel : Below w4.heap.size w4 (w4.alloc (.cells #[.int .i64 y, .int .i64 q] 3)) := (Below.refl _ _).alloc (Nat.le_refl _) _
      have hb5 := hb4.keep hbel
      have hR : OwnInts (w4.alloc (.cells #[.int .i64 y, .int .i64 q] 3)) w4.heap.size (w4.alloc (.cells #[.int .i64 y, .int .i64 q] 3)).heap.size (some ⟨w4.heap.size, 0, none⟩) [y, q] :=
        own_block (e := 3) (heap_alloc_new w4 _) (Nat.le_refl _)
      have hz4 : w.heap.size ≤ w4.heap.size := Nat.le_trans hgz hg24.size
      have H4 := Lib.hid (And.intro hb4 (And.intro hbel hR))
      have hrd5 := hrd4.own (World.grownBy_alloc w4 (.cells #[.int .i64 y, .int .i64 q] 3) none) (by simp)
      have HG := Lib.hid (grown_trans HGX.out (grown_trans hg24 (World.grownBy_alloc w4 (.cells #[.int .i64 y, .int .i64 q] 3) (some g))))
      have hown5 := hb5.1
      have hqb : -9 ≤ q ∧ q ≤ 9 := by
        rw [← hq, Int.tmod_eq_emod_of_nonneg (by omega)]
        have h1 := Int.emod_nonneg (y + 1 + z) (show n ≠ 0 by omega)
        have h2 := Int.emod_lt_of_pos (y + 1 + z) (show 0 < n by omega)
        omega
      clear hbu hb4 hbel hb5 hR hg3 hg4 hg24 hrd3 hrd4 hrdr
      go_wp2_with (at_builtin; refine wpList_push_in rfl (.tmp 26) (.tmp 38) 23 rfl i0 (.slice none 0 0) 24 Try.underlying23 hi0 hz0 hz1 hz2 rfl (by decide) _ _ rfl hown5 [.slice (some ⟨w4.heap.size, 0, none⟩) 2 2] rfl _ (World.size_alloc _ _).symm rfl (by simp [Value.oneCell']) (by omega) (by omega) (by simp; omega) ?_)
      intro H' c' w6 hown6 hg6 hat6
      have hb6 := H4.out.1.push hz4 H4.out.2.1 (r := [y, q]) H4.out.2.2 (by simp) hown6 hg6 (hat6.imp id (fun ⟨a, h1, h2⟩ => by rw [h1]; simp [h2]))
      have hrd6 := hrd5.own hg6 (fun i hi => by have := (hown5.lt _ hi).1; omega)
      have HF := Lib.hid (And.intro hb6 (And.intro hrd6 (grown_own HG.out hg6 (fun i hi => (hown5.lt _ hi).1))))
      clear hown5 hown6 hg6 hat6 hb6 hrd5 hrd6
      go_wp2
      go_roundw
      case rel => exact ⟨H', c', _, rs ++ [[y, q]], k - 1, by simp, by congr 1; omega, by simp; omega, fun h => by omega, two_push HTX.out (by simp), HF.out.1, by rw [List.length_append]; exact HF.out.2.1, HF.out.2.2⟩
      case measure => simp [intOf]; omega
    · have HLEN := Lib.hid (show rs.length = 0 ∨ rs.length = 3 ∨ rs.length = 4 ∨ rs.length = 6 ∨ rs.length = 8 ∨ rs.length = 20 by
        by_cases h1 : n ≤ 1
        · left; exact hn1 h1
        · have : k = 0 := by omega
          have := HKB.out
          omega)
      have HB0 := Lib.hid hbu
      clear hbu hn1
      have hgo : ¬ ((0 : Int) < (k : Int)) ∨ ((0 : Int) < (k : Int) ∧ ¬ (1 < n)) := by
        by_cases h : (0 : Int) < (k : Int)
        · right; exact ⟨h, by omega⟩
        · left; exact h
      clear hlt
      rcases hgo with hd | ⟨hd, hd2⟩
      all_goals
        go_wp2_with fail
        refine (pick_any g _ 3 _ hrdr (by omega) (by omega)).mono ?_
        rintro e w3 ⟨x, rfl, hx, hrd3, hg3⟩
        have hx0 := hx.1
        have hx1 := hx.2 (by omega)
        have HB3 := Lib.hid (HB0.out.apart hg3 (fun i hi => by injection hi with hi; omega))
        have HG3 := Lib.hid (grown_trans HGX.out hg3)
        have hz3 := hg3.size
        clear hx hg3 hrdr
        have hcs : x ≠ 0 ∨ (x = 0 ∧ ¬ (0 < n)) ∨ (x = 0 ∧ 0 < n ∧ ¬ (n < 8)) ∨ (x = 0 ∧ 0 < n ∧ n < 8) := by omega
        have HDX := Lib.hid (show DrCs n rs from .inl (.inl HLEN.out))
        clear hd
        try clear hd2
        rcases hcs with hx | ⟨hx, hng⟩ | ⟨hx, hng, hn7⟩ | ⟨hx, hng, hn7⟩
        · have hxx : (x == 0) = false := beq_eq_false_iff_ne.2 hx
          have hrdX := hrd3
          have HBX := HB3
          have HGX := HG3
          clear hx HB3 HG3 HB0 hrd3
          go_wp2_with fail
          refine (pick_any g _ 30 _ hrdX (by omega) (by omega)).mono ?_
          rintro e wY ⟨y, rfl, hy, hrdY, hgY⟩
          have HBY := Lib.hid (HBX.out.apart hgY (fun i hi => by injection hi with hi; omega))
          have HGY := Lib.hid (grown_trans HGX.out hgY)
          have hzY := hgY.size
          clear hy hgY hrdX
          by_cases hy0 : y = 0
          · subst hy0
            have hbel : Below wY.heap.size wY (wY.alloc (.cells #[.int .i64 0, .int .i64 0] 3)) := (Below.refl _ _).alloc (Nat.le_refl _) _
            have hR : OwnInts (wY.alloc (.cells #[.int .i64 0, .int .i64 0] 3)) wY.heap.size (wY.alloc (.cells #[.int .i64 0, .int .i64 0] 3)).heap.size (some ⟨wY.heap.size, 0, none⟩) [0, 0] := own_block (e := 3) (heap_alloc_new wY _) (Nat.le_refl _)
            have H4 := Lib.hid (And.intro hbel hR)
            have HG5 := Lib.hid (grown_trans HGY.out (World.grownBy_alloc wY (.cells #[.int .i64 0, .int .i64 0] 3) (some g)))
            have hown5 := (HBY.out.keep hbel).1
            clear hbel hR
            go_wp2_with (at_builtin; refine wpList_push_in rfl (.tmp 66) (.tmp 68) 23 rfl i0 (.slice none 0 0) 24 Try.underlying23 hi0 hz0 hz1 hz2 rfl (by decide) _ _ rfl hown5 [.slice (some ⟨wY.heap.size, 0, none⟩) 2 2] rfl _ (World.size_alloc _ _).symm rfl (by simp [Value.oneCell']) (by omega) (by omega) (by simp; omega) ?_)
            intro H' c' w6 hown6 hg6 hat6
            have HB6 := Lib.hid (HBY.out.push (by omega) H4.out.1 (r := [0, 0]) H4.out.2 (by simp) hown6 hg6 (hat6.imp id (fun ⟨a, h1, h2⟩ => by rw [h1]; simp [h2])))
            have HG6 := Lib.hid (grown_own HG5.out hg6 (fun i hi => by have := (hown5.lt _ hi).1; omega))
            clear hown5 hown6 hg6 hat6
            go_wp2
            go_ret2
            exact ⟨_, H', c', rs ++ [[0, 0]], by simp, HN.out, by simp; omega, HB6.out.cap, two_push HTX.out (by simp), .inr (calls_zero _ _), HB6.out.mgrid.row, HG6.out⟩
          · have hyy : (y == 0) = false := beq_eq_false_iff_ne.2 hy0
            clear hy0
            go_wp2
            go_ret2
            exact ⟨_, H, c, rs, rfl, HN.out, by omega, HBY.out.cap, HTX.out, HDX.out, HBY.out.mgrid.row, HGY.out⟩

        · subst hx
          have hrdX := hrd3
          have HBX := HB3
          have HGX := HG3
          clear HB3 HG3 HB0 hrd3
          go_wp2_with fail
          refine (pick_any g _ 30 _ hrdX (by omega) (by omega)).mono ?_
          rintro e wY ⟨y, rfl, hy, hrdY, hgY⟩
          have HBY := Lib.hid (HBX.out.apart hgY (fun i hi => by injection hi with hi; omega))
          have HGY := Lib.hid (grown_trans HGX.out hgY)
          have hzY := hgY.size
          clear hy hgY hrdX
          by_cases hy0 : y = 0
          · subst hy0
            have hbel : Below wY.heap.size wY (wY.alloc (.cells #[.int .i64 0, .int .i64 0] 3)) := (Below.refl _ _).alloc (Nat.le_refl _) _
            have hR : OwnInts (wY.alloc (.cells #[.int .i64 0, .int .i64 0] 3)) wY.heap.size (wY.alloc (.cells #[.int .i64 0, .int .i64 0] 3)).heap.size (some ⟨wY.heap.size, 0, none⟩) [0, 0] := own_block (e := 3) (heap_alloc_new wY _) (Nat.le_refl _)
            have H4 := Lib.hid (And.intro hbel hR)
            have HG5 := Lib.hid (grown_trans HGY.out (World.grownBy_alloc wY (.cells #[.int .i64 0, .int .i64 0] 3) (some g)))
            have hown5 := (HBY.out.keep hbel).1
            clear hbel hR
            go_wp2_with (at_builtin; refine wpList_push_in rfl (.tmp 66) (.tmp 68) 23 rfl i0 (.slice none 0 0) 24 Try.underlying23 hi0 hz0 hz1 hz2 rfl (by decide) _ _ rfl hown5 [.slice (some ⟨wY.heap.size, 0, none⟩) 2 2] rfl _ (World.size_alloc _ _).symm rfl (by simp [Value.oneCell']) (by omega) (by omega) (by simp; omega) ?_)
            intro H' c' w6 hown6 hg6 hat6
            have HB6 := Lib.hid (HBY.out.push (by omega) H4.out.1 (r := [0, 0]) H4.out.2 (by simp) hown6 hg6 (hat6.imp id (fun ⟨a, h1, h2⟩ => by rw [h1]; simp [h2])))
            have HG6 := Lib.hid (grown_own HG5.out hg6 (fun i hi => by have := (hown5.lt _ hi).1; omega))
            clear hown5 hown6 hg6 hat6
            go_wp2
            go_ret2
            exact ⟨_, H', c', rs ++ [[0, 0]], by simp, HN.out, by simp; omega, HB6.out.cap, two_push HTX.out (by simp), .inr (calls_zero _ _), HB6.out.mgrid.row, HG6.out⟩
          · have hyy : (y == 0) = false := beq_eq_false_iff_ne.2 hy0
            clear hy0
            go_wp2
            go_ret2
            exact ⟨_, H, c, rs, rfl, HN.out, by omega, HBY.out.cap, HTX.out, HDX.out, HBY.out.mgrid.row, HGY.out⟩

        · subst hx
          have hrdX := hrd3
          have HBX := HB3
          have HGX := HG3
          clear HB3 HG3 HB0 hrd3
          go_wp2_with fail
          refine (pick_any g _ 30 _ hrdX (by omega) (by omega)).mono ?_
          rintro e wY ⟨y, rfl, hy, hrdY, hgY⟩
          have HBY := Lib.hid (HBX.out.apart hgY (fun i hi => by injection hi with hi; omega))
          have HGY := Lib.hid (grown_trans HGX.out hgY)
          have hzY := hgY.size
          clear hy hgY hrdX
          by_cases hy0 : y = 0
          · subst hy0
            have hbel : Below wY.heap.size wY (wY.alloc (.cells #[.int .i64 0, .int .i64 0] 3)) := (Below.refl _ _).alloc (Nat.le_refl _) _
            have hR : OwnInts (wY.alloc (.cells #[.int .i64 0, .int .i64 0] 3)) wY.heap.size (wY.alloc (.cells #[.int .i64 0, .int .i64 0] 3)).heap.size (some ⟨wY.heap.size, 0, none⟩) [0, 0] := own_block (e := 3) (heap_alloc_new wY _) (Nat.le_refl _)
            have H4 := Lib.hid (And.intro hbel hR)
            have HG5 := Lib.hid (grown_trans HGY.out (World.grownBy_alloc wY (.cells #[.int .i64 0, .int .i64 0] 3) (some g)))
            have hown5 := (HBY.out.keep hbel).1
            clear hbel hR
            go_wp2_with (at_builtin; refine wpList_push_in rfl (.tmp 66) (.tmp 68) 23 rfl i0 (.slice none 0 0) 24 Try.underlying23 hi0 hz0 hz1 hz2 rfl (by decide) _ _ rfl hown5 [.slice (some ⟨wY.heap.size, 0, none⟩) 2 2] rfl _ (World.size_alloc _ _).symm rfl (by simp [Value.oneCell']) (by omega) (by omega) (by simp; omega) ?_)
            intro H' c' w6 hown6 hg6 hat6
            have HB6 := Lib.hid (HBY.out.push (by omega) H4.out.1 (r := [0, 0]) H4.out.2 (by simp) hown6 hg6 (hat6.imp id (fun ⟨a, h1, h2⟩ => by rw [h1]; simp [h2])))
            have HG6 := Lib.hid (grown_own HG5.out hg6 (fun i hi => by have := (hown5.lt _ hi).1; omega))
            clear hown5 hown6 hg6 hat6
            go_wp2
            go_ret2
            exact ⟨_, H', c', rs ++ [[0, 0]], by simp, HN.out, by simp; omega, HB6.out.cap, two_push HTX.out (by simp), .inr (calls_zero _ _), HB6.out.mgrid.row, HG6.out⟩
          · have hyy : (y == 0) = false := beq_eq_false_iff_ne.2 hy0
            clear hy0
            go_wp2
            go_ret2
            exact ⟨_, H, c, rs, rfl, HN.out, by omega, HBY.out.cap, HTX.out, HDX.out, HBY.out.mgrid.row, HGY.out⟩

        · subst hx
          clear HDX HLEN HTX HB3 HB0
          obtain ⟨m, rfl⟩ : ∃ m : Nat, n = m := ⟨n.toNat, by omega⟩
          have hin : inR (m : Int) 1 7 = true := inR_iff.2 ⟨by omega, by omega⟩
          have hcf := cfI_len (m : Int)
          have hcy := cfI_yes hin
          obtain ⟨q, hq⟩ : ∃ q, cfI (m : Int) = q := ⟨_, rfl⟩
          rw [hq] at hcf hcy
          have HQ := Lib.hid hq
          have HTQ := Lib.hid hcf.2.2
          have hq20 : q.length ≤ 20 := hcf.1
          have HDQ := Lib.hid (show DrCs (m : Int) q from .inl (.inr ⟨m, rfl, by omega, by omega, .inl hcy⟩))
          have HDT := Lib.hid (show DrCs (m : Int) q.tail from .inl (.inr ⟨m, rfl, by omega, by omega, .inr (by rw [hcy])⟩))
          clear hcf hcy hq hin
          go_wp2_with fail
          refine (specCallsFor_any _ _).mono ?_
          rw [HQ.out]
          rintro e w4 ⟨H4', c4, hs4, rfl, hb4, he4⟩
          have hz4' := he4.size
          have HB4 := Lib.hid hb4
          have HG4 := Lib.hid (grown_trans HG3.out (grown_of_belowS he4 (some g)))
          have hrd4 : Rd w4 g (p + 2 + 2 * rs.length + 1) := hrd3.keepB he4
          have hcap4 := hb4.cap
          clear hb4 he4 hrd3
          by_cases hq0 : q.length = 0
          · have hdi : ¬ ((0 : Int) < (q.length : Int)) := by omega
            clear hq0
            obtain ⟨H, hHe⟩ : ∃ H, H4' = H := ⟨_, rfl⟩
            subst hHe
            have hrdX := hrd4
            have HBX := HB4
            have HGX := HG4
            have HTX := HTQ
            have HDX := HDQ
            clear HB4 HG4 hrd4
            go_wp2_with fail
            refine (pick_any g _ 30 _ hrdX (by omega) (by omega)).mono ?_
            rintro e wY ⟨y, rfl, hy, hrdY, hgY⟩
            have HBY := Lib.hid (HBX.out.apart hgY (fun i hi => by injection hi with hi; omega))
            have HGY := Lib.hid (grown_trans HGX.out hgY)
            have hzY := hgY.size
            clear hy hgY hrdX
            by_cases hy0 : y = 0
            · subst hy0
              have hbel : Below wY.heap.size wY (wY.alloc (.cells #[.int .i64 0, .int .i64 0] 3)) := (Below.refl _ _).alloc (Nat.le_refl _) _
              have hR : OwnInts (wY.alloc (.cells #[.int .i64 0, .int .i64 0] 3)) wY.heap.size (wY.alloc (.cells #[.int .i64 0, .int .i64 0] 3)).heap.size (some ⟨wY.heap.size, 0, none⟩) [0, 0] := own_block (e := 3) (heap_alloc_new wY _) (Nat.le_refl _)
              have H4 := Lib.hid (And.intro hbel hR)
              have HG5 := Lib.hid (grown_trans HGY.out (World.grownBy_alloc wY (.cells #[.int .i64 0, .int .i64 0] 3) (some g)))
              have hown5 := (HBY.out.keep hbel).1
              clear hbel hR
              go_wp2_with (at_builtin; refine wpList_push_in rfl (.tmp 66) (.tmp 68) 23 rfl i0 (.slice none 0 0) 24 Try.underlying23 hi0 hz0 hz1 hz2 rfl (by decide) _ _ rfl hown5 [.slice (some ⟨wY.heap.size, 0, none⟩) 2 2] rfl _ (World.size_alloc _ _).symm rfl (by simp [Value.oneCell']) (by omega) (by omega) (by simp; omega) ?_)
              intro H' c' w6 hown6 hg6 hat6
              have HB6 := Lib.hid (HBY.out.push (by omega) H4.out.1 (r := [0, 0]) H4.out.2 (by simp) hown6 hg6 (hat6.imp id (fun ⟨a, h1, h2⟩ => by rw [h1]; simp [h2])))
              have HG6 := Lib.hid (grown_own HG5.out hg6 (fun i hi => by have := (hown5.lt _ hi).1; omega))
              clear hown5 hown6 hg6 hat6
              go_wp2
              go_ret2
              exact ⟨_, H', c', q ++ [[0, 0]], by simp, HN.out, by simp; omega, HB6.out.cap, two_push HTX.out (by simp), .inr (calls_zero _ _), HB6.out.mgrid.row, HG6.out⟩
            · have hyy : (y == 0) = false := beq_eq_false_iff_ne.2 hy0
              clear hy0
              go_wp2
              go_ret2
              exact ⟨_, H4', c4, q, rfl, HN.out, by omega, HBY.out.cap, HTX.out, HDX.out, HBY.out.mgrid.row, HGY.out⟩

          · have hdi : (0 : Int) < (q.length : Int) := by omega
            have hgb := own_some HB4.out.1 (show 0 < q.length by omega)
            obtain ⟨gH, rfl, hgH, _⟩ := hgb
            go_wp2_with fail
            refine (pick_any g _ 2 _ hrd4 (by omega) (by omega)).mono ?_
            rintro e w5 ⟨x2, rfl, hx2, hrd5, hg5⟩
            clear hx2
            have HB5 := Lib.hid (HB4.out.apart hg5 (fun i hi => by injection hi with hi; omega))
            have HG5' := Lib.hid (grown_trans HG4.out hg5)
            have hz5 := hg5.size
            clear hg5 hrd4 HB4 HG4
            by_cases hx2 : x2 = 0
            · subst hx2
              obtain ⟨r0, q', rfl⟩ : ∃ r0 q', q = r0 :: q' := by
                cases q with
                | nil => simp at hq0
                | cons a b => exact ⟨a, b, rfl⟩
              have hql' : (r0 :: q').length = q'.length + 1 := rfl
              have HTX := Lib.hid (show ∀ r ∈ q', r.length ≤ 2 from fun r hr => HTQ.out r (List.mem_cons_of_mem _ hr))
              have HDX := Lib.hid (show DrCs (m : Int) q' from HDT.out)
              have hq19 : q'.length ≤ 19 := by omega
              rw [hql'] at hdi hcap4
              have HSL : ∃ ofs c2 : Nat, ((ofs = 1 ∧ c4 = c2 + 1) ∨ (q'.length = 0 ∧ c2 = 0)) ∧ q'.length ≤ c2 ∧ ∀ X, (Instr.slice 23 (.slice (some ⟨gH, 0, none⟩) (q'.length + 1) c4) (some (.int .i64 1)) none none).run Try.prog X = .ok (.slice (some ⟨gH, ofs, none⟩) q'.length c2) X := by
                by_cases hc1 : c4 = 1
                · have h0 : q'.length = 0 := by omega
                  rw [hc1, h0]
                  exact ⟨0, 0, .inr ⟨rfl, rfl⟩, Nat.le_refl _, fun X => slice_tail1 gH X⟩
                · exact ⟨1, c4 - 1, .inl ⟨rfl, by omega⟩, by omega, fun X => slice_tail2 gH (q'.length + 1) c4 (by omega) (by omega) hc1 X⟩
              obtain ⟨ofs, c2, hoc, hc2l, hsl⟩ := HSL
              have hlen2 : ((r0 :: q').length : Int) = ((q'.length + 1 : Nat) : Int) := rfl
              have hrdX := hrd5
              have HBX := HB5
              have HGX := HG5'
              clear HB5 HG5' hrd5 HDT HDQ HTQ HQ hq0
              rw [hql']
              go_wp2_with fail
              refine (pick_any g _ 30 _ hrdX (by omega) (by omega)).mono ?_
              rintro e wY ⟨y, rfl, hy, hrdY, hgY⟩
              have HBY := Lib.hid (HBX.out.apart hgY (fun i hi => by injection hi with hi; omega))
              have HGY := Lib.hid (grown_trans HGX.out hgY)
              have hzY := hgY.size
              clear hy hgY hrdX
              by_cases hy0 : y = 0
              · subst hy0
                have hbel : Below wY.heap.size wY (wY.alloc (.cells #[.int .i64 0, .int .i64 0] 3)) := (Below.refl _ _).alloc (Nat.le_refl _) _
                have hR : OwnInts (wY.alloc (.cells #[.int .i64 0, .int .i64 0] 3)) wY.heap.size (wY.alloc (.cells #[.int .i64 0, .int .i64 0] 3)).heap.size (some ⟨wY.heap.size, 0, none⟩) [0, 0] := own_block (e := 3) (heap_alloc_new wY _) (Nat.le_refl _)
                have H4 := Lib.hid (And.intro hbel hR)
                have HG5 := Lib.hid (grown_trans HGY.out (World.grownBy_alloc wY (.cells #[.int .i64 0, .int .i64 0] 3) (some g)))
                have hown5 := (HBY.out.keep hbel).1
                have HGH := Lib.hid (hown5.lt gH rfl)
                clear hbel hR
                go_wp2_with (at_builtin; refine wpList_push_cut rfl (.tmp 66) (.tmp 68) 23 rfl i0 (.slice none 0 0) 24 Try.underlying23 hi0 hz0 hz1 hz2 rfl gH ofs q'.length c2 c4 _ rfl hown5 hoc (.slice (some ⟨wY.heap.size, 0, none⟩) 2 2) _ (World.size_alloc _ _).symm rfl rfl (by omega) (by omega) ?_)
                intro A' c' w6 hc6 hown6 hg6
                have HB6 := Lib.hid (HBY.out.cutPush (cR := 2) H4.out.1 (r := [0, 0]) H4.out.2 (by simp) (by rw [List.drop_one]; exact hown6) hg6)
                have HG6 := Lib.hid (grown_own HG5.out hg6 (fun i hi => by injection hi with hi; have := HGH.out.1; omega))
                clear hown5 hown6 hg6
                go_wp2
                go_ret2
                exact ⟨_, A', c', q' ++ [[0, 0]], by simp, HN.out, by simp; omega, by simp; omega, two_push HTX.out (by simp), .inr (calls_zero _ _), HB6.out, HG6.out⟩
              · have hyy : (y == 0) = false := beq_eq_false_iff_ne.2 hy0
                clear hy0
                have HCU := Lib.hid (show Grid wY 0 wY.heap.size (some ⟨gH, ofs, none⟩) q' by
                  rcases hoc with ⟨rfl, _⟩ | ⟨h0, _⟩
                  · exact HBY.out.cut
                  · rw [List.eq_nil_of_length_eq_zero h0]; exact ⟨[], .inl rfl, rfl, fun i hi => by simp at hi⟩)
                go_wp2
                go_ret2
                exact ⟨_, _, c2, q', rfl, HN.out, by omega, by omega, HTX.out, HDX.out, HCU.out, HGY.out⟩

            · have hxx2 : (x2 == 0) = false := beq_eq_false_iff_ne.2 hx2
              have hrdX := hrd5
              have HBX := HB5
              have HGX := HG5'
              have HTX := HTQ
              have HDX := HDQ
              clear HB5 HG5' hrd5 hx2
              go_wp2_with fail
              refine (pick_any g _ 30 _ hrdX (by omega) (by omega)).mono ?_
              rintro e wY ⟨y, rfl, hy, hrdY, hgY⟩
              have HBY := Lib.hid (HBX.out.apart hgY (fun i hi => by injection hi with hi; omega))
              have HGY := Lib.hid (grown_trans HGX.out hgY)
              have hzY := hgY.size
              clear hy hgY hrdX
              by_cases hy0 : y = 0
              · subst hy0
                have hbel : Below wY.heap.size wY (wY.alloc (.cells #[.int .i64 0, .int .i64 0] 3)) := (Below.refl _ _).alloc (Nat.le_refl _) _
                have hR : OwnInts (wY.alloc (.cells #[.int .i64 0, .int .i64 0] 3)) wY.heap.size (wY.alloc (.cells #[.int .i64 0, .int .i64 0] 3)).heap.size (some ⟨wY.heap.size, 0, none⟩) [0, 0] := own_block (e := 3) (heap_alloc_new wY _) (Nat.le_refl _)
                have H4 := Lib.hid (And.intro hbel hR)
                have HG5 := Lib.hid (grown_trans HGY.out (World.grownBy_alloc wY (.cells #[.int .i64 0, .int .i64 0] 3) (some g)))
                have hown5 := (HBY.out.keep hbel).1
                clear hbel hR
                go_wp2_with (at_builtin; refine wpList_push_in rfl (.tmp 66) (.tmp 68) 23 rfl i0 (.slice none 0 0) 24 Try.underlying23 hi0 hz0 hz1 hz2 rfl (by decide) _ _ rfl hown5 [.slice (some ⟨wY.heap.size, 0, none⟩) 2 2] rfl _ (World.size_alloc _ _).symm rfl (by simp [Value.oneCell']) (by omega) (by omega) (by simp; omega) ?_)
                intro H' c' w6 hown6 hg6 hat6
                have HB6 := Lib.hid (HBY.out.push (by omega) H4.out.1 (r := [0, 0]) H4.out.2 (by simp) hown6 hg6 (hat6.imp (fun ⟨a, h1, h2⟩ => by rw [h1]; simp [h2]) (fun ⟨a, h1, h2⟩ => by rw [h1]; simp [h2])))
                have HG6 := Lib.hid (grown_own HG5.out hg6 (fun i hi => by have := (hown5.lt _ hi).1; omega))
                clear hown5 hown6 hg6 hat6
                go_wp2
                go_ret2
                exact ⟨_, H', c', q ++ [[0, 0]], by simp, HN.out, by simp; omega, HB6.out.cap, two_push HTX.out (by simp), .inr (calls_zero _ _), HB6.out.mgrid.row, HG6.out⟩
              · have hyy : (y == 0) = false := beq_eq_false_iff_ne.2 hy0
                clear hy0
                go_wp2
                go_ret2
                exact ⟨_, _, c4, q, rfl, HN.out, by omega, HBY.out.cap, HTX.out, HDX.out, HBY.out.mgrid.row, HGY.out⟩
end Go.Proofs.Ytonnffilcmlodaa
