/- Fractions: times, gcd, frac, products. No condition. -/
import Derived.Test.YtonnffilcmlodabVl
import Derived.Test.YtonnffilcmlodabAb
namespace Go.Proofs.Ytonnffilcmlodab
open Go.RowKit

theorem mulF_is (p q : Nat × Nat) : mulF p q = red (p.1 * q.1) (p.2 * q.2) := rfl
theorem cellF_of {w : World} {g : Nat} {x y : Value} (hc : w.heap[g]? = some (.cells #[x, y] 26 (0, 0))) : w.cell? ⟨g, 0, none⟩ = some x ∧ w.cell? ⟨g, 1, none⟩ = some y := ⟨cell_of_row _ _ 0 _ _ _ hc, cell_of_row _ _ 1 _ _ _ hc⟩
theorem lt_of_heapF {w : World} {g : Nat} {o : Obj} (h : w.heap[g]? = some o) : g < w.heap.size := (Array.getElem?_eq_some_iff.1 h).1
theorem keepF {w w' : World} {B b o : Nat} {u : Value} (hb : Below B w w') (h : b < B) (hc : w.cell? ⟨b, o, none⟩ = some u) : w'.cell? ⟨b, o, none⟩ = some u := (hb.cell (p := ⟨b, o, none⟩) h).trans hc
theorem keepFz {w w' : World} {B b o : Nat} (hb : Below B w w') (h : b < B) (hc : w.frozen? ⟨b, o, none⟩ = false) : w'.frozen? ⟨b, o, none⟩ = false := (hb.frozen (p := ⟨b, o, none⟩) h).trans hc

/-- A variable of two numbers, that may be written. -/
def FBox (w : World) (g : Nat) : Prop := ∃ x y, w.cell? ⟨g, 0, none⟩ = some x ∧ w.cell? ⟨g, 1, none⟩ = some y ∧ w.frozen? ⟨g, 0, none⟩ = false ∧ w.frozen? ⟨g, 1, none⟩ = false ∧ g < w.heap.size
theorem FBox.of {w : World} {g : Nat} {x y : Value} (hc : w.heap[g]? = some (.cells #[x, y] 26 (0, 0))) : FBox w g :=
  ⟨x, y, (cellF_of hc).1, (cellF_of hc).2, frozen_of_row _ _ _ _ _ hc, frozen_of_row _ _ _ _ _ hc, lt_of_heapF hc⟩
theorem FBox.keep {w w' : World} {B g : Nat} (h : FBox w g) (hb : Below B w w') (hg : g < B) : FBox w' g := by
  obtain ⟨x, y, h1, h2, h3, h4, h5⟩ := h
  exact ⟨x, y, keepF hb hg h1, keepF hb hg h2, keepFz hb hg h3, keepFz hb hg h4, Nat.lt_of_lt_of_le h5 hb.size⟩
theorem FBox.lt {w : World} {g : Nat} (h : FBox w g) : g < w.heap.size := by obtain ⟨_, _, _, _, _, _, h⟩ := h; exact h
theorem FBox.new (w : World) (x y : Value) : FBox (w.alloc (.cells #[x, y] 26)) w.heap.size := FBox.of (heap_alloc_new _ _)

theorem below3F (w : World) (o1 o2 o3 : Obj) : Below w.heap.size w (((w.alloc o1).alloc o2).alloc o3) := (((Below.refl _ _).alloc (Nat.le_refl _) o1).alloc (by simp) o2).alloc (by simp; omega) o3
theorem size3F (w : World) (o1 o2 o3 : Obj) : (((w.alloc o1).alloc o2).alloc o3).heap.size = w.heap.size + 3 := by simp
theorem box3F (w : World) (o1 o2 : Obj) (x y : Value) : FBox (((w.alloc o1).alloc o2).alloc (.cells #[x, y] 26)) (w.heap.size + 2) := by
  have := FBox.new ((w.alloc o1).alloc o2) x y
  simpa using this

set_option maxRecDepth 100000 in
set_option maxHeartbeats 2000000 in
theorem times_any (p1 p2 q1 q2 : Nat) (w : World) (h1 : p1 * q1 ≤ 1000000000000) (h2 : p2 * q2 ≤ 1000000000000) (h3 : 0 < p2 * q2) :
    Calls Try.prog 38 #[frV (p1, p2), frV (q1, q2)] w fun e w' => e = .returned (frV (mulF (p1, p2) (q1, q2))) ∧ Below w.heap.size w w' := by
  have e1 : (p1 : Int) * (q1 : Int) = ((p1 * q1 : Nat) : Int) := (Int.natCast_mul _ _).symm
  have e2 : (p2 : Int) * (q2 : Int) = ((p2 * q2 : Nat) : Int) := (Int.natCast_mul _ _).symm
  have HM := Lib.hid (mulF_is (p1, p2) (q1, q2))
  obtain ⟨a, ha⟩ : ∃ a, p1 * q1 = a := ⟨_, rfl⟩
  obtain ⟨b, hb⟩ : ∃ b, p2 * q2 = b := ⟨_, rfl⟩
  dsimp only at HM
  rw [ha] at e1 h1 HM
  rw [hb] at e2 h2 h3 HM
  rw [HM.out]
  have HR := Lib.hid (fun X => reduced_any a b X h3 h1 h2)
  obtain ⟨r, hr⟩ : ∃ r, red a b = r := ⟨_, rfl⟩
  rw [hr] at HR ⊢
  clear ha hb hr HM
  obtain ⟨x, y⟩ := r
  unfold frV at HR ⊢
  dsimp only at HR ⊢
  go_enter Try.func38, Try.ntmps38
  go_wp2_with fail
  refine (HR.out _).mono ?_
  rintro e w5 ⟨rfl, hb5⟩
  have hB : Below w.heap.size w w5 := (below3F w _ _ _).trans (hb5.mono (by rw [size3F]; omega))
  obtain ⟨z1, z2, k0, k1, f0, f1, _⟩ := (box3F w _ _ _ _).keep hb5 (by rw [size3F]; omega)
  have HB := Lib.hid hB
  clear hB hb5
  go_wp2
  have hcs := cellsF_set (x := .int .i64 (x : Int)) (y := .int .i64 (y : Int)) k0 k1
  have hbb := (HB.out.setCell (p := ⟨w.heap.size + 2, 0, none⟩) (by show w.heap.size ≤ w.heap.size + 2; omega) (.int .i64 (x : Int))).setCell (p := ⟨w.heap.size + 2, 1, none⟩) (by show w.heap.size ≤ w.heap.size + 2; omega) (.int .i64 (y : Int))
  refine bodyPost_ret (results_cellF rfl rfl (loadFc hcs.1 hcs.2)) rfl ?_
  exact ⟨rfl, hbb⟩

set_option maxRecDepth 100000 in
set_option maxHeartbeats 2000000 in
theorem gcd_any (u d : Nat) (w : World) (hd0 : 0 < d) (hu : u ≤ 1000000000000) (hd : d ≤ 1000000000000) :
    Calls Try.prog 43 #[.int .i64 (u : Int), .int .i64 (d : Int)] w fun e w' => e = .returned (.int .i64 (Nat.gcd u d : Nat)) ∧ w = w' := by
  obtain ⟨g, hg⟩ : ∃ g, Nat.gcd u d = g := ⟨_, rfl⟩
  have HG := Lib.hid hg
  have HG0 := Lib.hid (show 0 < g by rw [← hg]; exact Nat.gcd_pos_of_pos_right _ hd0)
  rw [hg]
  clear hg
  go_enter Try.func43, Try.ntmps43
  go_wp2
  go_loop [0, 1] (fun cm rs => ∃ c r : Nat, cm = .int .i64 (c : Int) ∧ rs = .int .i64 (r : Int) ∧ c ≤ 1000000000000 ∧ r ≤ 1000000000000 ∧ Hid (Nat.gcd c r = g)) (fun _ rs => (intOf rs).toNat)
  case atStart => exact ⟨u, d, rfl, rfl, hu, hd, HG⟩
  case round =>
    obtain ⟨c, r, rfl, rfl, hc, hr, HC⟩ := hrel
    by_cases h : r = 0
    · subst h
      have hcg : c = g := by have := HC.out; rwa [Nat.gcd_zero_right] at this
      subst hcg
      have t0 : (((0 : Nat) : Int) != 0) = false := by simp
      have e1 : max (c : Int) (-(c : Int)) = (c : Int) := by omega
      go_wp2
      go_ret
      exact ⟨rfl, rfl⟩
    · have t0 : ((r : Int) != 0) = true := by simp; omega
      have hr00 : ((r : Int) == 0) = false := by simp; omega
      have HS := Lib.hid (show Nat.gcd r (c % r) = g by rw [gcd_step]; exact HC.out)
      have e1 : (c : Int).tmod (r : Int) = ((c % r : Nat) : Int) := rfl
      have e2 : (c : Int) % (r : Int) = ((c % r : Nat) : Int) := rfl
      have hm : c % r < r := Nat.mod_lt _ (by omega)
      obtain ⟨q, hx⟩ : ∃ q, c % r = q := ⟨_, rfl⟩
      rw [hx] at e1 e2 HS hm
      clear hx
      go_wp2
      go_round
      case rel => exact ⟨r, q, rfl, rfl, hr, by omega, HS⟩
      case measure => simp [intOf]; omega

set_option maxRecDepth 100000 in
set_option maxHeartbeats 2000000 in
theorem frac_any (u d : Nat) (w : World) (hd0 : 0 < d) (hu : u ≤ 1000000000000) (hd : d ≤ 1000000000000) :
    Calls Try.prog 34 #[.int .i64 (u : Int), .int .i64 (d : Int)] w fun e w' => e = .returned (frV (red u d)) ∧ Below w.heap.size w w' := by
  have HR := Lib.hid (show red u d = (u / Nat.gcd u d, d / Nat.gcd u d) from rfl)
  have hg0 : 0 < Nat.gcd u d := Nat.gcd_pos_of_pos_right _ hd0
  have HGC := Lib.hid (fun X => gcd_any u d X hd0 hu hd)
  obtain ⟨g, hg⟩ : ∃ g, Nat.gcd u d = g := ⟨_, rfl⟩
  have hgd : g ≤ d := by rw [← hg]; exact Nat.le_of_dvd hd0 (Nat.gcd_dvd_right _ _)
  rw [hg] at HR hg0 HGC
  obtain ⟨x, hx⟩ : ∃ x, u / g = x := ⟨_, rfl⟩
  obtain ⟨y, hy⟩ : ∃ y, d / g = y := ⟨_, rfl⟩
  have hxb : x ≤ 1000000000000 := by rw [← hx]; exact Nat.le_trans (Nat.div_le_self _ _) hu
  have hyb : y ≤ 1000000000000 := by rw [← hy]; exact Nat.le_trans (Nat.div_le_self _ _) hd
  rw [HR.out, hx, hy]
  have e1 : (u : Int).tdiv (g : Int) = (x : Int) := by rw [← hx]; rfl
  have e2 : (d : Int).tdiv (g : Int) = (y : Int) := by rw [← hy]; rfl
  have t0 : ((g : Int) == 0) = false := by simp; omega
  unfold frV
  dsimp only
  obtain ⟨z1, z2, k0, k1, f0, f1, hz⟩ := FBox.new w (.int .i64 0) (.int .i64 0)
  have HB := Lib.hid (show Below w.heap.size w (w.alloc (.cells #[.int .i64 0, .int .i64 0] 26)) from (Below.refl _ _).alloc (Nat.le_refl _) _)
  obtain ⟨W, hW⟩ : ∃ W, w.alloc (.cells #[.int .i64 0, .int .i64 0] 26) = W := ⟨_, rfl⟩
  rw [hW] at k0 k1 f0 f1 HB hz
  clear hx hy hg hgd hd0
  go_enter Try.func34, Try.ntmps34
  go_wp2_with (go_at_call 43; (with_reducible refine (HGC.out _).mono ?_); rintro e w' ⟨rfl, rfl⟩)
  clear hW
  go_region
  all_goals go_wp2
  have hcs := cellsF_set (x := .int .i64 (x : Int)) (y := .int .i64 (y : Int)) k0 k1
  have hbb := (HB.out.setCell (p := ⟨w.heap.size, 0, none⟩) (by show w.heap.size ≤ w.heap.size; omega) (.int .i64 (x : Int))).setCell (p := ⟨w.heap.size, 1, none⟩) (by show w.heap.size ≤ w.heap.size; omega) (.int .i64 (y : Int))
  refine bodyPost_ret (results_cellF rfl rfl (loadFc (by simpa using hcs.1) (by simpa using hcs.2))) rfl ?_
  exact ⟨rfl, below_drewF hbb⟩
set_option maxRecDepth 100000 in
set_option maxHeartbeats 2000000 in
theorem divisor_any (u d : Nat) (w : World) (hd0 : 0 < d) (hu : u ≤ 1000000000000) (hd : d ≤ 1000000000000) :
    Calls Try.prog 39 #[.int .i64 (u : Int), .int .i64 (d : Int)] w fun e w' => e = .returned (.int .i64 (Nat.gcd u d : Nat)) ∧ w = w' := by
  obtain ⟨g, hg⟩ : ∃ g, Nat.gcd u d = g := ⟨_, rfl⟩
  have HG := Lib.hid hg
  have HG0 := Lib.hid (show 0 < g by rw [← hg]; exact Nat.gcd_pos_of_pos_right _ hd0)
  rw [hg]
  clear hg
  go_enter Try.func39, Try.ntmps39
  go_wp2
  go_loop [0, 1] (fun cm rs => ∃ c r : Nat, cm = .int .i64 (c : Int) ∧ rs = .int .i64 (r : Int) ∧ c ≤ 1000000000000 ∧ r ≤ 1000000000000 ∧ Hid (Nat.gcd c r = g)) (fun _ rs => (intOf rs).toNat)
  case atStart => exact ⟨u, d, rfl, rfl, hu, hd, HG⟩
  case round =>
    obtain ⟨c, r, rfl, rfl, hc, hr, HC⟩ := hrel
    by_cases h : r = 0
    · subst h
      have hcg : c = g := by have := HC.out; rwa [Nat.gcd_zero_right] at this
      subst hcg
      have t0 : (((0 : Nat) : Int) != 0) = false := by simp
      have e1 : max (c : Int) (-(c : Int)) = (c : Int) := by omega
      go_wp2
      go_ret
      exact ⟨rfl, rfl⟩
    · have t0 : ((r : Int) != 0) = true := by simp; omega
      have hr00 : ((r : Int) == 0) = false := by simp; omega
      have HS := Lib.hid (show Nat.gcd r (c % r) = g by rw [gcd_step]; exact HC.out)
      have e1 : (c : Int).tmod (r : Int) = ((c % r : Nat) : Int) := rfl
      have e2 : (c : Int) % (r : Int) = ((c % r : Nat) : Int) := rfl
      have hm : c % r < r := Nat.mod_lt _ (by omega)
      obtain ⟨q, hx⟩ : ∃ q, c % r = q := ⟨_, rfl⟩
      rw [hx] at e1 e2 HS hm
      clear hx
      go_wp2
      go_round
      case rel => exact ⟨r, q, rfl, rfl, hr, by omega, HS⟩
      case measure => simp [intOf]; omega

set_option maxRecDepth 100000 in
set_option maxHeartbeats 2000000 in
theorem fracOf_any (u d : Nat) (w : World) (hd0 : 0 < d) (hu : u ≤ 1000000000000) (hd : d ≤ 1000000000000) :
    Calls Try.prog 17 #[.int .i64 (u : Int), .int .i64 (d : Int)] w fun e w' => e = .returned (frV (red u d)) ∧ Below w.heap.size w w' := by
  have HR := Lib.hid (show red u d = (u / Nat.gcd u d, d / Nat.gcd u d) from rfl)
  have hg0 : 0 < Nat.gcd u d := Nat.gcd_pos_of_pos_right _ hd0
  have HGC := Lib.hid (fun X => divisor_any u d X hd0 hu hd)
  obtain ⟨g, hg⟩ : ∃ g, Nat.gcd u d = g := ⟨_, rfl⟩
  have hgd : g ≤ d := by rw [← hg]; exact Nat.le_of_dvd hd0 (Nat.gcd_dvd_right _ _)
  rw [hg] at HR hg0 HGC
  obtain ⟨x, hx⟩ : ∃ x, u / g = x := ⟨_, rfl⟩
  obtain ⟨y, hy⟩ : ∃ y, d / g = y := ⟨_, rfl⟩
  have hxb : x ≤ 1000000000000 := by rw [← hx]; exact Nat.le_trans (Nat.div_le_self _ _) hu
  have hyb : y ≤ 1000000000000 := by rw [← hy]; exact Nat.le_trans (Nat.div_le_self _ _) hd
  rw [HR.out, hx, hy]
  have e1 : (u : Int).tdiv (g : Int) = (x : Int) := by rw [← hx]; rfl
  have e2 : (d : Int).tdiv (g : Int) = (y : Int) := by rw [← hy]; rfl
  have t0 : ((g : Int) == 0) = false := by simp; omega
  unfold frV
  dsimp only
  obtain ⟨z1, z2, k0, k1, f0, f1, hz⟩ := FBox.new w (.int .i64 0) (.int .i64 0)
  have HB := Lib.hid (show Below w.heap.size w (w.alloc (.cells #[.int .i64 0, .int .i64 0] 26)) from (Below.refl _ _).alloc (Nat.le_refl _) _)
  obtain ⟨W, hW⟩ : ∃ W, w.alloc (.cells #[.int .i64 0, .int .i64 0] 26) = W := ⟨_, rfl⟩
  rw [hW] at k0 k1 f0 f1 HB hz
  clear hx hy hg hgd hd0
  go_enter Try.func17, Try.ntmps17
  go_wp2_with (go_at_call 39; (with_reducible refine (HGC.out _).mono ?_); rintro e w' ⟨rfl, rfl⟩)
  clear hW
  go_region
  all_goals go_wp2
  have hcs := cellsF_set (x := .int .i64 (x : Int)) (y := .int .i64 (y : Int)) k0 k1
  have hbb := (HB.out.setCell (p := ⟨w.heap.size, 0, none⟩) (by show w.heap.size ≤ w.heap.size; omega) (.int .i64 (x : Int))).setCell (p := ⟨w.heap.size, 1, none⟩) (by show w.heap.size ≤ w.heap.size; omega) (.int .i64 (y : Int))
  refine bodyPost_ret (results_cellF rfl rfl (loadFc (by simpa using hcs.1) (by simpa using hcs.2))) rfl ?_
  exact ⟨rfl, below_drewF hbb⟩
end Go.Proofs.Ytonnffilcmlodab
