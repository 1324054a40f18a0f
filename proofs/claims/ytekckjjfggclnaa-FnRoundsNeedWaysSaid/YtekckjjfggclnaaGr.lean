/- slices.Grow of nil, slices.Concat of two. No condition. -/
import Derived.Test.YtekckjjfggclnaaShelf
import Derived.Test.YtekckjjfggclnaaRc2
import Derived.Test.YtekckjjfggclnaaOwn
import Derived.Lib.AppendZerosOnto
namespace Go.Proofs.Ytekckjjfggclnaa
open Go.RowKit

theorem grow_nil (n : Nat) (w : World) (hn : n ≤ 100) : Calls Try.prog 38 #[.slice none 0 0, .int .i64 (n : Int)] w fun e w' => ∃ A cap, e = .returned (.slice A 0 cap) ∧ w'.ownsRow w.heap.size 3 1 (.slice A 0 cap) 0 [] ∧ Below w.heap.size w w' := by
  obtain ⟨i0, hi0, hz0, hz1, hz2⟩ := info_parts Try.info3
  by_cases h0 : n = 0
  · subst h0
    refine (Any8.slices_Grow_room Try.growI none 0 0 0 w (Nat.le_refl _) (by omega) (by omega) (by omega)).mono ?_
    rintro e w' ⟨rfl, rfl⟩
    exact ⟨none, 0, rfl, ⟨rfl, .inl ⟨rfl, rfl⟩⟩, Below.refl _ _⟩
  · refine (Any8.slices_Grow_grow Try.growI i0 (.int .i64 0) hi0 hz0 (by omega) none 0 0 n [] w (Nat.le_refl _) (by omega) (by rw [hz2]; omega) (by omega) (by simp) (fun _ => rfl) (fun a h => by cases h)).mono ?_
    rintro e w' ⟨rfl, rfl⟩
    have hge := grownCap_ge w n 0 (Try.growI_ren.t 25)
    have hle := grownCap_le_maxLen w (0 + n) 0 3 (by unfold maxLen; omega)
    refine ⟨_, _, rfl, ⟨rfl, .inr ⟨w.heap.size, _, _, rfl, Nat.le_refl _, heap_alloc_new w.drew _, Nat.zero_le _, hle, ?_, by simp⟩⟩, (below_drewT w).trans ((Below.refl w.heap.size w.drew).alloc (show w.heap.size ≤ w.drew.heap.size from Nat.le_refl _) _)⟩
    simp [Builtin.zeroCells, Value.cells]
    omega

/-- The heads of two rows. -/
def szK (a b k : Nat) : Nat := if k = 0 then 0 else if k = 1 then a else a + b
def preK (xs ys : List Value) (k : Nat) : List Value := if k = 0 then [] else if k = 1 then xs else xs ++ ys
set_option maxRecDepth 100000 in
theorem concat_any (A1 A2 : Option Addr) (a c1 b c2 g B1 B2 : Nat) (xs ys : List Value) (w : World) (hg1 : w.cell? ⟨g, 0, none⟩ = some (.slice A1 a c1)) (hg2 : w.cell? ⟨g, 1, none⟩ = some (.slice A2 b c2)) (hgw : g < w.heap.size)
    (hB1 : B1 ≤ w.heap.size) (hB2 : B2 ≤ w.heap.size) (h1 : Own w 0 B1 A1 xs) (h2 : Own w 0 B2 A2 ys) (hx : xs.length = a) (hy : ys.length = b) (hxc : ∀ u ∈ xs, u.oneCell' = true) (hyc : ∀ u ∈ ys, u.oneCell' = true) (ha : a ≤ 20) (hb : b ≤ 20) :
    Calls Try.prog 32 #[.slice (some ⟨g, 0, none⟩) 2 2] w fun e w' => ∃ A c, e = .returned (.slice A (a + b) c) ∧ w'.ownsRow w.heap.size 3 1 (.slice A (a + b) c) (a + b) (xs ++ ys) ∧ Below w.heap.size w w' := by
  obtain ⟨i0, hi0, hz0, hz1, hz2⟩ := info_parts Try.info3
  have HO1 := Lib.hid h1
  have HO2 := Lib.hid h2
  have HG1 := Lib.hid hg1
  have HG2 := Lib.hid hg2
  have HX := Lib.hid (And.intro hx hxc)
  have HY := Lib.hid (And.intro hy hyc)
  clear h1 h2 hx hy hxc hyc hg1 hg2
  go_enter Try.func32, Try.ntmps32
  go_wp2_with fail
  go_loop [3, 11] (fun v u => ∃ k : Nat, k ≤ 2 ∧ u = .int .i64 (k : Int) ∧ v = .int .i64 ((szK a b k : Nat) : Int)) (fun _ u => 2 - (intOf u).toNat)
  case atStart => exact ⟨0, by omega, rfl, rfl⟩
  case round =>
    obtain ⟨k, hk, rfl, rfl⟩ := hrel
    by_cases hlk : k < 2
    · have hsz : szK a b k ≤ 40 := by unfold szK; split <;> (try split) <;> omega
      by_cases h0 : k = 0
      · subst h0
        have x0 := HG1.out
        have hs : szK a b 0 = 0 := rfl
        have hs1 : szK a b 1 = a := rfl
        have HS1 := Lib.hid hs1
        rw [hs]
        have hw : IntKind.i64.wrap (((0 : Nat) : Int) + (a : Int)) = (a : Int) := by rw [show ((0 : Nat) : Int) + (a : Int) = (a : Int) by omega]; exact IntWalk.i64_in _ (by omega)
        have hw2 : IntKind.i64.wrap ((a : Int)) = (a : Int) := IntWalk.i64_in _ (by omega)
        have hng : ¬ (a : Int) < 0 := by omega
        clear hs hs1 hlk
        go_wp2_with fail
        go_round
        case rel => exact ⟨1, by omega, by go_num, by rw [HS1.out]⟩
        case measure => simp [intOf]
      · have h1 : k = 1 := by omega
        subst h1
        have x0 := HG2.out
        have hs : szK a b 1 = a := rfl
        have hs1 : szK a b 2 = a + b := rfl
        have HS1 := Lib.hid hs1
        rw [hs]
        have hw : IntKind.i64.wrap ((a : Int) + (b : Int)) = (a : Int) + (b : Int) := IntWalk.i64_in _ (by omega)
        have hng : ¬ (a : Int) + (b : Int) < 0 := by omega
        clear hs hs1 hlk
        go_wp2_with fail
        go_round
        case rel => exact ⟨2, by omega, by go_num, by rw [HS1.out]; push_cast; rfl⟩
        case measure => simp [intOf]
    · have hk2 : k = 2 := by omega
      subst hk2
      have hs : szK a b 2 = a + b := rfl
      rw [hs]
      have HGR := Lib.hid (grow_nil (a + b) w (by omega))
      clear hs
      go_wp2_with fail
      refine HGR.out.mono ?_
      rintro e w2 ⟨A0, c0, rfl, hown, hb2⟩
      have HOW := Lib.hid hown
      have HB2 := Lib.hid hb2
      clear hown hb2
      go_wp2_with fail
      go_loopw [6, 27] (fun v u wr => ∃ (k : Nat) (A : Option Addr) (c : Nat), k ≤ 2 ∧ u = .int .i64 (k : Int) ∧ v = .slice A (szK a b k) c ∧ wr.ownsRow w.heap.size 3 1 (.slice A (szK a b k) c) (szK a b k) (preK xs ys k) ∧ Below w.heap.size w wr) (fun _ u _ => 2 - (intOf u).toNat)
      case atStart => exact ⟨0, A0, c0, by omega, rfl, rfl, HOW.out, HB2.out⟩
      case round =>
        obtain ⟨k, A, c, hk, rfl, rfl, hown, hbr⟩ := hrel
        clear HOW HB2
        have HBR := Lib.hid hbr
        have hbz := hbr.size
        by_cases hlk : k < 2
        · by_cases h0 : k = 0
          · subst h0
            have x0 := cell_keep hbr hgw HG1.out
            have hsrc := HO1.out.below (hbr.mono hB1)
            have hs : szK a b 0 = 0 := rfl
            rw [hs] at hown ⊢
            clear hs hlk hbr
            go_wp2_with (at_builtin; refine wpList_extend rfl (.tmp 31) (.tmp 32) 32 rfl i0 (.int .i64 0) 8 Try.underlying32 hi0 hz0 hz1 hz2 rfl (by decide) _ _ rfl hown A1 a c1 B1 xs rfl (by rw [HX.out.1, Nat.mul_one]) hsrc HX.out.2 (by omega) (by omega) hbz ?_)
            intro A5 c5 w5 hown5 hg5
            have HW := Lib.hid (And.intro (show w5.ownsRow w.heap.size 3 1 (.slice A5 (szK a b 1) c5) (szK a b 1) (preK xs ys 1) by have := hown5; simpa [szK, preK] using this) (HBR.out.grown hg5 hbz (fun i hi => (hown.lt _ hi).1)))
            clear hown hown5 hg5 hsrc
            go_wp2_with fail
            go_roundw
            case rel => exact ⟨1, A5, c5, by omega, by go_num, rfl, HW.out.1, HW.out.2⟩
            case measure => simp [intOf]
          · have h1 : k = 1 := by omega
            subst h1
            have x0 := cell_keep hbr hgw HG2.out
            have hsrc := HO2.out.below (hbr.mono hB2)
            have hs : szK a b 1 = a := rfl
            rw [hs] at hown ⊢
            clear hs hlk hbr h0
            go_wp2_with (at_builtin; refine wpList_extend rfl (.tmp 31) (.tmp 32) 32 rfl i0 (.int .i64 0) 8 Try.underlying32 hi0 hz0 hz1 hz2 rfl (by decide) _ _ rfl hown A2 b c2 B2 ys rfl (by rw [HY.out.1, Nat.mul_one]) hsrc HY.out.2 (by omega) (by omega) hbz ?_)
            intro A5 c5 w5 hown5 hg5
            have HW := Lib.hid (And.intro (show w5.ownsRow w.heap.size 3 1 (.slice A5 (szK a b 2) c5) (szK a b 2) (preK xs ys 2) by have := hown5; simpa [szK, preK] using this) (HBR.out.grown hg5 hbz (fun i hi => (hown.lt _ hi).1)))
            clear hown hown5 hg5 hsrc
            go_wp2_with fail
            go_roundw
            case rel => exact ⟨2, A5, c5, by omega, by go_num, rfl, HW.out.1, HW.out.2⟩
            case measure => simp [intOf]
        · have hk2 : k = 2 := by omega
          subst hk2
          have hs : szK a b 2 = a + b := rfl
          have hp : preK xs ys 2 = xs ++ ys := rfl
          rw [hs, hp] at hown
          rw [hs]
          have HW := Lib.hid hown
          clear hs hp hown hbr
          go_wp2_with fail
          go_ret
          exact ⟨A, c, rfl, HW.out, HBR.out⟩
end Go.Proofs.Ytekckjjfggclnaa
