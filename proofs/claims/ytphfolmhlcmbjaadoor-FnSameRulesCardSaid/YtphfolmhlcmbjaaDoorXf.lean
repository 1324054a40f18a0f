/- Lists of rules: Clone, Grow, Concat. No condition. -/
import Derived.Test.YtphfolmhlcmbjaaDoorXe
import Derived.Test.YtphfolmhlcmbjaaDoorShelf
import Derived.Lib.AppendZerosOnto
import Derived.WalkSpells
namespace Go.Proofs.YtphfolmhlcmbjaaDoor
open Go.RowKit

theorem below_drewU (w : World) : Below w.heap.size w w.drew := ⟨rfl, rfl, rfl, Nat.le_refl _, fun _ _ => rfl⟩
theorem cell_keepU {w w' : World} {g off : Nat} {v : Value} (h : Below w.heap.size w w') (hg : g < w.heap.size) (hc : w.cell? ⟨g, off, none⟩ = some v) : w'.cell? ⟨g, off, none⟩ = some v := cell_stay h hg hc
/-- A list of rules of the call's own, in a block of its own. -/
def KeptU (w : World) (base : Nat) (A : Option Addr) (c : Nat) (ks : List (ByteArray × Int)) : Prop :=
  (ks.length ≤ c ∧ c ≤ 9223372036854775807) ∧ (ks = [] ∨ ∃ g, A = some ⟨g, 0, none⟩ ∧ base ≤ g ∧ g < w.heap.size ∧ Own w (g + 1) (g + 1) (some ⟨g, 0, none⟩) (flat ks))
theorem KeptU.own {w : World} {base : Nat} {A : Option Addr} {c : Nat} {ks : List (ByteArray × Int)} (h : KeptU w base A c ks) : Own w (base + 1) w.heap.size A (flat ks) := by
  rcases h.2 with rfl | ⟨g, rfl, h1, h2, h3⟩
  · exact .inl rfl
  · exact (h3.more (by omega)).less (by omega)
theorem KeptU.keep {w w' : World} {base : Nat} {A : Option Addr} {c : Nat} {ks : List (ByteArray × Int)} (h : KeptU w base A c ks) (hb : Below w.heap.size w w') : KeptU w' base A c ks := by
  refine ⟨h.1, ?_⟩
  rcases h.2 with rfl | ⟨g, rfl, h1, h2, h3⟩
  · exact .inl rfl
  · exact .inr ⟨g, rfl, h1, Nat.lt_of_lt_of_le h2 hb.size, h3.below (hb.mono (by omega))⟩
theorem own_capmU {w : World} {base : Nat} {e : TypeId} {size n c : Nat} {A : Option Addr} {xs : List Value} (h : w.ownsRow base e size (.slice A n c) n xs) : c ≤ 9223372036854775807 := by
  rcases h.2 with ⟨hv, hn0⟩ | ⟨g, cap, cur, hv, _, _, _, hm, _⟩
  · simp only [Value.slice.injEq] at hv; omega
  · simp only [Value.slice.injEq] at hv
    obtain ⟨_, _, rfl⟩ := hv
    unfold maxLen at hm; omega
theorem keptU_of_row {w : World} {base : Nat} {A : Option Addr} {n c : Nat} {ks : List (ByteArray × Int)} (h : w.ownsRow base 31 2 (.slice A n c) n (flat ks)) (hn : n = ks.length) : KeptU w base A c ks := by
  subst hn
  refine ⟨⟨own_cap h, own_capmU h⟩, ?_⟩
  by_cases h0 : ks = []
  · exact .inl h0
  · obtain ⟨g, rfl, h1, h2⟩ := own_some h (List.length_pos_iff.2 h0)
    refine .inr ⟨g, rfl, h1, h2, ?_⟩
    rcases own_rowU h with h3 | ⟨b, o, e, _, _, hc, hf⟩
    · exact .inl h3
    · simp only [Option.some.injEq, Addr.mk.injEq, and_true] at e
      obtain ⟨rfl, rfl⟩ := e
      exact .inr ⟨g, 0, rfl, by omega, by omega, hc, fun _ => hf (by omega)⟩

theorem flatU_ones (rs : List (ByteArray × Int)) : ∀ u ∈ flat rs, u.oneCell' = true := fun u hu => by
  simp only [flat, List.mem_flatMap, List.mem_cons, List.not_mem_nil, or_false] at hu
  obtain ⟨r, _, rfl | rfl⟩ := hu <;> rfl

set_option maxRecDepth 100000 in
set_option maxHeartbeats 1000000 in
theorem cloneU_any (A : Option Addr) (c : Nat) (rs : List (ByteArray × Int)) (w : World) (hr : Own w 0 w.heap.size A (flat rs)) (hl : rs.length ≤ 1048576) :
    Calls Tryd.prog 57 #[.slice A rs.length c] w fun e w' => ∃ A' c', e = .returned (.slice A' rs.length c') ∧ KeptU w' w.heap.size A' c' rs ∧ Below w.heap.size w w' := by
  obtain ⟨i0, hi0, hz0, hz1, hz2⟩ := info_parts Tryd.infoU
  have hown0 : (w.alloc (.cells #[] 31)).ownsRow w.heap.size 31 2 (.slice (some ⟨w.heap.size, 0, none⟩) 0 0) 0 [] := World.ownsRow_lit w #[] 0 (Nat.le_refl _) (by simp [maxLen]) rfl
  have hor := hr.below ((Below.refl _ _).alloc (Nat.le_refl _) (.cells #[] 31))
  have HON := Lib.hid (flatU_ones rs)
  cases A with
  | none =>
    have h0 : rs = [] := by
      rcases hr with h | ⟨_, _, h, _⟩
      · exact List.eq_nil_of_length_eq_zero (by have := flat_length rs; rw [h] at this; simp at this; omega)
      · cases h
    subst h0
    have hnil := fun W : World => Lib.run_eql_slice_nil (P := Tryd.prog) W 23 _ none 0 c 0 0 Tryd.underlying23
    clear hown0 hor hr
    go_enter Tryd.func57, Tryd.ntmps57
    go_wp2
    go_ret
    exact ⟨none, 0, rfl, ⟨⟨Nat.le_refl _, by omega⟩, .inl rfl⟩, Below.refl _ _⟩
  | some a =>
    have hnil := fun W : World => Lib.run_eql_slice_nil (P := Tryd.prog) W 23 _ (some a) rs.length c 0 0 Tryd.underlying23
    clear hr
    go_enter Tryd.func57, Tryd.ntmps57
    go_wp2_with (at_builtin; refine wpList_extend rfl (.tmp 5) (.tmp 6) 23 rfl i0 (.agg #[.string ⟨#[]⟩, .int .i64 0]) 24 Tryd.underlying23 hi0 hz0 hz1 hz2 rfl (by decide) _ _ rfl hown0 _ _ _ _ (flat rs) rfl (by rw [flat_length]; omega) hor HON.out (by omega) (by omega) (by simp) ?_)
    intro A6 c6 w6 hown6 hg6
    have hg56 : w.grownBy w6 none := g_new (World.grownBy_alloc w _ none) hg6 (fun i hi => (hown0.lt _ hi).1)
    have HK := Lib.hid (And.intro (keptU_of_row (ks := rs) (by simpa using hown6) rfl) (below_g hg56 (Nat.le_refl _)))
    clear hown0 hor hown6 hg6 hg56
    go_wp2
    go_ret
    exact ⟨A6, c6, by simp, HK.out.1, HK.out.2⟩

theorem rules_short {rs : List (ByteArray × Int)} (h : rulesB rs = true) : ∀ r ∈ rs, r.1.size ≤ 4 := fun r hr => by
  have := (rulesB_iff.1 h).1 r hr
  simp only [ruleOk, wordB, Bool.and_eq_true, decide_eq_true_eq] at this
  exact this.1.2

/-- What TrimRules answers. -/
def TrimPostU (V : List (ByteArray × Int)) (w : World) (e : Ending) (w' : World) : Prop :=
  ∃ A c, e = .returned (.slice A V.length c) ∧ V.length ≤ c ∧ Own w' (w.heap.size + 1) w'.heap.size A (flat V) ∧ Below w.heap.size w w'
theorem TrimPostU.none {V : List (ByteArray × Int)} (hV : V = []) {w w' : World} (hb : Below w.heap.size w w') : TrimPostU V w (.returned (.slice none 0 0)) w' := by
  subst hV
  exact ⟨Option.none, 0, rfl, Nat.le_refl _, .inl rfl, hb⟩


theorem growU_nil (n : Nat) (w : World) (hn : n ≤ 100) : Calls Tryd.prog 70 #[.slice none 0 0, .int .i64 (n : Int)] w fun e w' => ∃ A cap, e = .returned (.slice A 0 cap) ∧ w'.ownsRow w.heap.size 31 2 (.slice A 0 cap) 0 [] ∧ Below w.heap.size w w' := by
  obtain ⟨i0, hi0, hz0, hz1, hz2⟩ := info_parts Tryd.infoU
  by_cases h0 : n = 0
  · subst h0
    refine (Any8.slices_Grow_room Tryd.growU none 0 0 0 w (Nat.le_refl _) (by omega) (by omega) (by omega)).mono ?_
    rintro e w' ⟨rfl, rfl⟩
    exact ⟨none, 0, rfl, ⟨rfl, .inl ⟨rfl, rfl⟩⟩, Below.refl _ _⟩
  · refine (Any8.slices_Grow_grow Tryd.growU i0 (.agg #[.string ⟨#[]⟩, .int .i64 0]) hi0 hz0 (by omega) none 0 0 n [] w (Nat.le_refl _) (by omega) (by rw [hz2]; omega) (by omega) (by simp) (fun _ => rfl) (fun a h => by cases h)).mono ?_
    rintro e w' ⟨rfl, rfl⟩
    have hge := grownCap_ge w n 0 (Tryd.growU_ren.t 25)
    have hle := grownCap_le_maxLen w (0 + n) 0 31 (by unfold maxLen; omega)
    refine ⟨_, _, rfl, ⟨rfl, .inr ⟨w.heap.size, _, _, rfl, Nat.le_refl _, heap_alloc_new w.drew _, Nat.zero_le _, hle, ?_, by simp⟩⟩, (below_drewU w).trans ((Below.refl w.heap.size w.drew).alloc (show w.heap.size ≤ w.drew.heap.size from Nat.le_refl _) _)⟩
    simp [Builtin.zeroCells, Value.cells]
    omega

/-- The heads of two rows. -/
def szU (a b k : Nat) : Nat := if k = 0 then 0 else if k = 1 then a else a + b
def preU (xs ys : List Value) (k : Nat) : List Value := if k = 0 then [] else if k = 1 then xs else xs ++ ys
set_option maxRecDepth 100000 in
theorem concatU_any (A1 A2 : Option Addr) (a c1 b c2 g B1 B2 : Nat) (xs ys : List Value) (w : World) (hg1 : w.cell? ⟨g, 0, none⟩ = some (.slice A1 a c1)) (hg2 : w.cell? ⟨g, 1, none⟩ = some (.slice A2 b c2)) (hgw : g < w.heap.size)
    (hB1 : B1 ≤ w.heap.size) (hB2 : B2 ≤ w.heap.size) (h1 : Own w 0 B1 A1 xs) (h2 : Own w 0 B2 A2 ys) (hx : xs.length = a * 2) (hy : ys.length = b * 2) (hxc : ∀ u ∈ xs, u.oneCell' = true) (hyc : ∀ u ∈ ys, u.oneCell' = true) (ha : a ≤ 20) (hb : b ≤ 20) :
    Calls Tryd.prog 59 #[.slice (some ⟨g, 0, none⟩) 2 2] w fun e w' => ∃ A c, e = .returned (.slice A (a + b) c) ∧ w'.ownsRow w.heap.size 31 2 (.slice A (a + b) c) (a + b) (xs ++ ys) ∧ Below w.heap.size w w' := by
  obtain ⟨i0, hi0, hz0, hz1, hz2⟩ := info_parts Tryd.infoU
  have HO1 := Lib.hid h1
  have HO2 := Lib.hid h2
  have HG1 := Lib.hid hg1
  have HG2 := Lib.hid hg2
  have HX := Lib.hid (And.intro hx hxc)
  have HY := Lib.hid (And.intro hy hyc)
  clear h1 h2 hx hy hxc hyc hg1 hg2
  go_enter Tryd.func59, Tryd.ntmps59
  go_wp2_with fail
  go_loop [3, 11] (fun v u => ∃ k : Nat, k ≤ 2 ∧ u = .int .i64 (k : Int) ∧ v = .int .i64 ((szU a b k : Nat) : Int)) (fun _ u => 2 - (intOf u).toNat)
  case atStart => exact ⟨0, by omega, rfl, rfl⟩
  case round =>
    obtain ⟨k, hk, rfl, rfl⟩ := hrel
    by_cases hlk : k < 2
    · have hsz : szU a b k ≤ 40 := by unfold szU; split <;> (try split) <;> omega
      by_cases h0 : k = 0
      · subst h0
        have x0 := HG1.out
        have hs : szU a b 0 = 0 := rfl
        have hs1 : szU a b 1 = a := rfl
        have HS1 := Lib.hid hs1
        rw [hs]
        have hw : IntKind.i64.wrap (((0 : Nat) : Int) + (a : Int)) = (a : Int) := by rw [show ((0 : Nat) : Int) + (a : Int) = (a : Int) by omega]; exact IntWalk.i64_in _ (by omega)
        have hw2 : IntKind.i64.wrap ((a : Int)) = (a : Int) := IntWalk.i64_in _ (by omega)
        have hng : ¬ (a : Int) < 0 := by omega
        clear hs hs1 hlk
        go_wp2_with fail
        go_round
        case rel => exact ⟨1, by omega, by go_num, by rw [HS1.out]⟩
        case measure => simp [intOf]
      · have h1 : k = 1 := by omega
        subst h1
        have x0 := HG2.out
        have hs : szU a b 1 = a := rfl
        have hs1 : szU a b 2 = a + b := rfl
        have HS1 := Lib.hid hs1
        rw [hs]
        have hw : IntKind.i64.wrap ((a : Int) + (b : Int)) = (a : Int) + (b : Int) := IntWalk.i64_in _ (by omega)
        have hng : ¬ (a : Int) + (b : Int) < 0 := by omega
        clear hs hs1 hlk
        go_wp2_with fail
        go_round
        case rel => exact ⟨2, by omega, by go_num, by rw [HS1.out]; push_cast; rfl⟩
        case measure => simp [intOf]
    · have hk2 : k = 2 := by omega
      subst hk2
      have hs : szU a b 2 = a + b := rfl
      rw [hs]
      have HGR := Lib.hid (growU_nil (a + b) w (by omega))
      clear hs
      go_wp2_with fail
      refine HGR.out.mono ?_
      rintro e w2 ⟨A0, c0, rfl, hown, hb2⟩
      have HOW := Lib.hid hown
      have HB2 := Lib.hid hb2
      clear hown hb2
      go_wp2_with fail
      go_loopw [6, 27] (fun v u wr => ∃ (k : Nat) (A : Option Addr) (c : Nat), k ≤ 2 ∧ u = .int .i64 (k : Int) ∧ v = .slice A (szU a b k) c ∧ wr.ownsRow w.heap.size 31 2 (.slice A (szU a b k) c) (szU a b k) (preU xs ys k) ∧ Below w.heap.size w wr) (fun _ u _ => 2 - (intOf u).toNat)
      case atStart => exact ⟨0, A0, c0, by omega, rfl, rfl, HOW.out, HB2.out⟩
      case round =>
        obtain ⟨k, A, c, hk, rfl, rfl, hown, hbr⟩ := hrel
        clear HOW HB2
        have HBR := Lib.hid hbr
        have hbz := hbr.size
        by_cases hlk : k < 2
        · by_cases h0 : k = 0
          · subst h0
            have x0 := cell_keepU hbr hgw HG1.out
            have hsrc := HO1.out.below (hbr.mono hB1)
            have hs : szU a b 0 = 0 := rfl
            rw [hs] at hown ⊢
            clear hs hlk hbr
            go_wp2_with (at_builtin; refine wpList_extend rfl (.tmp 31) (.tmp 32) 23 rfl i0 (.agg #[.string ⟨#[]⟩, .int .i64 0]) 24 Tryd.underlying23 hi0 hz0 hz1 hz2 rfl (by decide) _ _ rfl hown A1 a c1 B1 xs rfl (by rw [HX.out.1]) hsrc HX.out.2 (by omega) (by omega) hbz ?_)
            intro A5 c5 w5 hown5 hg5
            have HW := Lib.hid (And.intro (show w5.ownsRow w.heap.size 31 2 (.slice A5 (szU a b 1) c5) (szU a b 1) (preU xs ys 1) by have := hown5; simpa [szU, preU] using this) (HBR.out.grown hg5 hbz (fun i hi => (hown.lt _ hi).1)))
            clear hown hown5 hg5 hsrc
            go_wp2_with fail
            go_roundw
            case rel => exact ⟨1, A5, c5, by omega, by go_num, rfl, HW.out.1, HW.out.2⟩
            case measure => simp [intOf]
          · have h1 : k = 1 := by omega
            subst h1
            have x0 := cell_keepU hbr hgw HG2.out
            have hsrc := HO2.out.below (hbr.mono hB2)
            have hs : szU a b 1 = a := rfl
            rw [hs] at hown ⊢
            clear hs hlk hbr h0
            go_wp2_with (at_builtin; refine wpList_extend rfl (.tmp 31) (.tmp 32) 23 rfl i0 (.agg #[.string ⟨#[]⟩, .int .i64 0]) 24 Tryd.underlying23 hi0 hz0 hz1 hz2 rfl (by decide) _ _ rfl hown A2 b c2 B2 ys rfl (by rw [HY.out.1]) hsrc HY.out.2 (by omega) (by omega) hbz ?_)
            intro A5 c5 w5 hown5 hg5
            have HW := Lib.hid (And.intro (show w5.ownsRow w.heap.size 31 2 (.slice A5 (szU a b 2) c5) (szU a b 2) (preU xs ys 2) by have := hown5; simpa [szU, preU] using this) (HBR.out.grown hg5 hbz (fun i hi => (hown.lt _ hi).1)))
            clear hown hown5 hg5 hsrc
            go_wp2_with fail
            go_roundw
            case rel => exact ⟨2, A5, c5, by omega, by go_num, rfl, HW.out.1, HW.out.2⟩
            case measure => simp [intOf]
        · have hk2 : k = 2 := by omega
          subst hk2
          have hs : szU a b 2 = a + b := rfl
          have hp : preU xs ys 2 = xs ++ ys := rfl
          rw [hs, hp] at hown
          rw [hs]
          have HW := Lib.hid hown
          clear hs hp hown hbr
          go_wp2_with fail
          go_ret
          exact ⟨A, c, rfl, HW.out, HBR.out⟩
end Go.Proofs.YtphfolmhlcmbjaaDoor
