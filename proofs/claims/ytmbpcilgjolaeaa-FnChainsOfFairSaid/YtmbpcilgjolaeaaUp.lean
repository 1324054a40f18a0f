/- spec.chainFrom. No condition. -/
import Derived.Test.YtmbpcilgjolaeaaUm
import Derived.Test.YtmbpcilgjolaeaaUe
import Derived.Test.YtmbpcilgjolaeaaN9i
import Derived.Test.YtmbpcilgjolaeaaS9
import Derived.Deep.RegionHeld3
namespace Go.Proofs.Ytmbpcilgjolaeaa
open Go.RowKit

section
variable {D : Nat → Nat → Int} {n k s x : Nat} {left : Int}
def searchF (D : Nat → Nat → Int) (n k s x : Nat) (left : Int) (m : Nat) : Option (List Nat) := if m = x ∨ left < D x m then none else (search D n k s m (left - D x m)).map (m :: ·)
theorem search_more : search D n k (s + 1) x left = (List.range n).findSome? (searchF D n k s x left) := rfl
theorem range_none {f : Nat → Option (List Nat)} {m : Nat} (h : (List.range m).findSome? f = none) (h2 : f m = none) : (List.range (m + 1)).findSome? f = none := by
  rw [List.range_succ, List.findSome?_append, h]; simp [h2]
theorem range_some {f : Nat → Option (List Nat)} {m : Nat} {t : List Nat} (h : (List.range m).findSome? f = none) (h2 : f m = some t) : ∀ d, (List.range (m + 1 + d)).findSome? f = some t
  | 0 => by rw [Nat.add_zero, List.range_succ, List.findSome?_append, h]; simp [h2]
  | d + 1 => by
    rw [← Nat.add_assoc, List.range_succ, List.findSome?_append, range_some h h2 d]; rfl
end
/-- What 'spec.chainFrom' answers. -/
def ChP (D : Nat → Nat → Int) (n k s x : Nat) (left : Int) (hd : List Nat) (base : Nat) (w : World) (e : Ending) (w' : World) : Prop :=
  Below w.heap.size w w' ∧ ((∃ T A' c', search D n k s x left = some T ∧ e = .returned (.tuple #[.slice A' (hd.length + 1 + s) c', .bool true]) ∧ hd.length + 1 + s ≤ c' ∧ OwnInts w' base w'.heap.size A' (ints (hd ++ x :: T))) ∨ (search D n k s x left = none ∧ ∃ v, e = .returned (.tuple #[v, .bool false])))
theorem ChP.way {D : Nat → Nat → Int} {n k s x : Nat} {left : Int} {hd : List Nat} {base : Nat} {w w' : World} {e : Ending} (h : ChP D n k s x left hd base w e w') :
    ∃ v b, e = .returned (.tuple #[v, .bool b]) ∧ Below w.heap.size w w' ∧ Hid ((b = true → ∃ T A' c', search D n k s x left = some T ∧ v = .slice A' (hd.length + 1 + s) c' ∧ hd.length + 1 + s ≤ c' ∧ OwnInts w' base w'.heap.size A' (ints (hd ++ x :: T))) ∧ (b = false → search D n k s x left = none)) := by
  obtain ⟨h1, ⟨T, A', c', h2, h3, h4, h5⟩ | ⟨h2, v, h3⟩⟩ := h
  · exact ⟨_, true, h3, h1, Lib.hid ⟨fun _ => ⟨T, A', c', h2, rfl, h4, h5⟩, fun h => Bool.noConfusion h⟩⟩
  · exact ⟨v, false, h3, h1, Lib.hid ⟨fun h => Bool.noConfusion h, fun _ => h2⟩⟩
theorem ints_app (a b : List Nat) : ints (a ++ b) = ints a ++ ints b := by simp [ints]
theorem ints_cells (l : List Nat) : ∀ u ∈ (ints l).map (Value.int .i64), u.oneCell' = true := fun u hu => by
  obtain ⟨z, _, rfl⟩ := List.mem_map.1 hu; rfl

set_option maxRecDepth 100000 in
set_option maxHeartbeats 16000000 in
theorem chainFrom_any (D : Nat → Nat → Int) (n k : Nat) (hm : RM n D) (hk : k < n) (s : Nat) : ∀ (z : Int) (A B : Option Addr) (c cB L : Nat) (hd : List Nat) (x : Nat) (left : Int) (base : Nat) (w : World), z = (s : Int) → s ≤ 5 → hd.length = L → L + s ≤ 10 → x < n → 0 ≤ left → left ≤ 1000 → base ≤ w.heap.size → L + 1 ≤ cB →
    Grid w 0 w.heap.size A (mat n D) → OwnInts w base w.heap.size B (ints (hd ++ [x])) →
    Calls Try.prog 51 #[.slice A n c, .slice B (L + 1) cB, .int .i64 (k : Int), .int .i64 left, .int .i64 z] w (ChP D n k s x left hd base w) := by
  have hn1 := hm.n1
  have hn5 := hm.n5
  have HM := Lib.hid hm
  clear hm
  induction s with
  | zero =>
    intro z A B c cB L hd x left base w hz hs5 hL hL10 hx hl0 hl1 hbase hcB hgr hown
    obtain ⟨bB, oB, rfl, hbB, hcells⟩ := hown.open (by simp [ints_len])
    have x1 := hcells L (.int .i64 (x : Int)) (by rw [ints_app, List.map_append, List.getElem?_append_right (by simp [ints_len]; omega)]; simp [hL, ints])
    have HO := Lib.hid hown
    have HC := Lib.hid hcB
    have hze : (z == 0) = true := by rw [hz]; rfl
    have hw : IntKind.i64.wrap ((L : Int) + 1 - 1) = (L : Int) := by rw [Int.add_sub_cancel]; exact IntWalk.i64_in _ (by omega)
    have hL0 : (0 : Int) ≤ L := by omega
    have HL := Lib.hid hL
    clear hown hcells hgr hcB hL hz
    by_cases hxk : x = k
    · have hxe : ((x : Int) == (k : Int)) = true := by rw [hxk]; simp
      by_cases hlz : left = 0
      · have hle : (left == 0) = true := by rw [hlz]; rfl
        have HS := Lib.hid (show search D n k 0 x left = some [] by simp only [search]; rw [if_pos ⟨hxk, hlz⟩])
        clear hxk hlz
        go_enter Try.func51, Try.ntmps51
        go_wp2_with fail
        go_ret2
        exact ⟨Below.refl _ _, .inl ⟨[], _, cB, HS.out, by rw [HL.out]; rfl, by rw [HL.out]; exact HC.out, HO.out⟩⟩
      · have hle : (left == 0) = false := by simpa using hlz
        have HS := Lib.hid (show search D n k 0 x left = none by simp only [search]; rw [if_neg (fun h => hlz h.2)])
        clear hxk hlz
        go_enter Try.func51, Try.ntmps51
        go_wp2_with fail
        go_ret2
        exact ⟨Below.refl _ _, .inr ⟨HS.out, _, rfl⟩⟩
    · have hxe : ((x : Int) == (k : Int)) = false := by simp; omega
      have HS := Lib.hid (show search D n k 0 x left = none by simp only [search]; rw [if_neg (fun h => hxk h.1)])
      clear hxk
      go_enter Try.func51, Try.ntmps51
      go_wp2_with fail
      go_ret2
      exact ⟨Below.refl _ _, .inr ⟨HS.out, _, rfl⟩⟩
  | succ s ih =>
    intro z A B c cB L hd x left base w hz hs5 hL hL10 hx hl0 hl1 hbase hcB hgr hown
    obtain ⟨i0, hi0, hz0, hz1, hz2⟩ := info_parts Try.info3
    have HIH := Lib.hid ih
    clear ih
    obtain ⟨bB, oB, rfl, hbB, hcells⟩ := hown.open (by simp [ints_len])
    have x1 := hcells L (.int .i64 (x : Int)) (by rw [ints_app, List.map_append, List.getElem?_append_right (by simp [ints_len]; omega)]; simp [hL, ints])
    obtain ⟨bA, oA, p, q, cc, rfl, hsq⟩ := hgr.sq (by omega)
    have HSQ := Lib.hid hsq
    have HGR := Lib.hid hgr
    have HO := Lib.hid hown
    have hze : (z == 0) = false := by rw [hz]; simp; omega
    have hw : IntKind.i64.wrap ((L : Int) + 1 - 1) = (L : Int) := by rw [Int.add_sub_cancel]; exact IntWalk.i64_in _ (by omega)
    have hL0 : (0 : Int) ≤ L := by omega
    have HL := Lib.hid hL
    have hzw : IntKind.i64.wrap (z - 1) = z - 1 := IntWalk.i64_in _ (by omega)
    have HZ := Lib.hid (show z - 1 = (s : Int) by omega)
    clear hown hcells hgr hsq hL hz
    go_enter Try.func51, Try.ntmps51
    go_wp2_with fail
    go_loopw [13] (fun v wr => ∃ m : Nat, m ≤ n ∧ v = .int .i64 (m : Int) ∧ Hid ((List.range m).findSome? (searchF D n k s x left) = none) ∧ Below w.heap.size w wr) (fun v _ => n - (intOf v).toNat)
    case atStart => exact ⟨0, by omega, rfl, Lib.hid rfl, Below.refl _ _⟩
    case round =>
      obtain ⟨m, hmn, rfl, HN, hbr⟩ := hrel
      have HBR := Lib.hid hbr
      have hbz := hbr.size
      clear x1 hw hze
      by_cases hlm : m < n
      · obtain ⟨_, hall⟩ := HSQ.out.below hbr
        obtain ⟨y1, y2, y3⟩ := hall x hx
        have y4 := y3 m hlm
        have d1 := HM.out.lo x m hx hlm
        have d2 := HM.out.hi x m hx hlm
        have HSF := Lib.hid (show searchF D n k s x left m = if m = x ∨ left < D x m then none else (search D n k s m (left - D x m)).map (m :: ·) from rfl)
        obtain ⟨d, hd⟩ : ∃ d, D x m = d := ⟨_, rfl⟩
        rw [hd] at y4 d1 d2 HSF
        have j1 : (0 : Int) ≤ x := by omega
        have j2 : (x : Int) < n := by omega
        have j3 : (0 : Int) ≤ m := by omega
        have j4 : (m : Int) < n := by omega
        clear hall y3 hd hbr
        by_cases hmx : m = x
        · have hme : ((m : Int) == (x : Int)) = true := by rw [hmx]; simp
          have HN2 := Lib.hid (range_none HN.out (by rw [HSF.out, if_pos (.inl hmx)]))
          clear hmx
          go_wp2_with fail
          go_roundw
          case rel => exact ⟨m + 1, by omega, by go_num, Lib.hid HN2.out, HBR.out⟩
          case measure => simp [intOf]; omega
        · have hme : ((m : Int) == (x : Int)) = false := by simp; omega
          by_cases hld : left < d
          · have hde : decide (left < d) = true := decide_eq_true hld
            have HN2 := Lib.hid (range_none HN.out (by rw [HSF.out, if_pos (.inr hld)]))
            clear hmx hld
            go_wp2_with fail
            go_roundw
            case rel => exact ⟨m + 1, by omega, by go_num, Lib.hid HN2.out, HBR.out⟩
            case measure => simp [intOf]; omega
          · have hde : decide (left < d) = false := decide_eq_false hld
            have HSF2 := Lib.hid (show searchF D n k s x left m = (search D n k s m (left - d)).map (m :: ·) by rw [HSF.out, if_neg (by omega)])
            have hwd : IntKind.i64.wrap (left - d) = left - d := IntWalk.i64_in _ (by omega)
            have HKEEP := Lib.hid (fun (X : World) (hX : Below wr.heap.size wr X) => show X.cell? ⟨bA, oA + x, none⟩ = some (.slice (some ⟨p x, q x, none⟩) n (cc x)) ∧ X.cell? ⟨p x, q x + m, none⟩ = some (.int .i64 d) from ⟨cell_keep (hX.mono (Nat.le_refl _)) (by have := HSQ.out.1; omega) y1, cell_keep hX (by omega) y4⟩)
            have hsrc : Own wr 0 wr.heap.size (some ⟨bB, oB, none⟩) ((ints (hd ++ [x])).map (Value.int .i64)) := ((HO.out.row.below HBR.out).more hbz)
            have HSR := Lib.hid hsrc
            have HIL := Lib.hid (show ((ints (hd ++ [x])).map (Value.int .i64)).length = (L + 1) * 1 by rw [List.length_map, ints_len, List.length_append, HL.out]; simp)
            have HCALL := Lib.hid (fun (W : World) (hW : Below wr.heap.size wr W) (A3 : Option Addr) (c3 : Nat) (h3 : W.ownsRow wr.heap.size 3 1 (.slice A3 (L + 1 + 1) c3) (L + 1 + 1) ((ints (hd ++ [x])).map (Value.int .i64) ++ [.int .i64 (m : Int)])) => HIH.out (z - 1) (some ⟨bA, oA, none⟩) A3 c c3 (L + 1) (hd ++ [x]) m (left - d) wr.heap.size W HZ.out (by omega) (by rw [List.length_append, HL.out]; rfl) (by omega) hlm (by omega) (by omega) hW.size (own_cap h3) ((HGR.out.below (HBR.out.trans (hW.mono hbz))).more (by have := hW.size; omega)) (by
              have := own_row_cells (xs := ints ((hd ++ [x]) ++ [m])) (by rw [ints_app, List.map_append]; exact h3)
              exact this))
            clear hsrc hmx hld
            go_wp2_with fail
            go_region_held3 (fun w' => w'.cell? ⟨bA, oA + x, none⟩ = some (.slice (some ⟨p x, q x, none⟩) n (cc x)) ∧ w'.cell? ⟨p x, q x + m, none⟩ = some (.int .i64 d))
              (exact HKEEP.out _ (by first | exact HB5.out | exact below_g hgB (Nat.le_refl _) | exact below_g (g_alloc hgA _) (Nat.le_refl _) | exact below_g hgA (Nat.le_refl _) | exact below_g (g_alloc (g_alloc (g_drew (World.grownBy.refl wr none)) _) _) (Nat.le_refl _) | exact below_g (g_alloc (g_drew (World.grownBy.refl wr none)) _) (Nat.le_refl _) | exact below_g (g_drew (World.grownBy.refl wr none)) (Nat.le_refl _) | exact Below.refl _ _))
              (first
              | (refine step_extend (w := wr.drew.alloc (.cells #[] 3)) (by rfl) (.tmp 54) (.tmp 55) 27 (by rfl) i0 (.int .i64 0) 8 Try.underlying27 hi0 hz0 hz1 hz2 rfl (by decide) _ _ (by rfl) (first_lit _ wr.heap.size (Nat.le_refl _)) _ _ _ _ _ (by rfl) HIL.out (HSR.out.grownN (Nat.le_refl _) (g_alloc (g_drew (World.grownBy.refl wr none)) _)) (ints_cells _) (by omega) (by omega) (g_alloc (g_drew (World.grownBy.refl wr none)) _).size ?_; intro A2 c2 w2 hown2 hg2; simp only [Nat.zero_add]; have hgA : wr.grownBy w2 none := g_new (g_alloc (g_drew (World.grownBy.refl wr none)) _) hg2 (fun i hi => ((first_lit wr.drew wr.heap.size (Nat.le_refl _)).lt _ hi).1); have hown2' : w2.ownsRow wr.heap.size 3 1 (.slice A2 (L + 1) c2) (L + 1) ((ints (hd ++ [x])).map (Value.int .i64)) := (by simpa using hown2))
              | (refine step_extend (w := (wr.drew.alloc (.cells #[] 3)).alloc (.cells #[.int .i64 (m : Int)] 3)) (by rfl) (.tmp 54) (.tmp 55) 27 (by rfl) i0 (.int .i64 0) 8 Try.underlying27 hi0 hz0 hz1 hz2 rfl (by decide) _ _ (by rfl) ((first_lit _ wr.heap.size (Nat.le_refl _)).alloc _) _ _ _ _ _ (by rfl) HIL.out (HSR.out.grownN (Nat.le_refl _) (g_alloc (g_alloc (g_drew (World.grownBy.refl wr none)) _) _)) (ints_cells _) (by omega) (by omega) (g_alloc (g_alloc (g_drew (World.grownBy.refl wr none)) _) _).size ?_; intro A2 c2 w2 hown2 hg2; simp only [Nat.zero_add]; have hgA : wr.grownBy w2 none := g_new (g_alloc (g_alloc (g_drew (World.grownBy.refl wr none)) _) _) hg2 (fun i hi => (((first_lit wr.drew wr.heap.size (Nat.le_refl _)).alloc (.cells #[.int .i64 (m : Int)] 3)).lt _ hi).1); have hown2' : w2.ownsRow wr.heap.size 3 1 (.slice A2 (L + 1) c2) (L + 1) ((ints (hd ++ [x])).map (Value.int .i64)) := (by simpa using hown2); have hsb : Own w2 0 (wr.heap.size + 2) (some ⟨wr.heap.size + 1, 0, none⟩) [.int .i64 (m : Int)] := src_b wr.drew _ #[.int .i64 (m : Int)] 3 hg2)
              | (refine step_extend (w := (wr.drew.alloc (.cells #[.int .i64 (m : Int)] 3)).alloc (.cells #[] 3)) (by rfl) (.tmp 54) (.tmp 55) 27 (by rfl) i0 (.int .i64 0) 8 Try.underlying27 hi0 hz0 hz1 hz2 rfl (by decide) _ _ (by rfl) (first_lit' _ wr.heap.size (wr.heap.size + 1) (g_alloc (g_drew (World.grownBy.refl wr none)) _).size (World.size_alloc _ _)) _ _ _ _ _ (by rfl) HIL.out (HSR.out.grownN (Nat.le_refl _) (g_alloc (g_alloc (g_drew (World.grownBy.refl wr none)) _) _)) (ints_cells _) (by omega) (by omega) (g_alloc (g_alloc (g_drew (World.grownBy.refl wr none)) _) _).size ?_; intro A2 c2 w2 hown2 hg2; simp only [Nat.zero_add]; have hgA : wr.grownBy w2 none := g_new (g_alloc (g_alloc (g_drew (World.grownBy.refl wr none)) _) _) hg2 (fun i hi => ((first_lit' (wr.drew.alloc (.cells #[.int .i64 (m : Int)] 3)) wr.heap.size (wr.heap.size + 1) (g_alloc (g_drew (World.grownBy.refl wr none)) _).size (World.size_alloc _ _)).lt _ hi).1); have hown2' : w2.ownsRow wr.heap.size 3 1 (.slice A2 (L + 1) c2) (L + 1) ((ints (hd ++ [x])).map (Value.int .i64)) := (by simpa using hown2); have hsb : Own w2 0 (wr.heap.size + 1) (some ⟨wr.heap.size, 0, none⟩) [.int .i64 (m : Int)] := src_c wr.drew _ #[.int .i64 (m : Int)] 3 hg2)
              | (refine step_extend (w := w2) (by rfl) (.tmp 56) (.tmp 58) 27 (by rfl) i0 (.int .i64 0) 8 Try.underlying27 hi0 hz0 hz1 hz2 rfl (by decide) _ _ (by rfl) hown2' _ _ _ _ [.int .i64 (m : Int)] (by rfl) (by simp) hsb (by simp [Value.oneCell']) (by omega) (by omega) hgA.size ?_; intro A3 c3 w3 hown3 hg3; have hgB : wr.grownBy w3 none := g_new hgA hg3 (fun i hi => (hown2'.lt _ hi).1))
              | (refine step_extend (w := w2.alloc (.cells #[.int .i64 (m : Int)] 3)) (by rfl) (.tmp 56) (.tmp 58) 27 (by rfl) i0 (.int .i64 0) 8 Try.underlying27 hi0 hz0 hz1 hz2 rfl (by decide) _ _ (by rfl) (hown2'.alloc _) _ _ _ _ [.int .i64 (m : Int)] (by rfl) (by simp) (own_new w2 #[.int .i64 (m : Int)] 3) (by simp [Value.oneCell']) (by omega) (by omega) (g_alloc hgA _).size ?_; intro A3 c3 w3 hown3 hg3; have hgB : wr.grownBy w3 none := g_new (g_alloc hgA _) hg3 (fun i hi => (hown2'.lt _ hi).1))
              | (go_at_call 51; refine (HCALL.out _ (below_g hgB (Nat.le_refl _)) A3 c3 hown3).mono ?_; intro e w5 hpost; obtain ⟨v5, b5, rfl, hb5, HRES⟩ := hpost.way; have HB5 := Lib.hid ((below_g hgB (Nat.le_refl _)).trans (hb5.mono hgB.size)); clear hb5 hpost))
            all_goals
              have HBW := Lib.hid (HBR.out.trans (HB5.out.mono hbz))
              cases b5 with
              | true =>
                obtain ⟨T, A', c', hs1, hv, hc1, ho1⟩ := HRES.out.1 rfl
                obtain ⟨Q, hQ⟩ : ∃ Q, hd.length + 1 + (s + 1) = Q := ⟨_, rfl⟩
                rw [show (hd ++ [x]).length + 1 + s = Q by rw [← hQ, List.length_append, List.length_singleton]; omega] at hv hc1
                subst hv
                have HF := Lib.hid (show ChP D n k (s + 1) x left hd base w (.returned (.tuple #[.slice A' Q c', .bool true])) w5 from ⟨HBW.out, .inl ⟨m :: T, A', c', by
                  have h := range_some HN.out (t := m :: T) (by rw [HSF2.out, hs1]; rfl) (n - (m + 1))
                  rw [show m + 1 + (n - (m + 1)) = n by omega] at h
                  exact h, by rw [hQ], by rw [hQ]; exact hc1, by
                  have h : (hd ++ [x]) ++ m :: T = hd ++ x :: m :: T := by simp
                  rw [h] at ho1
                  exact Own.less ho1 (by omega)⟩⟩)
                clear hQ
                clear hs1 hc1 ho1
                go_wp2_with fail
                go_ret2
                exact HF.out
              | false =>
                have HN2 := Lib.hid (range_none HN.out (by rw [HSF2.out, HRES.out.2 rfl]; rfl))
                go_wp2_with fail
                go_roundw
                case rel => exact ⟨m + 1, by omega, by go_num, Lib.hid HN2.out, HBW.out⟩
                case measure => simp [intOf]; omega
      · have hmn' : m = n := by omega
        subst hmn'
        have HS := Lib.hid (show search D m k (s + 1) x left = none from HN.out)
        clear hbr
        go_wp2_with fail
        go_ret2
        exact ⟨HBR.out, .inr ⟨HS.out, _, rfl⟩⟩
end Go.Proofs.Ytmbpcilgjolaeaa
