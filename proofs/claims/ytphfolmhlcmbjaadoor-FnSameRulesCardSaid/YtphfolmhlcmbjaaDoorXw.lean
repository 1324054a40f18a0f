/- spec.without and spec.TrimRules. No condition. -/
import Derived.Test.YtphfolmhlcmbjaaDoorXg
namespace Go.Proofs.YtphfolmhlcmbjaaDoor
open Go.RowKit

theorem firstU (W : World) (base : Nat) (h : base ≤ W.heap.size) : (W.alloc (.cells #[] 31)).ownsRow base 31 2 (.slice (some ⟨W.heap.size, 0, none⟩) 0 0) 0 [] :=
  World.ownsRow_lit W #[] 0 h (by simp [maxLen]) rfl

set_option maxRecDepth 100000 in
set_option maxHeartbeats 4000000 in
theorem without_any (A : Option Addr) (c : Nat) (rs : List (ByteArray × Int)) (k : Nat) (w : World) (hr : Own w 0 w.heap.size A (flat rs)) (hc : rs.length ≤ c) (hk : k < rs.length) (hl : rs.length ≤ 1048576) :
    Calls Tryd.prog 50 #[.slice A rs.length c, .int .i64 (k : Int)] w fun e w' => ∃ A' c', e = .returned (.slice A' (rs.eraseIdx k).length c') ∧ KeptU w' w.heap.size A' c' (rs.eraseIdx k) ∧ Below w.heap.size w w' := by
  obtain ⟨i0, hi0, hz0, hz1, hz2⟩ := info_parts Tryd.infoU
  obtain ⟨b, o, rfl, _, _⟩ := hr.open (by rw [flat_length]; omega)
  have hto := slice_toU b o rs.length c k (by omega)
  obtain ⟨o', hfrom, ho'⟩ := slice_fromU b o rs.length c (k + 1) hk hc
  rw [show ((k + 1 : Nat) : Int) = (k : Int) + 1 by omega] at hfrom
  have h1 : Own w 0 w.heap.size (some ⟨b, o, none⟩) (flat (rs.take k)) := by rw [← flatU_take]; exact hr.take _
  have h2 : Own w 0 w.heap.size (some ⟨b, o', none⟩) (flat (rs.drop (k + 1))) := by
    by_cases hlt : k + 1 < rs.length
    · rw [← flatU_drop, ho' hlt, Nat.mul_comm (k + 1) 2]; exact hr.drop _
    · exact .inl (by rw [List.drop_of_length_le (by omega)]; rfl)
  have HS1 := Lib.hid h1
  have HS2 := Lib.hid h2
  have hiw : IntKind.i64.wrap ((k : Int) + 1) = (k : Int) + 1 := IntWalk.i64_in _ (by omega)
  have hk0 : (0 : Int) ≤ (k : Int) := by omega
  have hkI : (k : Int) < (rs.length : Int) := by omega
  have HFLE := Lib.hid (show flat (rs.take k) ++ flat (rs.drop (k + 1)) = flat (rs.eraseIdx k) by rw [eraseU_flat, flatU_take, flatU_drop])
  have HEL := Lib.hid (show k + (rs.length - (k + 1)) = (rs.eraseIdx k).length by rw [List.length_eraseIdx_of_lt hk]; omega)
  clear h1 h2 ho' hr
  go_enter Tryd.func50, Tryd.ntmps50
  go_wp2
  go_region_law (first
    | (refine step_extend (w := w.drew.alloc (.cells #[] 31)) (by rfl) (.tmp 5) (.tmp 8) 23 (by rfl) i0 (.agg #[.string ⟨#[]⟩, .int .i64 0]) 24 Tryd.underlying23 hi0 hz0 hz1 hz2 rfl (by decide) _ _ (by rfl) (firstU w.drew w.heap.size (Nat.le_refl _)) _ _ _ _ (flat (rs.take k)) (by rfl) (by rw [flat_length, List.length_take]; omega) (HS1.out.grownN (Nat.le_refl _) (g_alloc (g_drew (World.grownBy.refl w none)) _)) (flatU_ones _) (by omega) (by omega) (g_alloc (g_drew (World.grownBy.refl w none)) _).size ?_; intro A2 c2 w2 hown2 hg2; have hgA : w.grownBy w2 none := g_new (g_alloc (g_drew (World.grownBy.refl w none)) _) hg2 (fun j hj => ((firstU w.drew w.heap.size (Nat.le_refl _)).lt _ hj).1); have hown2' : w2.ownsRow w.heap.size 31 2 (.slice A2 k c2) k (flat (rs.take k)) := (by simpa using hown2))
    | (refine step_extend (by rfl) (.tmp 9) (.tmp 13) 23 (by rfl) i0 (.agg #[.string ⟨#[]⟩, .int .i64 0]) 24 Tryd.underlying23 hi0 hz0 hz1 hz2 rfl (by decide) _ _ (by rfl) hown2' _ _ _ _ (flat (rs.drop (k + 1))) (by rfl) (by rw [flat_length, List.length_drop]; omega) (HS2.out.grownN (Nat.le_refl _) hgA) (flatU_ones _) (by omega) (by omega) hgA.size ?_; intro A3 c3 w3 hown3 hg3; have hgB : w.grownBy w3 none := g_new hgA hg3 (fun j hj => (hown2'.lt _ hj).1)))
  all_goals
    have hgC := below_g hgB (Nat.le_refl _)
    rw [HFLE.out] at hown3
    rw [HEL.out] at hown3 ⊢
    have HK3 := Lib.hid (And.intro (keptU_of_row (ks := rs.eraseIdx k) hown3 rfl) hgC)
    clear hown3 hg3 hgB hg2 hown2 hown2' hgA hgC hfrom hto hiw
    go_simp
    go_wp2
    go_ret
    exact ⟨A3, c3, rfl, HK3.out.1, HK3.out.2⟩
end Go.Proofs.YtphfolmhlcmbjaaDoor
