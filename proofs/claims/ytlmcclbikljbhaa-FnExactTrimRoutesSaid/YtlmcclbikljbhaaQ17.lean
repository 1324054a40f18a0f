/- slices.Delete of one route, in place. No condition. -/
import Derived.Test.YtlmcclbikljbhaaQ12
import Derived.Deep.RegionLaw
import Derived.Lib.SliceRun
import Derived.Laws.IdiomCopy
import Derived.Deep.Upon
import Derived.Lib.EndianMore
namespace Go.Proofs.Ytlmcclbikljbhaa
open Go.RowKit

theorem slice_fromQ (g n c j : Nat) (h : j ≤ n) (hc : n ≤ c) :
    ∃ o, (∀ W, (Instr.slice 31 (.slice (some ⟨g, 0, none⟩) n c) (some (.int .i64 (j : Int))) none none).run Try.prog W = .ok (.slice (some ⟨g, o, none⟩) (n - j) (c - j)) W) ∧ (j < n → o = j * 2) := by
  have h1 : (0 : Int) ≤ (j : Int) := by omega
  have h2 : (j : Int) ≤ (n : Int) := by omega
  by_cases e : j = c
  · refine ⟨0, fun W => ?_, fun hlt => by omega⟩
    have h3 : ¬ n < c := by omega
    subst e
    go_simp
  · refine ⟨j * 2, fun W => ?_, fun _ => rfl⟩
    have h4 : ¬ c = j := fun h => e h.symm
    go_simp
theorem slice_lastQ (g n c m : Nat) (h : m < n) (hc : n ≤ c) (W : World) :
    (Instr.slice 31 (.slice (some ⟨g, 0, none⟩) m c) (some (.int .i64 (m : Int))) (some (.int .i64 (n : Int))) none).run Try.prog W = .ok (.slice (some ⟨g, m * 2, none⟩) (n - m) (c - m)) W := by
  have h1 : (0 : Int) ≤ (m : Int) := by omega
  have h2 : (m : Int) ≤ (n : Int) := by omega
  have h3 : (n : Int) ≤ (c : Int) := by omega
  have h4 : ¬ c = m := by omega
  have h5 : (0 : Int) ≤ (n : Int) := by omega
  go_simp
theorem Try.zeroQ (w : World) : (zeroValue 38).run Try.prog w = .ok (.agg #[.string ⟨#[]⟩, .int .i64 0]) w := by kernel_rfl

theorem run_clearQ (w : World) (ty : TypeId) (b o c : Nat) (hc : ∀ j, j < 2 → (w.cell? ⟨b, o + j, none⟩).isSome = true) (hf : ∀ j, j < 2 → w.frozen? ⟨b, o + j, none⟩ = false) :
    (Builtin.clear_ #[31] ty #[.slice (some ⟨b, o, none⟩) 1 c]).run Try.prog w = .ok (.tuple #[]) (w.setCells b o [.string ⟨#[]⟩, .int .i64 0]) := by
  have hst := run_storeCells_cells (P := Try.prog) b o [Value.string ⟨#[]⟩, .int .i64 0] 0 w (by simpa using hc) (by simpa using hf) (by intro v hv'; simp at hv'; rcases hv' with rfl | rfl <;> rfl)
  simp only [Nat.add_zero] at hst
  have hz : (Builtin.zeroCells (Value.agg #[.string ⟨#[]⟩, .int .i64 0]).cells 1).toList = [Value.string ⟨#[]⟩, .int .i64 0] := by kernel_rfl
  simp [Builtin.clear_, run_underlying Try.underlying31, hz, hst]

theorem below_setCells {B : Nat} {a : World} (g : Nat) (hg : B ≤ g) : ∀ (vs : List Value) (o : Nat) {w : World}, Below B a w → Below B a (w.setCells g o vs)
  | [], _, _, h => h
  | v :: r, o, _, h => below_setCells g hg r (o + 1) (h.setCell (p := ⟨g, o, none⟩) hg v)
theorem flat_drop (rs : List (ByteArray × Int)) (m : Nat) : (flat rs).drop (2 * m) = flat (rs.drop m) := by
  induction rs generalizing m with
  | nil => simp [flat]
  | cons r rs ih =>
    cases m with
    | zero => simp
    | succ m =>
      rw [flat_cons, List.drop_succ_cons, ← ih m, show 2 * (m + 1) = 2 + 2 * m by omega, List.drop_append, List.drop_of_length_le (by simp)]
      simp
theorem erase_flat (rs : List (ByteArray × Int)) (i : Nat) : flat (rs.eraseIdx i) = (flat rs).take (2 * i) ++ (flat rs).drop (2 * (i + 1)) := by
  rw [flat_take, flat_drop, ← flat_append, List.eraseIdx_eq_take_drop_succ]

set_option maxRecDepth 100000 in
set_option maxHeartbeats 2000000 in
theorem delete_any (g c i : Nat) (rs : List (ByteArray × Int)) (w : World) (ho : Own w (g + 1) (g + 1) (some ⟨g, 0, none⟩) (flat rs)) (hi : i < rs.length) (hc : rs.length ≤ c) (hcm : c ≤ 9223372036854775807) :
    Calls Try.prog 76 #[.slice (some ⟨g, 0, none⟩) rs.length c, .int .i64 i, .int .i64 ((i : Int) + 1)] w fun e w' =>
      e = .returned (.slice (some ⟨g, 0, none⟩) (rs.eraseIdx i).length c) ∧ Own w' (g + 1) (g + 1) (some ⟨g, 0, none⟩) (flat (rs.eraseIdx i)) ∧ Below g w w' := by
  obtain ⟨i0, hi0, hz0, hz1, hz2⟩ := info_parts Try.infoQ
  obtain ⟨b', o', e, _, _, hcell, hfr⟩ := ho.open' (by omega) (by rw [flat_length]; omega)
  simp only [Option.some.injEq, Addr.mk.injEq, and_true] at e
  obtain ⟨rfl, rfl⟩ := e
  simp only [Nat.zero_add] at hcell
  have hcell' : ∀ j, j < 2 * rs.length → w.cell? ⟨g, j, none⟩ = some ((flat rs)[j]?.getD undef) := fun j hj => by
    have : j < (flat rs).length := by rw [flat_length]; exact hj
    rw [List.getElem?_eq_getElem this]
    exact hcell j _ (List.getElem?_eq_getElem this)
  obtain ⟨news, hnews⟩ : ∃ news, news = (flat rs).drop (2 * (i + 1)) := ⟨_, rfl⟩
  have hlen : news.length = (rs.length - (i + 1)) * 2 := by rw [hnews, List.length_drop, flat_length]; omega
  obtain ⟨oo, hfrom, hoo⟩ := slice_fromQ g rs.length c (i + 1) (by omega) hc
  have hcast : ((i + 1 : Nat) : Int) = (i : Int) + 1 := by push_cast; rfl
  rw [hcast] at hfrom
  have hupto := slice_uptoQ g 0 rs.length c i (by omega)
  have s1 := Lib.hid hlen
  have s2 := Lib.hid (show ∀ u ∈ news, u.oneCell' = true from fun u hu => by
    rw [hnews] at hu
    have hu := List.mem_of_mem_drop hu
    simp only [flat, List.mem_flatMap, List.mem_cons, List.not_mem_nil, or_false] at hu
    obtain ⟨r, _, rfl | rfl⟩ := hu <;> rfl)
  have hsrc := Lib.hid (show ∀ t u, news[t]? = some u → w.drew.cell? ((⟨g, oo, none⟩ : Addr).add t) = some u from fun t u hu => by
    have ht : t < news.length := (List.getElem?_eq_some_iff.1 hu).1
    rw [hoo (by omega), Addr.add_lit]
    rw [hnews, List.getElem?_drop] at hu
    have := hcell _ _ hu
    rw [show (i + 1) * 2 + t = 2 * (i + 1) + t by omega]
    exact this)
  have s3 := Lib.hid (show ∀ t, t < news.length → (w.drew.cell? ⟨g, 0 + i * 2 + t, none⟩).isSome = true ∧ w.drew.frozen? ⟨g, 0 + i * 2 + t, none⟩ = false from fun t ht => by
    refine ⟨?_, hfr _⟩
    show (w.cell? _).isSome = true
    rw [hcell' _ (by omega)]; rfl)
  obtain ⟨W1, hW1⟩ : ∃ W1, W1 = w.drew.setCells g (0 + i * 2) news := ⟨_, rfl⟩
  have hisS : ∀ j, j < 2 * rs.length → (W1.cell? ⟨g, j, none⟩).isSome = true := fun j hj => by
    rw [hW1]; exact World.isSome_setCells g news _ _ _ (by show (w.cell? _).isSome = true; rw [hcell' j hj]; rfl)
  have hfr1 : ∀ j, W1.frozen? ⟨g, j, none⟩ = false := fun j => by rw [hW1, World.frozen?_setCells]; exact hfr j
  obtain ⟨m, hm⟩ : ∃ m, m = rs.length - 1 := ⟨_, rfl⟩
  have hclr := fun ty => run_clearQ W1 ty g (m * 2) (c - m) (fun j hj => hisS _ (by omega)) (fun j hj => hfr1 _)
  have hlast := slice_lastQ g rs.length c m (by omega) hc
  have hcl1 : rs.length - m = 1 := by omega
  rw [hcl1] at hlast
  have him : i + (rs.length - (i + 1)) = m := by omega
  have hiI : (i : Int) + 1 ≤ rs.length := by omega
  have hcI : (rs.length : Int) ≤ (c : Int) := by omega
  have hW : Hid (W1 = w.drew.setCells g (0 + i * 2) news) := Lib.hid hW1
  have HC := Lib.hid (And.intro hcell (And.intro hisS hfr1))
  have hiw : IntKind.i64.wrap ((i : Int) + 1) = (i : Int) + 1 := IntWalk.i64_in _ (by omega)
  have hne : ((i : Int) == (i : Int) + 1) = false := beq_eq_false_iff_ne.2 (by omega)
  have HNW := Lib.hid hnews
  have HIM := Lib.hid him
  have HM := Lib.hid hm
  clear hW1 hisS hfr1 hcell hcell' hfr hoo hnews hlen him hm hcast ho
  go_enter Try.func76, Try.ntmps76
  go_wp2_with fail
  go_region_law (refine step_append_room rfl (.tmp 22) (.tmp 25) 31 (by rfl) 38 i0 2 Try.underlying31 hi0 hz1 g 0 i c (by rfl) ⟨g, oo, none⟩ (rs.length - (i + 1)) (c - (i + 1)) news (by rfl) s1.out hsrc.out s2.out (by omega) s3.out ?_; rw [← hW.out])
  all_goals
    rw [HIM.out]
    clear hupto hfrom hiw hne
    go_wp2
    go_ret
    have hml : (rs.eraseIdx i).length = m := by rw [List.length_eraseIdx_of_lt hi]; have := HM.out; omega
    have hnl := s1.out
    have him := HIM.out
    refine ⟨by rw [hml]; rfl, ?_, ?_⟩
    · refine .inr ⟨g, 0, rfl, by omega, by omega, fun j u hu => ?_, fun _ j => ?_⟩
      · have hj : j < 2 * m := by
          have := (List.getElem?_eq_some_iff.1 hu).1
          rwa [flat_length, hml] at this
        rw [Nat.zero_add, World.cell?_setCells_out g _ _ _ _ (fun _ _ => by simp; omega), hW.out]
        rw [erase_flat] at hu
        by_cases hji : j < i * 2
        · rw [World.cell?_setCells_out g _ _ _ _ (fun _ _ => by simp; omega)]
          rw [List.getElem?_append_left (by rw [List.length_take, flat_length]; omega), List.getElem?_take, if_pos (by omega)] at hu
          exact HC.out.1 j u hu
        · have hin := World.cell?_setCells_in g news (0 + i * 2) w.drew (fun t ht => (s3.out t ht).1) (j - i * 2) (by omega)
          rw [show 0 + i * 2 + (j - i * 2) = j by omega] at hin
          rw [hin]
          rw [List.getElem?_append_right (by rw [List.length_take, flat_length]; omega), List.length_take, flat_length, Nat.min_eq_left (by omega), ← HNW.out, show 2 * i = i * 2 by omega, List.getElem?_eq_getElem (by omega)] at hu
          exact hu
      · rw [World.frozen?_setCells]; exact HC.out.2.2 j
    · refine below_setCells g (Nat.le_refl _) _ _ ?_
      rw [hW.out]
      exact below_setCells g (Nat.le_refl _) _ _ ⟨rfl, rfl, rfl, Nat.le_refl _, fun _ _ => rfl⟩
end Go.Proofs.Ytlmcclbikljbhaa
