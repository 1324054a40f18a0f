/- Marks of rules. No condition. -/
import Derived.Test.YtphfolmhlcmbjaaDoorMk
import Derived.Test.YtphfolmhlcmbjaaDoorMark
import Derived.Test.YtphfolmhlcmbjaaDoorMark2
namespace Go.Proofs.YtphfolmhlcmbjaaDoor
open Go.RowKit

set_option maxRecDepth 100000 in
set_option maxHeartbeats 2000000 in
theorem markRuleS_at (A : Option Addr) (c : Nat) (rs : List (ByteArray × Int)) (k base B : Nat) (w : World) (ho : Own w (base + 1) B A (flat rs)) (hB : B ≤ w.heap.size) (hl : rs.length ≤ 10000000) (hk : 0 < k) (hk1 : k ≤ 10000000) :
    Calls Tryd.prog 36 #[.slice A rs.length c, .int .i64 k] w fun e w' => e = .returned (.int .i64 ((k + 2 * rs.length : Nat) : Int)) ∧ Own w' (base + 1) B A (flat (mkR k rs.length)) ∧ Wrote base B w w' := by
  by_cases h0 : rs.length = 0
  · have hz : rs = [] := List.eq_nil_of_length_eq_zero h0
    subst hz
    clear ho
    go_enter Tryd.func36, Tryd.ntmps36
    go_wp2
    go_rounds 1
    go_ret
    exact ⟨by simp, .inl (by simp [mkR, flat]), none, World.grownBy.refl w _, by simp⟩
  · obtain ⟨b, o, rfl, hbb, hlt, _, _⟩ := ho.open' (by omega) (by rw [flat_length]; omega)
    have hst : Own w (base + 1) B (some ⟨b, o, none⟩) (flat (mkR k 0 ++ rs.drop 0)) := by simpa [mkR] using ho
    have HST := Lib.hid hst
    have hbw : b < w.heap.size := by omega
    clear ho h0 hst
    go_enter Tryd.func36, Tryd.ntmps36
    go_wp2
    go_loopw [1, 5] (fun m i wr => ∃ j : Nat, j ≤ rs.length ∧ i = .int .i64 j ∧ m = .int .i64 ((k + 2 * j : Nat) : Int) ∧ Own wr (base + 1) B (some ⟨b, o, none⟩) (flat (mkR k j ++ rs.drop j)) ∧ w.grownBy wr (some b)) (fun _ i _ => rs.length - (intOf i).toNat)
    case atStart => exact ⟨0, by omega, rfl, rfl, HST.out, World.grownBy.refl w _⟩
    case round =>
      obtain ⟨j, hj, rfl, rfl, ho, hg⟩ := hrel
      clear HST
      have HO := Lib.hid ho
      have HG := Lib.hid hg
      have hgz := hg.size
      clear ho hg
      by_cases hjl : j < rs.length
      · have hmt := markText_any (k + 2 * j) wr (by omega) (by omega)
        have HMT := Lib.hid hmt
        have hjI : (j : Int) < rs.length := by omega
        clear hmt
        go_wp2_with fail
        refine HMT.out.mono ?_
        rintro e w2 ⟨rfl, hb2⟩
        have ho2 := HO.out.below (hb2.mono (by omega))
        have hlen2 : (flat (mkR k j ++ rs.drop j)).length = 2 * rs.length := by rw [flat_length, List.length_append, mkR_length, List.length_drop]; omega
        obtain ⟨b', o', e, _, _, hcc, hf⟩ := ho2.open' (by omega) (by omega)
        simp only [Option.some.injEq, Addr.mk.injEq, and_true] at e
        obtain ⟨rfl, rfl⟩ := e
        have c1 := hcc (j * 2) _ (List.getElem?_eq_getElem (by omega))
        have c2 := hcc (j * 2 + 1) _ (List.getElem?_eq_getElem (by omega))
        obtain ⟨y1, hy1⟩ : ∃ y, (flat (mkR k j ++ rs.drop j))[j * 2]'(by omega) = y := ⟨_, rfl⟩
        obtain ⟨y2, hy2⟩ : ∃ y, (flat (mkR k j ++ rs.drop j))[j * 2 + 1]'(by omega) = y := ⟨_, rfl⟩
        rw [hy1] at c1
        rw [hy2, ← Nat.add_assoc] at c2
        have f1 := hf (o + j * 2)
        have f2 := hf (o + j * 2 + 1)
        have hset := (ho2.set (j * 2) (.string (mkT (k + 2 * j)))).set (j * 2 + 1) (.int .i64 ((k + 2 * j + 1 : Nat) : Int))
        rw [markQ_step rs k j hjl] at hset
        have hcastv : ((k + 2 * j + 1 : Nat) : Int) = (k : Int) + 2 * (j : Int) + 1 := by push_cast; rfl
        have HS := Lib.hid (show Own ((w2.setCell ⟨b, o + j * 2, none⟩ (.string (mkT (k + 2 * j)))).setCell ⟨b, o + j * 2 + 1, none⟩ (.int .i64 ((k : Int) + 2 * (j : Int) + 1))) (base + 1) B (some ⟨b, o, none⟩) (flat (mkR k (j + 1) ++ rs.drop (j + 1))) ∧ w.grownBy ((w2.setCell ⟨b, o + j * 2, none⟩ (.string (mkT (k + 2 * j)))).setCell ⟨b, o + j * 2 + 1, none⟩ (.int .i64 ((k : Int) + 2 * (j : Int) + 1))) (some b) from by
          rw [← hcastv]
          exact ⟨hset, g_set (g_set (grown_trans HG.out (grownB hb2 (some b))) (o + j * 2) (.string (mkT (k + 2 * j)))) (o + j * 2 + 1) (.int .i64 ((k + 2 * j + 1 : Nat) : Int))⟩)
        clear hcc hf hy1 hy2 hlen2 ho2 hset hb2 hcastv
        go_wp2
        go_roundw
        case rel => exact ⟨j + 1, by omega, by go_num, congrArg (Value.int .i64) (by push_cast; omega), HS.out.1, HS.out.2⟩
        case measure => simp [intOf]; omega
      · have hj' : j = rs.length := by omega
        have HF := Lib.hid (show Own wr (base + 1) B (some ⟨b, o, none⟩) (flat (mkR k rs.length)) by
          have := HO.out
          rwa [hj', List.drop_length, List.append_nil] at this)
        have HJ := Lib.hid hj'
        clear hj'
        go_wp2
        go_ret
        exact ⟨ret_int (by rw [HJ.out]), HF.out, some b, HG.out, fun i hi => by injection hi with hi; omega⟩

set_option maxRecDepth 100000 in
set_option maxHeartbeats 2000000 in
theorem heldRuleS_any (A : Option Addr) (c n k : Nat) (w : World) (ho : Own w 0 w.heap.size A (flat (mkR k n))) (hl : n ≤ 10000000) (hk : 0 < k) (hk1 : k ≤ 10000000) :
    Calls Tryd.prog 39 #[.slice A n c, .int .i64 k] w fun e w' => e = .returned (.int .i64 ((k + 2 * n : Nat) : Int)) ∧ Below w.heap.size w w' := by
  go_enter Tryd.func39, Tryd.ntmps39
  go_wp2
  go_loopw [1, 5] (fun m i wr => ∃ j : Nat, j ≤ n ∧ i = .int .i64 j ∧ m = .int .i64 ((k + 2 * j : Nat) : Int) ∧ Below w.heap.size w wr) (fun _ i _ => n - (intOf i).toNat)
  case atStart => exact ⟨0, by omega, rfl, rfl, Below.refl _ _⟩
  case round =>
    obtain ⟨j, hj, rfl, rfl, hbr⟩ := hrel
    have HBR := Lib.hid hbr
    have hbz := hbr.size
    by_cases hjl : j < n
    · have hmt := markText_any (k + 2 * j)
      obtain ⟨b, o, rfl, hb, hcc⟩ := (ho.below hbr).open (by rw [flat_length, mkR_length]; omega)
      obtain ⟨h1, h2⟩ := routes_at hcc (show j < (mkR k n).length by rw [mkR_length]; exact hjl)
      rw [mkR_get k n j hjl] at h1 h2
      obtain ⟨T, hT⟩ : ∃ T, mkT (k + 2 * j) = T := ⟨_, rfl⟩
      have hcastv : ((k + 2 * j + 1 : Nat) : Int) = (k : Int) + 2 * (j : Int) + 1 := by push_cast; rfl
      simp only [hT, hcastv] at h1 h2
      have hmt2 : ∀ X, Calls Tryd.prog 63 #[.int .i64 ((k + 2 * j : Nat) : Int)] X fun e w' => e = .returned (.string T) ∧ Below X.heap.size X w' := fun X => by rw [← hT]; exact hmt X (by omega) (by omega)
      have HMT := Lib.hid hmt2
      have HC := Lib.hid (And.intro h1 h2)
      have hbW : b < wr.heap.size := by omega
      have hjI : (j : Int) < n := by omega
      have hj0 : (0 : Int) ≤ (j : Int) := by omega
      have hn1 : (T.toList != T.toList) = false := by simp
      have hn2 : (T.toList == T.toList) = true := by simp
      have hn3 : (((k : Int) + 2 * (j : Int) + 1) != ((k : Int) + 2 * (j : Int) + 1)) = false := by simp
      have q4 : Below wr.heap.size wr wr.drew := ⟨rfl, rfl, rfl, Nat.le_refl _, fun _ _ => rfl⟩
      clear hcc h1 h2 hmt hmt2 hT hcastv hbr
      go_wp2
      go_region_held3 (fun w' => w'.cell? ⟨b, o + j * 2, none⟩ = some (.string T) ∧ w'.cell? ⟨b, o + j * 2 + 1, none⟩ = some (.int .i64 ((k : Int) + 2 * (j : Int) + 1)))
        (first | exact ⟨cell_stay q5 hbW HC.out.1, cell_stay q5 hbW HC.out.2⟩ | exact ⟨cell_stay q4 hbW HC.out.1, cell_stay q4 hbW HC.out.2⟩)
        ((first
          | (go_at_call 63; refine (HMT.out _).mono ?_; rintro e w5 ⟨rfl, b5⟩; have q5 : Below wr.heap.size wr w5 := q4.trans b5)
          | fail))
      have HQ := Lib.hid q5
      have c2 := cell_stay q5 hbW HC.out.2
      clear q4 q5 b5 hn1 hn2
      go_simp
      go_wp2
      go_roundw
      case rel => exact ⟨j + 1, by omega, by go_num, congrArg (Value.int .i64) (by push_cast; omega), HBR.out.trans (HQ.out.mono hbz)⟩
      case measure => simp [intOf]; omega
    · have hj' : j = n := by omega
      have HJ := Lib.hid hj'
      clear hj' hbr
      go_wp2
      go_ret
      exact ⟨ret_int (by rw [HJ.out]), HBR.out⟩
end Go.Proofs.YtphfolmhlcmbjaaDoor
