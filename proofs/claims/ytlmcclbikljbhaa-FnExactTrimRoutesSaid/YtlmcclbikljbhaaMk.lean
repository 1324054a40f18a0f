/- Marks of texts: laws.markText. No condition. -/
import Derived.Test.YtlmcclbikljbhaaQ1
import Derived.Test.YtlmcclbikljbhaaC1
import Derived.WalkSpells
import Derived.Deep.RegionHeld3
namespace Go.Proofs.Ytlmcclbikljbhaa
open Go.RowKit

/-- The digits of a number. -/
def dgS (k : Nat) : ByteArray := if _h : k = 0 then ByteArray.empty else dgS (k / 10) ++ strOfNums [48 + ((k % 10 : Nat) : Int)]
theorem dgS_zero : dgS 0 = ByteArray.empty := by rw [dgS]; simp
theorem dgS_pos {k : Nat} (h : 0 < k) : dgS k = dgS (k / 10) ++ strOfNums [48 + ((k % 10 : Nat) : Int)] := by rw [dgS]; rw [dif_neg (by omega)]
def mkT (k : Nat) : ByteArray := ⟨#[109]⟩ ++ dgS k

set_option maxRecDepth 100000 in
set_option maxHeartbeats 1000000 in
theorem markText_any (k : Nat) (w : World) (hk : 0 < k) (hk9 : k ≤ 100000000) :
    Calls Try.prog 82 #[.int .i64 k] w fun e w' => e = .returned (.string (mkT k)) ∧ Below w.heap.size w w' := by
  have HK := Lib.hid (show dgS k = dgS k ++ ByteArray.empty by simp)
  have h9 : k < 10 ^ 9 := by omega
  have H9 := Lib.hid h9
  clear h9
  go_enter Try.func82, Try.ntmps82
  go_wp2
  go_loopw [0, 3] (fun m v wr => ∃ (c : Nat) (o : ByteArray) (j : Nat), m = .int .i64 c ∧ v = .string o ∧ c ≤ 100000000 ∧ Hid (c < 10 ^ j) ∧ o.size + j ≤ 9 ∧ Hid (dgS k = dgS c ++ o) ∧ Below w.heap.size w wr) (fun m _ _ => (intOf m).toNat)
  case atStart => exact ⟨k, ByteArray.empty, 9, rfl, rfl, hk9, H9, by decide, HK, Below.refl _ _⟩
  case round =>
    obtain ⟨c, o, j, rfl, rfl, hc9, HJ, hoj, HD, hbr⟩ := hrel
    clear HK H9
    have HBR := Lib.hid hbr
    have hbz := hbr.size
    clear hbr
    by_cases hc0 : 0 < c
    · obtain ⟨d, hd⟩ : ∃ d, c % 10 = d := ⟨_, rfl⟩
      obtain ⟨q, hq⟩ : ∃ q, c / 10 = q := ⟨_, rfl⟩
      have hd9 : d ≤ 9 := by omega
      have hqc : q < c := by omega
      have hm1 : (c : Int) % 10 = (d : Int) := by rw [← hd]; push_cast; rfl
      have hm2 : (c : Int).tmod 10 = (d : Int) := by rw [← hd]; rfl
      have hq1 : (c : Int) / 10 = (q : Int) := by rw [← hq]; push_cast; rfl
      have hq2 : (c : Int).tdiv 10 = (q : Int) := by rw [← hq]; rfl
      have hu8 : IntKind.u8.wrap (48 + (d : Int)) = 48 + (d : Int) := IntWalk.u8_in _ (by omega)
      have HDG := Lib.hid (show dgS c = dgS q ++ strOfNums [48 + (d : Int)] by rw [dgS_pos hc0, hq, hd])
      have HJ2 := Lib.hid (show ∃ j', j = j' + 1 ∧ q < 10 ^ j' by
        cases j with
        | zero => have := HJ.out; simp at this; omega
        | succ j' => exact ⟨j', rfl, by have := HJ.out; rw [Nat.pow_succ] at this; omega⟩)
      have hconv := run_convert_bytes_arg (P := Try.prog) (w := wr.alloc (.cells #[.int .u8 (48 + (d : Int))] 5)) 22 5 Try.underlying22 Try.underlying5 wr.heap.size 0 1 1 [48 + (d : Int)] rfl (fun i hi => by
        obtain rfl : i = 0 := by omega
        rw [World.cell?_alloc_at _ _ _ _ rfl]; rfl) 9 Try.underlying9
      obtain ⟨x, hx⟩ : ∃ x, strOfNums [48 + (d : Int)] = x := ⟨_, rfl⟩
      have hxs : x.size = 1 := by rw [← hx]; rfl
      rw [hx] at hconv
      have HX := Lib.hid (And.intro hx hxs)
      have hx1 : x.size ≤ 1 := by omega
      have hc0I : (0 : Int) < (c : Int) := by omega
      clear hd hq hx hxs
      go_wp2
      go_roundw
      case rel =>
        obtain ⟨j', hj1, hj2⟩ := HJ2.out
        refine ⟨q, x ++ o, j', rfl, rfl, by omega, Lib.hid hj2, ?_, Lib.hid ?_, HBR.out.alloc hbz _⟩
        · rw [ByteArray.size_append, HX.out.2]; omega
        · rw [HD.out, HDG.out, HX.out.1, ByteArray.append_assoc]
      case measure => simp [intOf]; omega
    · have hc : c = 0 := by omega
      subst hc
      have HF := Lib.hid (show mkT k = ⟨#[109]⟩ ++ o by rw [mkT, HD.out, dgS_zero]; simp)
      have hos : o.size ≤ 9 := by omega
      clear hc0
      go_wp2
      go_ret
      exact ⟨by rw [HF.out]; rfl, HBR.out⟩

theorem grownB {w w' : World} (h : Below w.heap.size w w') (row : Option Nat) : w.grownBy w' row := ⟨h.os, h.tape, h.output, h.size, fun i hi _ => h.block i hi⟩
/-- The marks of n routes. -/
def mkR (k n : Nat) : List (ByteArray × Int) := (List.range n).map fun i => (mkT (k + 2 * i), ((k + 2 * i + 1 : Nat) : Int))
theorem mkR_length (k n : Nat) : (mkR k n).length = n := by simp [mkR]
theorem mkR_get (k n i : Nat) (h : i < n) : (mkR k n)[i]'(by rw [mkR_length]; exact h) = (mkT (k + 2 * i), ((k + 2 * i + 1 : Nat) : Int)) := by simp [mkR]
theorem mkR_succ (k j : Nat) : mkR k (j + 1) = mkR k j ++ [(mkT (k + 2 * j), ((k + 2 * j + 1 : Nat) : Int))] := by simp [mkR, List.range_succ]

theorem markQ_step (rs : List (ByteArray × Int)) (k j : Nat) (hj : j < rs.length) :
    ((flat (mkR k j ++ rs.drop j)).set (j * 2) (.string (mkT (k + 2 * j)))).set (j * 2 + 1) (.int .i64 ((k + 2 * j + 1 : Nat) : Int)) = flat (mkR k (j + 1) ++ rs.drop (j + 1)) := by
  have hl : (flat (mkR k j)).length = j * 2 := by rw [flat_length, mkR_length]; omega
  rw [List.drop_eq_getElem_cons hj, mkR_succ, flat_append, flat_cons, List.append_assoc, List.singleton_append, flat_append, flat_cons]
  rw [List.set_append_right _ _ (by omega), List.set_append_right _ _ (by omega), hl]
  simp

set_option maxRecDepth 100000 in
set_option maxHeartbeats 2000000 in
theorem markRouteS_at (A : Option Addr) (c : Nat) (rs : List (ByteArray × Int)) (k base B : Nat) (w : World) (ho : Own w (base + 1) B A (flat rs)) (hB : B ≤ w.heap.size) (hl : rs.length ≤ 10000000) (hk : 0 < k) (hk1 : k ≤ 10000000) :
    Calls Try.prog 40 #[.slice A rs.length c, .int .i64 k] w fun e w' => e = .returned (.int .i64 ((k + 2 * rs.length : Nat) : Int)) ∧ Own w' (base + 1) B A (flat (mkR k rs.length)) ∧ Wrote base B w w' := by
  by_cases h0 : rs.length = 0
  · have hz : rs = [] := List.eq_nil_of_length_eq_zero h0
    subst hz
    clear ho
    go_enter Try.func40, Try.ntmps40
    go_wp2
    go_rounds 1
    go_ret
    exact ⟨by simp, .inl (by simp [mkR, flat]), none, World.grownBy.refl w _, by simp⟩
  · obtain ⟨b, o, rfl, hbb, hlt, _, _⟩ := ho.open' (by omega) (by rw [flat_length]; omega)
    have hst : Own w (base + 1) B (some ⟨b, o, none⟩) (flat (mkR k 0 ++ rs.drop 0)) := by simpa [mkR] using ho
    have HST := Lib.hid hst
    have hbw : b < w.heap.size := by omega
    clear ho h0 hst
    go_enter Try.func40, Try.ntmps40
    go_wp2
    go_loopw [1, 5] (fun m i wr => ∃ j : Nat, j ≤ rs.length ∧ i = .int .i64 j ∧ m = .int .i64 ((k + 2 * j : Nat) : Int) ∧ Own wr (base + 1) B (some ⟨b, o, none⟩) (flat (mkR k j ++ rs.drop j)) ∧ w.grownBy wr (some b)) (fun _ i _ => rs.length - (intOf i).toNat)
    case atStart => exact ⟨0, by omega, rfl, rfl, HST.out, World.grownBy.refl w _⟩
    case round =>
      obtain ⟨j, hj, rfl, rfl, ho, hg⟩ := hrel
      clear HST
      have HO := Lib.hid ho
      have HG := Lib.hid hg
      have hgz := hg.size
      clear ho hg
      by_cases hjl : j < rs.length
      · have hmt := markText_any (k + 2 * j) wr (by omega) (by omega)
        have HMT := Lib.hid hmt
        have hjI : (j : Int) < rs.length := by omega
        clear hmt
        go_wp2_with fail
        refine HMT.out.mono ?_
        rintro e w2 ⟨rfl, hb2⟩
        have ho2 := HO.out.below (hb2.mono (by omega))
        have hlen2 : (flat (mkR k j ++ rs.drop j)).length = 2 * rs.length := by rw [flat_length, List.length_append, mkR_length, List.length_drop]; omega
        obtain ⟨b', o', e, _, _, hcc, hf⟩ := ho2.open' (by omega) (by omega)
        simp only [Option.some.injEq, Addr.mk.injEq, and_true] at e
        obtain ⟨rfl, rfl⟩ := e
        have c1 := hcc (j * 2) _ (List.getElem?_eq_getElem (by omega))
        have c2 := hcc (j * 2 + 1) _ (List.getElem?_eq_getElem (by omega))
        obtain ⟨y1, hy1⟩ : ∃ y, (flat (mkR k j ++ rs.drop j))[j * 2]'(by omega) = y := ⟨_, rfl⟩
        obtain ⟨y2, hy2⟩ : ∃ y, (flat (mkR k j ++ rs.drop j))[j * 2 + 1]'(by omega) = y := ⟨_, rfl⟩
        rw [hy1] at c1
        rw [hy2, ← Nat.add_assoc] at c2
        have f1 := hf (o + j * 2)
        have f2 := hf (o + j * 2 + 1)
        have hset := (ho2.set (j * 2) (.string (mkT (k + 2 * j)))).set (j * 2 + 1) (.int .i64 ((k + 2 * j + 1 : Nat) : Int))
        rw [markQ_step rs k j hjl] at hset
        have hcastv : ((k + 2 * j + 1 : Nat) : Int) = (k : Int) + 2 * (j : Int) + 1 := by push_cast; rfl
        have HS := Lib.hid (show Own ((w2.setCell ⟨b, o + j * 2, none⟩ (.string (mkT (k + 2 * j)))).setCell ⟨b, o + j * 2 + 1, none⟩ (.int .i64 ((k : Int) + 2 * (j : Int) + 1))) (base + 1) B (some ⟨b, o, none⟩) (flat (mkR k (j + 1) ++ rs.drop (j + 1))) ∧ w.grownBy ((w2.setCell ⟨b, o + j * 2, none⟩ (.string (mkT (k + 2 * j)))).setCell ⟨b, o + j * 2 + 1, none⟩ (.int .i64 ((k : Int) + 2 * (j : Int) + 1))) (some b) from by
          rw [← hcastv]
          exact ⟨hset, g_set (g_set (grown_trans HG.out (grownB hb2 (some b))) (o + j * 2) (.string (mkT (k + 2 * j)))) (o + j * 2 + 1) (.int .i64 ((k + 2 * j + 1 : Nat) : Int))⟩)
        clear hcc hf hy1 hy2 hlen2 ho2 hset hb2 hcastv
        go_wp2
        go_roundw
        case rel => exact ⟨j + 1, by omega, by go_num, congrArg (Value.int .i64) (by push_cast; omega), HS.out.1, HS.out.2⟩
        case measure => simp [intOf]; omega
      · have hj' : j = rs.length := by omega
        have HF := Lib.hid (show Own wr (base + 1) B (some ⟨b, o, none⟩) (flat (mkR k rs.length)) by
          have := HO.out
          rwa [hj', List.drop_length, List.append_nil] at this)
        have HJ := Lib.hid hj'
        clear hj'
        go_wp2
        go_ret
        exact ⟨ret_int (by rw [HJ.out]), HF.out, some b, HG.out, fun i hi => by injection hi with hi; omega⟩

set_option maxRecDepth 100000 in
set_option maxHeartbeats 2000000 in
theorem heldRouteS_any (A : Option Addr) (c n k : Nat) (w : World) (ho : Own w 0 w.heap.size A (flat (mkR k n))) (hl : n ≤ 10000000) (hk : 0 < k) (hk1 : k ≤ 10000000) :
    Calls Try.prog 41 #[.slice A n c, .int .i64 k] w fun e w' => e = .returned (.int .i64 ((k + 2 * n : Nat) : Int)) ∧ Below w.heap.size w w' := by
  go_enter Try.func41, Try.ntmps41
  go_wp2
  go_loopw [1, 5] (fun m i wr => ∃ j : Nat, j ≤ n ∧ i = .int .i64 j ∧ m = .int .i64 ((k + 2 * j : Nat) : Int) ∧ Below w.heap.size w wr) (fun _ i _ => n - (intOf i).toNat)
  case atStart => exact ⟨0, by omega, rfl, rfl, Below.refl _ _⟩
  case round =>
    obtain ⟨j, hj, rfl, rfl, hbr⟩ := hrel
    have HBR := Lib.hid hbr
    have hbz := hbr.size
    by_cases hjl : j < n
    · have hmt := markText_any (k + 2 * j)
      obtain ⟨b, o, rfl, hb, hcc⟩ := (ho.below hbr).open (by rw [flat_length, mkR_length]; omega)
      obtain ⟨h1, h2⟩ := routes_at hcc (show j < (mkR k n).length by rw [mkR_length]; exact hjl)
      rw [mkR_get k n j hjl] at h1 h2
      obtain ⟨T, hT⟩ : ∃ T, mkT (k + 2 * j) = T := ⟨_, rfl⟩
      have hcastv : ((k + 2 * j + 1 : Nat) : Int) = (k : Int) + 2 * (j : Int) + 1 := by push_cast; rfl
      simp only [hT, hcastv] at h1 h2
      have hmt2 : ∀ X, Calls Try.prog 82 #[.int .i64 ((k + 2 * j : Nat) : Int)] X fun e w' => e = .returned (.string T) ∧ Below X.heap.size X w' := fun X => by rw [← hT]; exact hmt X (by omega) (by omega)
      have HMT := Lib.hid hmt2
      have HC := Lib.hid (And.intro h1 h2)
      have hbW : b < wr.heap.size := by omega
      have hjI : (j : Int) < n := by omega
      have hj0 : (0 : Int) ≤ (j : Int) := by omega
      have hn1 : (T.toList != T.toList) = false := by simp
      have hn2 : (T.toList == T.toList) = true := by simp
      have hn3 : (((k : Int) + 2 * (j : Int) + 1) != ((k : Int) + 2 * (j : Int) + 1)) = false := by simp
      have q4 : Below wr.heap.size wr wr.drew := ⟨rfl, rfl, rfl, Nat.le_refl _, fun _ _ => rfl⟩
      clear hcc h1 h2 hmt hmt2 hT hcastv hbr
      go_wp2
      go_region_held3 (fun w' => w'.cell? ⟨b, o + j * 2, none⟩ = some (.string T) ∧ w'.cell? ⟨b, o + j * 2 + 1, none⟩ = some (.int .i64 ((k : Int) + 2 * (j : Int) + 1)))
        (first | exact ⟨cell_stay q5 hbW HC.out.1, cell_stay q5 hbW HC.out.2⟩ | exact ⟨cell_stay q4 hbW HC.out.1, cell_stay q4 hbW HC.out.2⟩)
        ((first
          | (go_at_call 82; refine (HMT.out _).mono ?_; rintro e w5 ⟨rfl, b5⟩; have q5 : Below wr.heap.size wr w5 := q4.trans b5)
          | fail))
      have HQ := Lib.hid q5
      have c2 := cell_stay q5 hbW HC.out.2
      clear q4 q5 b5 hn1 hn2
      go_simp
      go_wp2
      go_roundw
      case rel => exact ⟨j + 1, by omega, by go_num, congrArg (Value.int .i64) (by push_cast; omega), HBR.out.trans (HQ.out.mono hbz)⟩
      case measure => simp [intOf]; omega
    · have hj' : j = n := by omega
      have HJ := Lib.hid hj'
      clear hj' hbr
      go_wp2
      go_ret
      exact ⟨ret_int (by rw [HJ.out]), HBR.out⟩
end Go.Proofs.Ytlmcclbikljbhaa
