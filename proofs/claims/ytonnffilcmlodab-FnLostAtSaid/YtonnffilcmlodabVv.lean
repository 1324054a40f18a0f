/- Fractions: equal lists, marks. No condition. -/
import Derived.Test.YtonnffilcmlodabVu
import Derived.Test.YtonnffilcmlodabVr
import Derived.Test.YtonnffilcmlodabMark2
import Derived.Deep.RegionHeld3
namespace Go.Proofs.Ytonnffilcmlodab
open Go.RowKit

theorem stayF {w w' : World} {b off : Nat} {v : Value} (q : Below w.heap.size w w') (hb : b < w.heap.size) (h : w.cell? ⟨b, off, none⟩ = some v) : w'.cell? ⟨b, off, none⟩ = some v := keepF q hb h

set_option maxRecDepth 100000 in
set_option maxHeartbeats 1000000 in
theorem eqFracS_self (A B : Option Addr) (c d : Nat) (rs : List (Nat × Nat)) (w : World) (hr : Own w 0 w.heap.size A (flatQ rs)) (hs : Own w 0 w.heap.size B (flatQ rs)) (hl : rs.length ≤ 1048576) :
    Calls Try.prog 22 #[.slice A rs.length c, .slice B rs.length d] w fun e w' => e = .returned (.bool true) ∧ Below w.heap.size w w' := by
  have ht : ((rs.length : Int) != (rs.length : Int)) = false := by simp
  go_enter Try.func22, Try.ntmps22
  go_wp2
  clear ht
  go_loopw [5] (fun i wr => ∃ k : Nat, k ≤ rs.length ∧ i = .int .i64 k ∧ Below w.heap.size w wr) (fun i _ => rs.length - (intOf i).toNat)
  case atStart => exact ⟨0, by omega, rfl, Below.refl _ _⟩
  case round =>
    obtain ⟨k, hk, rfl, hbr⟩ := hrel
    by_cases hlt : k < rs.length
    · obtain ⟨b, o, rfl, hb, hc⟩ := (hr.below hbr).open (by rw [flatQ_length]; omega)
      obtain ⟨b', o', rfl, hb', hc'⟩ := (hs.below hbr).open (by rw [flatQ_length]; omega)
      obtain ⟨h1, h2⟩ := fracs_at hc hlt
      obtain ⟨h3, h4⟩ := fracs_at hc' hlt
      have hz := hbr.size
      have HB := Lib.hid hbr
      obtain ⟨r, hre⟩ : ∃ r, rs[k] = r := ⟨_, rfl⟩
      rw [hre] at h1 h2 h3 h4
      obtain ⟨r1, r2⟩ := r
      dsimp only at h1 h2 h3 h4
      have HCS := Lib.hid (And.intro (And.intro h1 h2) (And.intro h3 h4))
      have hbw : b < wr.heap.size := by omega
      have hbw' : b' < wr.heap.size := by omega
      have q4 : Below wr.heap.size wr wr.drew := ⟨rfl, rfl, rfl, Nat.le_refl _, fun _ _ => rfl⟩
      have HEQ := Lib.hid (fun X => eqFrac_self r1 r2 X)
      unfold frV at HEQ
      dsimp only at HEQ
      clear hc hc' h1 h2 h3 h4 hbr hre
      go_wp2
      go_region_held3 (fun w' => (w'.cell? ⟨b, o + k * 2, none⟩ = some (.int .i64 (r1 : Int)) ∧ w'.cell? ⟨b, o + k * 2 + 1, none⟩ = some (.int .i64 (r2 : Int))) ∧ (w'.cell? ⟨b', o' + k * 2, none⟩ = some (.int .i64 (r1 : Int)) ∧ w'.cell? ⟨b', o' + k * 2 + 1, none⟩ = some (.int .i64 (r2 : Int))))
        (first | exact ⟨⟨stayF q5 hbw HCS.out.1.1, stayF q5 hbw HCS.out.1.2⟩, ⟨stayF q5 hbw' HCS.out.2.1, stayF q5 hbw' HCS.out.2.2⟩⟩ | exact ⟨⟨stayF q4 hbw HCS.out.1.1, stayF q4 hbw HCS.out.1.2⟩, ⟨stayF q4 hbw' HCS.out.2.1, stayF q4 hbw' HCS.out.2.2⟩⟩)
        ((first
          | (go_at_call 20; refine (HEQ.out _).mono ?_; rintro e w5 ⟨rfl, b5⟩; have q5 : Below wr.heap.size wr w5 := q4.trans b5)
          | fail))
      have HQ := Lib.hid q5
      clear q4 q5 b5
      go_simp
      go_wp2
      go_roundw
      case rel => exact ⟨k + 1, by omega, by go_num, HB.out.trans (HQ.out.mono hz)⟩
      case measure => simp [intOf]; omega
    · have hk' : k = rs.length := by omega
      subst hk'
      go_wp2
      go_ret
      exact ⟨rfl, hbr⟩

/-- The marks of n fractions. -/
def mkQ (k n : Nat) : List (Nat × Nat) := (List.range n).map fun i => (k + 2 * i, k + 2 * i + 1)
theorem mkQ_len (k n : Nat) : (mkQ k n).length = n := by simp [mkQ]
theorem mkQ_succ (k n : Nat) : mkQ k (n + 1) = mkQ k n ++ [(k + 2 * n, k + 2 * n + 1)] := by simp [mkQ, List.range_succ]
theorem mkQ_get {k n i : Nat} (h : i < n) : (mkQ k n)[i]'(by rw [mkQ_len]; exact h) = (k + 2 * i, k + 2 * i + 1) := by simp [mkQ]
theorem mkQ_step (rs : List (Nat × Nat)) (k j : Nat) (hj : j < rs.length) :
    ((flatQ (mkQ k j ++ rs.drop j)).set (j * 2) (.int .i64 ((k + 2 * j : Nat) : Int))).set (j * 2 + 1) (.int .i64 ((k + 2 * j + 1 : Nat) : Int)) = flatQ (mkQ k (j + 1) ++ rs.drop (j + 1)) := by
  have hl : (flatQ (mkQ k j)).length = j * 2 := by rw [flatQ_length, mkQ_len]; omega
  rw [List.drop_eq_getElem_cons hj, mkQ_succ, flatQ_append, flatQ_cons, List.append_assoc, List.singleton_append, flatQ_append, flatQ_cons]
  rw [List.set_append_right _ _ (by omega), List.set_append_right _ _ (by omega), hl]
  simp

set_option maxRecDepth 100000 in
set_option maxHeartbeats 2000000 in
theorem markFracS_at (A : Option Addr) (c : Nat) (rs : List (Nat × Nat)) (k base B : Nat) (w : World) (ho : Own w (base + 1) B A (flatQ rs)) (hB : B ≤ w.heap.size) (hl : rs.length ≤ 10000000) (hk1 : k ≤ 10000000) :
    Calls Try.prog 24 #[.slice A rs.length c, .int .i64 (k : Int)] w fun e w' => e = .returned (.int .i64 ((k + 2 * rs.length : Nat) : Int)) ∧ Own w' (base + 1) B A (flatQ (mkQ k rs.length)) ∧ Wrote base B w w' := by
  by_cases h0 : rs.length = 0
  · have hz : rs = [] := List.eq_nil_of_length_eq_zero h0
    subst hz
    clear ho
    go_enter Try.func24, Try.ntmps24
    go_wp2
    go_rounds 1
    go_ret
    exact ⟨by simp, .inl (by simp [mkQ, flatQ]), none, World.grownBy.refl w _, by simp⟩
  · obtain ⟨b, o, rfl, hbb, hlt, _, _⟩ := ho.open' (by omega) (by rw [flatQ_length]; omega)
    have hst : Own w (base + 1) B (some ⟨b, o, none⟩) (flatQ (mkQ k 0 ++ rs.drop 0)) := by simpa [mkQ] using ho
    have HST := Lib.hid hst
    have hbw : b < w.heap.size := by omega
    clear ho h0 hst
    go_enter Try.func24, Try.ntmps24
    go_wp2
    go_loopw [1, 5] (fun m i wr => ∃ j : Nat, j ≤ rs.length ∧ i = .int .i64 j ∧ m = .int .i64 ((k + 2 * j : Nat) : Int) ∧ Own wr (base + 1) B (some ⟨b, o, none⟩) (flatQ (mkQ k j ++ rs.drop j)) ∧ w.grownBy wr (some b)) (fun _ i _ => rs.length - (intOf i).toNat)
    case atStart => exact ⟨0, by omega, rfl, rfl, HST.out, World.grownBy.refl w _⟩
    case round =>
      obtain ⟨j, hj, rfl, rfl, ho, hg⟩ := hrel
      clear HST
      have HG := Lib.hid hg
      have hgz := hg.size
      clear hg
      by_cases hjl : j < rs.length
      · have hjI : (j : Int) < rs.length := by omega
        have hj0 : (0 : Int) ≤ (j : Int) := by omega
        have hlen2 : (flatQ (mkQ k j ++ rs.drop j)).length = 2 * rs.length := by rw [flatQ_length, List.length_append, mkQ_len, List.length_drop]; omega
        have ho2 := ho
        obtain ⟨b', o', e, _, _, hcc, hf⟩ := ho2.open' (by omega) (by omega)
        simp only [Option.some.injEq, Addr.mk.injEq, and_true] at e
        obtain ⟨rfl, rfl⟩ := e
        have c1 := hcc (j * 2) _ (List.getElem?_eq_getElem (by omega))
        have c2 := hcc (j * 2 + 1) _ (List.getElem?_eq_getElem (by omega))
        obtain ⟨y1, hy1⟩ : ∃ y, (flatQ (mkQ k j ++ rs.drop j))[j * 2]'(by omega) = y := ⟨_, rfl⟩
        obtain ⟨y2, hy2⟩ : ∃ y, (flatQ (mkQ k j ++ rs.drop j))[j * 2 + 1]'(by omega) = y := ⟨_, rfl⟩
        rw [hy1] at c1
        rw [hy2, ← Nat.add_assoc] at c2
        have f1 := hf (o + j * 2)
        have f2 := hf (o + j * 2 + 1)
        have HSS := Lib.hid (mkQ_step rs k j hjl)
        obtain ⟨p, hp⟩ : ∃ p : Nat, k + 2 * j = p := ⟨_, rfl⟩
        have HP := Lib.hid hp
        rw [hp] at HSS ⊢
        have hp9 : p ≤ 100000000 := by omega
        have hset := (ho.set (j * 2) (.int .i64 ((p : Nat) : Int))).set (j * 2 + 1) (.int .i64 ((p + 1 : Nat) : Int))
        rw [HSS.out] at hset
        have hcastv : ((p + 1 : Nat) : Int) = (p : Int) + 1 := by push_cast; rfl
        have HS := Lib.hid (show Own ((wr.setCell ⟨b, o + j * 2, none⟩ (.int .i64 (p : Int))).setCell ⟨b, o + j * 2 + 1, none⟩ (.int .i64 ((p : Int) + 1))) (base + 1) B (some ⟨b, o, none⟩) (flatQ (mkQ k (j + 1) ++ rs.drop (j + 1))) ∧ w.grownBy ((wr.setCell ⟨b, o + j * 2, none⟩ (.int .i64 (p : Int))).setCell ⟨b, o + j * 2 + 1, none⟩ (.int .i64 ((p : Int) + 1))) (some b) from by
          rw [← hcastv]
          exact ⟨hset, g_set (g_set HG.out (o + j * 2) (.int .i64 (p : Int))) (o + j * 2 + 1) (.int .i64 ((p + 1 : Nat) : Int))⟩)
        clear hcc hf hy1 hy2 hlen2 ho2 hset hcastv hp ho
        go_wp2
        go_roundw
        case rel => exact ⟨j + 1, by omega, by go_num, congrArg (Value.int .i64) (by have := HP.out; omega), HS.out.1, HS.out.2⟩
        case measure => simp [intOf]; omega
      · have hj' : j = rs.length := by omega
        have HF := Lib.hid (show Own wr (base + 1) B (some ⟨b, o, none⟩) (flatQ (mkQ k rs.length)) by
          have := ho
          rwa [hj', List.drop_length, List.append_nil] at this)
        have HJ := Lib.hid hj'
        clear hj' ho
        go_wp2
        go_ret
        exact ⟨ret_int (by rw [HJ.out]), HF.out, some b, HG.out, fun i hi => by injection hi with hi; omega⟩

set_option maxRecDepth 100000 in
set_option maxHeartbeats 2000000 in
theorem heldFracS_any (A : Option Addr) (c n k : Nat) (w : World) (ho : Own w 0 w.heap.size A (flatQ (mkQ k n))) (hl : n ≤ 10000000) (hk1 : k ≤ 10000000) :
    Calls Try.prog 25 #[.slice A n c, .int .i64 (k : Int)] w fun e w' => e = .returned (.int .i64 ((k + 2 * n : Nat) : Int)) ∧ w = w' := by
  go_enter Try.func25, Try.ntmps25
  go_wp2
  go_loop [1, 5] (fun m i => ∃ j : Nat, j ≤ n ∧ i = .int .i64 j ∧ m = .int .i64 ((k + 2 * j : Nat) : Int)) (fun _ i => n - (intOf i).toNat)
  case atStart => exact ⟨0, by omega, rfl, rfl⟩
  case round =>
    obtain ⟨j, hj, rfl, rfl⟩ := hrel
    by_cases hjl : j < n
    · obtain ⟨b, o, rfl, hb, hcc⟩ := ho.open (by rw [flatQ_length, mkQ_len]; omega)
      obtain ⟨h1, h2⟩ := fracs_at hcc (show j < (mkQ k n).length by rw [mkQ_len]; exact hjl)
      rw [mkQ_get hjl] at h1 h2
      dsimp only at h1 h2
      obtain ⟨p, hp⟩ : ∃ p : Nat, k + 2 * j = p := ⟨_, rfl⟩
      have HP := Lib.hid hp
      rw [hp] at h1 h2 ⊢
      have hp9 : p ≤ 100000000 := by omega
      have hcastv : ((p + 1 : Nat) : Int) = (p : Int) + 1 := by push_cast; rfl
      rw [hcastv] at h2
      have hjI : (j : Int) < n := by omega
      have hj0 : (0 : Int) ≤ (j : Int) := by omega
      have hn2 : (((p : Int)) != (p : Int)) = false := by simp
      have hn3 : (((p : Int) + 1) != ((p : Int) + 1)) = false := by simp
      clear hcc hcastv hp
      go_wp2
      go_round
      case rel => exact ⟨j + 1, by omega, by go_num, congrArg (Value.int .i64) (by have := HP.out; omega)⟩
      case measure => simp [intOf]; omega
    · have hj' : j = n := by omega
      have HJ := Lib.hid hj'
      clear hj'
      go_wp2
      go_ret
      exact ⟨ret_int (by rw [HJ.out]), rfl⟩
end Go.Proofs.Ytonnffilcmlodab
