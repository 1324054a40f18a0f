/- Routes in memory. No condition. -/
import Derived.Test.YtlmcclbikljbhaaDr
import Derived.Test.YtlmcclbikljbhaaMark2
namespace Go.Proofs.Ytlmcclbikljbhaa
open Go.RowKit

/-- A list of heads and offices, as it lies in memory. -/
def flat (rs : List (ByteArray × Int)) : List Value := rs.flatMap fun r => [.string r.1, .int .i64 r.2]
theorem flat_length (rs : List (ByteArray × Int)) : (flat rs).length = 2 * rs.length := by
  induction rs with
  | nil => rfl
  | cons r rs ih => simp only [flat, List.flatMap_cons, List.length_append, List.length_cons, List.length_nil] at ih ⊢; omega
theorem flat_cons (r : ByteArray × Int) (rs : List (ByteArray × Int)) : flat (r :: rs) = [.string r.1, .int .i64 r.2] ++ flat rs := rfl
theorem flat_append (rs ss : List (ByteArray × Int)) : flat (rs ++ ss) = flat rs ++ flat ss := by simp [flat]
theorem flat_get (rs : List (ByteArray × Int)) (k : Nat) (h : k < rs.length) : (flat rs)[k * 2]? = some (.string rs[k].1) ∧ (flat rs)[k * 2 + 1]? = some (.int .i64 rs[k].2) := by
  induction rs generalizing k with
  | nil => simp at h
  | cons r rs ih =>
    rw [flat_cons]
    cases k with
    | zero => exact ⟨rfl, rfl⟩
    | succ k =>
      simp only [List.length_cons] at h
      have := ih k (by omega)
      rw [List.getElem?_append_right (by simp; omega), List.getElem?_append_right (by simp; omega)]
      simp only [List.length_cons, List.length_nil, List.getElem_cons_succ]
      rw [show (k + 1) * 2 - (0 + 1 + 1) = k * 2 by omega, show (k + 1) * 2 + 1 - (0 + 1 + 1) = k * 2 + 1 by omega]
      exact this
theorem routes_at {w : World} {b o : Nat} {rs : List (ByteArray × Int)} (hc : ∀ j u, (flat rs)[j]? = some u → w.cell? ⟨b, o + j, none⟩ = some u) {k : Nat} (hk : k < rs.length) :
    w.cell? ⟨b, o + k * 2, none⟩ = some (.string rs[k].1) ∧ w.cell? ⟨b, o + k * 2 + 1, none⟩ = some (.int .i64 rs[k].2) := by
  have h := flat_get rs k hk
  exact ⟨hc _ _ h.1, by rw [Nat.add_assoc]; exact hc _ _ h.2⟩

set_option maxRecDepth 100000 in
theorem szRoute_any (s : ByteArray) (n left : Int) (w : World) (hs : s.size ≤ 9223372036854775807) (hl : left ≤ 1048576) (hl0 : 0 ≤ left) :
    Calls Try.prog 83 #[.agg #[.string s, .int .i64 n], .int .i64 left] w fun e w' => ∃ r : Int, e = .returned (.int .i64 r) ∧ r ≤ left ∧ (0 ≤ r → (s.size : Int) ≤ left) ∧ Below w.heap.size w w' := by
  by_cases h : left - s.size < 0
  · go_enter Try.func83, Try.ntmps83
    go_wp2
    go_ret
    exact ⟨-1, rfl, by omega, by omega, (Below.refl _ _).alloc (Nat.le_refl _) _⟩
  · have h' : 0 ≤ left - s.size := by omega
    clear h
    go_enter Try.func83, Try.ntmps83
    go_wp2
    go_ret
    exact ⟨left - s.size, rfl, by omega, by omega, (Below.refl _ _).alloc (Nat.le_refl _) _⟩

set_option maxRecDepth 100000 in
set_option maxHeartbeats 1000000 in
theorem szRouteS_any (A : Option Addr) (c : Nat) (rs : List (ByteArray × Int)) (w : World) (hr : Own w 0 w.heap.size A (flat rs)) (hl : rs.length ≤ 9223372036854775807) (hs : ∀ r ∈ rs, r.1.size ≤ 9223372036854775807) :
    Calls Try.prog 37 #[.slice A rs.length c, .int .i64 1048576] w fun e w' => ∃ r : Int, e = .returned (.int .i64 r) ∧ (0 ≤ r → rs.length ≤ 1048576 ∧ ∀ r ∈ rs, r.1.size ≤ 1048576) ∧ Below w.heap.size w w' := by
  have HS := Lib.hid hs
  clear hs
  by_cases h : (1048576 : Int) - rs.length < 0
  · go_enter Try.func37, Try.ntmps37
    go_wp2
    go_ret
    exact ⟨-1, rfl, by omega, Below.refl _ _⟩
  · have h' : (0 : Int) ≤ 1048576 - rs.length := by omega
    have hd : decide ((1048576 : Int) - rs.length < 0) = false := decide_eq_false h
    clear h
    go_enter Try.func37, Try.ntmps37
    go_wp2
    clear hd
    go_loopw [1, 5] (fun m i wr => ∃ (k : Nat) (l : Int), k ≤ rs.length ∧ i = .int .i64 k ∧ m = .int .i64 l ∧ 0 ≤ l ∧ l ≤ 1048576 ∧ (∀ r ∈ rs.take k, r.1.size ≤ 1048576) ∧ Below w.heap.size w wr) (fun _ i _ => rs.length - (intOf i).toNat)
    case atStart => exact ⟨0, _, by omega, rfl, rfl, by omega, by omega, by simp, Below.refl _ _⟩
    case round =>
      obtain ⟨k, l, hk, rfl, rfl, hl0, hl1, hall, hbr⟩ := hrel
      have HA := Lib.hid hall
      have HB := Lib.hid hbr
      by_cases hlt : k < rs.length
      · obtain ⟨b, o, rfl, hb, hc⟩ := (hr.below hbr).open (by rw [flat_length]; omega)
        obtain ⟨hc1, hc2⟩ := routes_at hc hlt
        have hsz := HS.out _ (List.getElem_mem hlt)
        clear hc hall hbr
        go_wp2_with fail
        refine (szRoute_any rs[k].1 rs[k].2 l _ hsz hl1 hl0).mono ?_
        rintro e w2 ⟨r, rfl, hrl, hr0, b2⟩
        by_cases hneg : r < 0
        · clear hr0
          go_wp2
          go_ret
          exact ⟨-1, rfl, by omega, HB.out.trans (b2.mono HB.out.size)⟩
        · have hr00 : 0 ≤ r := by omega
          have hsl := hr0 hr00
          have hss : rs[k].1.size ≤ 1048576 := by omega
          have HSS := Lib.hid hss
          have H2 := Lib.hid b2
          clear hr0 hneg hsl hss b2 hsz
          go_wp2
          go_roundw
          case rel =>
            refine ⟨k + 1, r, by omega, by go_num, rfl, hr00, by omega, fun x hx => ?_, HB.out.trans (H2.out.mono HB.out.size)⟩
            rw [List.take_succ_eq_append_getElem hlt, List.mem_append, List.mem_singleton] at hx
            rcases hx with hx | rfl
            · exact HA.out x hx
            · exact HSS.out
          case measure => simp [intOf]; omega
      · have hk' : k = rs.length := by omega
        subst hk'
        clear hall hbr
        go_wp2
        go_ret
        refine ⟨l, rfl, fun _ => ⟨by omega, ?_⟩, HB.out⟩
        have := HA.out
        rwa [List.take_length] at this

theorem cell_stay {w w' : World} {b off : Nat} {v : Value} (q : Below w.heap.size w w') (hb : b < w.heap.size) (h : w.cell? ⟨b, off, none⟩ = some v) : w'.cell? ⟨b, off, none⟩ = some v := by
  rw [q.cell (p := ⟨b, off, none⟩) hb]; exact h
end Go.Proofs.Ytlmcclbikljbhaa
