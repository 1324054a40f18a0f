/- Rows of rows are sized and copied. No condition. -/
import Derived.Test.YtonnffilcmlodaaG4
import Derived.Test.YtonnffilcmlodaaT
namespace Go.Proofs.Ytonnffilcmlodaa
open Go.RowKit

set_option maxRecDepth 100000 in
theorem szIntS_any (A : Option Addr) (c n : Nat) (left : Int) (w : World) (hn : n ≤ 9223372036854775807) (h0 : 0 ≤ left) (h1 : left ≤ 1048576) :
    Calls Try.prog 59 #[.slice A n c, .int .i64 left] w fun e w' => ∃ r : Int, e = .returned (.int .i64 r) ∧ r ≤ left ∧ (0 ≤ r → r = left - n) ∧ w = w' := by
  by_cases h : left - n < 0
  · go_enter Try.func59, Try.ntmps59
    go_wp2
    go_ret
    exact ⟨-1, rfl, by omega, by omega, rfl⟩
  · have h' : 0 ≤ left - n := by omega
    clear h
    go_enter Try.func59, Try.ntmps59
    go_wp2
    go_ret
    exact ⟨left - n, rfl, by omega, fun _ => rfl, rfl⟩

set_option maxRecDepth 100000 in
set_option maxHeartbeats 1000000 in
theorem szIntSS_any (A : Option Addr) (c : Nat) (rs : List (List Int)) (w : World) (hr : Grid w 0 w.heap.size A rs) (hl : rs.length ≤ 9223372036854775807) (hs : ∀ r ∈ rs, r.length ≤ 9223372036854775807) :
    Calls Try.prog 33 #[.slice A rs.length c, .int .i64 1048576] w fun e w' => ∃ r : Int, e = .returned (.int .i64 r) ∧ (0 ≤ r → rs.length + total rs ≤ 1048576) ∧ w = w' := by
  have HS := Lib.hid hs
  clear hs
  by_cases h : (1048576 : Int) - rs.length < 0
  · go_enter Try.func33, Try.ntmps33
    go_wp2
    go_ret
    exact ⟨-1, rfl, by omega, rfl⟩
  · have h' : (0 : Int) ≤ 1048576 - rs.length := by omega
    have hd : decide ((1048576 : Int) - rs.length < 0) = false := decide_eq_false h
    clear h
    go_enter Try.func33, Try.ntmps33
    go_wp2
    clear hd
    go_loop [1, 5] (fun m i => ∃ (k : Nat) (l : Int), k ≤ rs.length ∧ i = .int .i64 k ∧ m = .int .i64 l ∧ 0 ≤ l ∧ l ≤ 1048576 ∧ l + rs.length + (total (rs.take k) : Int) ≤ 1048576) (fun _ i => rs.length - (intOf i).toNat)
    case atStart => exact ⟨0, _, by omega, rfl, rfl, by omega, by omega, by simp [total]⟩
    case round =>
      obtain ⟨k, l, hk, rfl, rfl, hl0, hl1, hsum⟩ := hrel
      have HSUM := Lib.hid hsum
      clear hsum
      by_cases hlt : k < rs.length
      · obtain ⟨b, o, R, c1, rfl, hb, hcell, hc1, ho⟩ := hr.open hlt
        have hsz := HS.out _ (List.getElem_mem hlt)
        have HTK := Lib.hid (total_take hlt)
        clear ho hc1
        go_wp2_with fail
        refine (szIntS_any R c1 rs[k].length l _ hsz hl0 hl1).mono ?_
        rintro e w' ⟨r, rfl, hrl, hr0, rfl⟩
        have HR := Lib.hid hr0
        clear hr0 hsz
        by_cases hneg : r < 0
        · go_wp2
          go_ret
          exact ⟨-1, rfl, by omega, rfl⟩
        · have hr00 : 0 ≤ r := by omega
          clear hneg
          go_wp2
          go_round
          case rel => exact ⟨k + 1, r, by omega, by go_num, rfl, hr00, by omega, by rw [HTK.out]; have := HR.out hr00; have := HSUM.out; omega⟩
          case measure => simp [intOf]; omega
      · have hk' : k = rs.length := by omega
        subst hk'
        go_wp2
        go_ret
        refine ⟨l, rfl, fun _ => ?_, rfl⟩
        have := HSUM.out
        rw [List.take_length] at this
        omega

theorem fill_set {α : Type} (d : α) (zs : List α) (k : Nat) (hk : k < zs.length) : (zs.take k ++ List.replicate (zs.length - k) d).set k zs[k] = zs.take (k + 1) ++ List.replicate (zs.length - (k + 1)) d := by
  obtain ⟨m, hm⟩ : ∃ m, zs.length - k = m + 1 := ⟨zs.length - k - 1, by omega⟩
  rw [hm, show zs.length - (k + 1) = m by omega, List.replicate_succ, List.set_append_right _ _ (by simp; omega), List.length_take, Nat.min_eq_left (by omega), Nat.sub_self, List.set_cons_zero, List.take_succ_eq_append_getElem hk, List.append_assoc]
  rfl

theorem own_heapN {w : World} {base : Nat} {e : TypeId} {k g s : Nat} {xs : List Value} (h : w.ownsRow base e s (.slice (some ⟨g, 0, none⟩) k k) k xs) : w.heap[g]? = some (.cells xs.toArray e (0, 0)) := by
  rcases h.2 with ⟨hv, _⟩ | ⟨g', cap, cur, hv, _, hh, _, _, hcs, ht⟩
  · cases hv
  · simp only [Value.slice.injEq, Option.some.injEq, Addr.mk.injEq, and_true, true_and] at hv
    obtain ⟨rfl, rfl⟩ := hv
    rw [hh, ← ht, List.take_of_length_le (Nat.le_of_eq (by rw [Array.length_toList, hcs]))]

/-- Empty rows. -/
theorem MG.start {w : World} {base g n : Nat} (h : w.heap[g]? = some (.cells (List.replicate n (Value.slice none 0 0)).toArray 28 (0, 0))) (hb : base ≤ g) : MG w base g (List.replicate n (.slice none 0 0)) (List.replicate n []) := by
  refine ⟨h, hb, ⟨by simp, fun i hi => ?_⟩, ⟨fun i j hi hj A B c d hij h1 => ?_, fun i hi A c h1 => ?_⟩⟩
  · simp only [List.length_replicate] at hi
    refine ⟨none, 0, by simp [hi], by simp, .inl (by simp)⟩
  · simp at h1
  · simp at h1

set_option maxRecDepth 100000 in
set_option maxHeartbeats 1000000 in
theorem toIntSS_any (A : Option Addr) (c : Nat) (rs : List (List Int)) (w : World) (hr : Grid w 0 w.heap.size A rs) (hl : rs.length ≤ 1048576) (hs : ∀ r ∈ rs, r.length ≤ 1048576) :
    Calls Try.prog 34 #[.slice A rs.length c] w fun e w' => ∃ A' c', e = .returned (.slice A' rs.length c') ∧ rs.length ≤ c' ∧ MGrid w' w.heap.size w'.heap.size A' rs ∧ Below w.heap.size w w' := by
  obtain ⟨i0, hi0, hz0, hz1, hz2⟩ := info_parts Try.infoR
  have HS := Lib.hid hs
  clear hs
  go_enter Try.func34, Try.ntmps34
  go_wp2_with (at_make; refine wpList_make_full _ rfl (.tmp 6) (.tmp 6) _ rfl w.heap.size 28 i0 (.slice none 0 0) 1 Try.underlying23 hi0 hz0 hz1 _ _ _ _ _ rfl rfl rfl rfl (by rw [hz2]; omega) (by unfold maxLen; omega) (Nat.le_refl _) ?_)
  intro w1 hown hg
  have hb1 : Below w.heap.size w w1 := (Below.refl _ _).grown hg (Nat.le_refl _) (by simp)
  have hblk := own_heapN hown
  have hcs : (madeCells #[Value.slice none 0 0] rs.length).toList = List.replicate rs.length (Value.slice none 0 0) := toList_madeCells_one _ _
  rw [hcs] at hblk
  have hst := MG.start hblk (Nat.le_refl _)
  have HB1 := Lib.hid (And.intro hst hb1)
  clear hown hg hb1 hblk hcs hst
  go_wp2
  go_loopw [4] (fun i wr => ∃ (k : Nat) (hs : List Value), k ≤ rs.length ∧ i = .int .i64 k ∧ MG wr w.heap.size w.heap.size hs (rs.take k ++ List.replicate (rs.length - k) []) ∧ Below w.heap.size w wr) (fun i _ => rs.length - (intOf i).toNat)
  case atStart => exact ⟨0, _, by omega, rfl, by simpa using HB1.out.1, HB1.out.2⟩
  case round =>
    obtain ⟨k, hs, hk, rfl, hmg, hbr⟩ := hrel
    clear HB1
    by_cases hlt : k < rs.length
    · obtain ⟨b, o, R, c1, rfl, hb, hcell, hc1, ho⟩ := (hr.below hbr).open hlt
      have hsz := HS.out _ (List.getElem_mem hlt)
      have HMG := Lib.hid hmg
      have HBR := Lib.hid hbr
      have hbz := hbr.size
      clear hc1 hmg hbr
      go_wp2_with fail
      refine (toIntS_cap R c1 rs[k] wr (ho.more hbz) (by omega)).mono ?_
      rintro e w2 ⟨A', c', rfl, hc', o2, b2⟩
      have hkl : k < (rs.take k ++ List.replicate (rs.length - k) []).length := by simp; omega
      have hm2 := HMG.out.keep b2
      obtain ⟨y, hy⟩ : ∃ y, w2.cell? ⟨w.heap.size, k, none⟩ = some y := by obtain ⟨R0, c0, h, _⟩ := hm2.head hkl; exact ⟨_, h⟩
      have hfr := hm2.frozen k
      have hset := HMG.out.setHead b2 o2 hc' hkl
      rw [fill_set [] rs k hlt] at hset
      have HSET := Lib.hid hset
      have HB2 := Lib.hid ((HBR.out.trans (b2.mono HBR.out.size)).setCell (p := ⟨w.heap.size, k, none⟩) (Nat.le_refl _) (.slice A' rs[k].length c'))
      clear hm2 hset hkl o2 b2
      go_wp2
      go_roundw
      case rel => exact ⟨k + 1, _, by omega, by go_num, HSET.out, HB2.out⟩
      case measure => simp [intOf]; omega
    · have hk' : k = rs.length := by omega
      subst hk'
      have hfin : rs.take rs.length ++ List.replicate (rs.length - rs.length) [] = rs := by simp
      rw [hfin] at hmg
      have HMG := Lib.hid hmg
      have HBR := Lib.hid hbr
      clear hfin hmg hbr
      go_wp2
      go_ret
      exact ⟨_, _, rfl, Nat.le_refl _, HMG.out.mgrid, HBR.out⟩
end Go.Proofs.Ytonnffilcmlodaa
