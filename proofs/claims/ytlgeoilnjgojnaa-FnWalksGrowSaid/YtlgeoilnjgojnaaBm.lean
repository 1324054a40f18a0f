/- slices.Contains over houses. No condition. -/
import Derived.Test.YtlgeoilnjgojnaaH10
import Derived.Test.YtlgeoilnjgojnaaO2
import Derived.Laws.StructEq
import Derived.Test.YtlgeoilnjgojnaaB1
import Derived.Test.YtlgeoilnjgojnaaG4
import Derived.Test.YtlgeoilnjgojnaaG6
namespace Go.Proofs.Ytlgeoilnjgojnaa
open Go.RowKit

/-- Is a house among the first k. -/
def inH (L : List (Int × Int)) (a : Int × Int) : Bool := decide (a ∈ L)
theorem inH_take {L : List (Int × Int)} {a : Int × Int} {k : Nat} (hk : k < L.length) (h : inH (L.take k) a = false) (hne : a ≠ L[k]) : inH (L.take (k + 1)) a = false := by
  simp only [inH, decide_eq_false_iff_not] at h ⊢
  rw [List.take_succ_eq_append_getElem hk, List.mem_append, List.mem_singleton]
  rintro (h1 | h1)
  · exact h h1
  · exact hne h1

set_option maxRecDepth 100000 in
set_option maxHeartbeats 4000000 in
theorem idxH_any (A : Option Addr) (c : Nat) (L : List (Int × Int)) (p s : Int) (w : World) (ho : Own w 0 w.heap.size A (flatP L)) (hl : L.length ≤ 10) :
    Calls Try.prog 116 #[.slice A L.length c, .agg #[.int .i64 p, .int .i64 s]] w fun e w' => ∃ r : Int, e = .returned (.int .i64 r) ∧ decide ((0 : Int) ≤ r) = inH L (p, s) ∧ Below w.heap.size w w' := by
  go_enter Try.func116, Try.ntmps116
  go_wp2
  go_loopw [8] (fun i wr => ∃ (k : Nat), k ≤ L.length ∧ i = .int .i64 k ∧ inH (L.take k) (p, s) = false ∧ wr.heap[w.heap.size]? = some (.cells #[.int .i64 p, .int .i64 s] 66 (0, 0)) ∧ Below w.heap.size w wr) (fun i _ => L.length - (intOf i).toNat)
  case atStart => exact ⟨0, by omega, rfl, by simp [inH], heap_alloc_new w _, (Below.refl _ _).alloc (Nat.le_refl _) _⟩
  case round =>
    obtain ⟨k, hk, rfl, hin, hblk, hbr⟩ := hrel
    have HBR := Lib.hid hbr
    have HIN := Lib.hid hin
    have HBK := Lib.hid hblk
    have hbz := hbr.size
    have n0 : wr.cell? ⟨w.heap.size, 0, none⟩ = some (.int .i64 p) := by rw [cell_of_row wr _ 0 _ _ _ hblk]; rfl
    have n1 : wr.cell? ⟨w.heap.size, 1, none⟩ = some (.int .i64 s) := by rw [cell_of_row wr _ 1 _ _ _ hblk]; rfl
    clear hblk hin
    by_cases hlt : k < L.length
    · obtain ⟨b, o, rfl, hb, hc⟩ := (ho.below hbr).open (by rw [flatP_length]; omega)
      have hcc := pairs_at hc hlt
      obtain ⟨q, t, hqt⟩ : ∃ q t, L[k] = (q, t) := ⟨_, _, rfl⟩
      have HQT := Lib.hid hqt
      have HLT := Lib.hid hlt
      rw [hqt] at hcc
      obtain ⟨c0, c1⟩ := hcc
      have hki : (k : Int) < L.length := by omega
      have hk0 : (0 : Int) ≤ (k : Int) := by omega
      clear hc hqt hbr ho
      by_cases e1 : p = q
      · by_cases e2 : s = t
        · have f1 : (p == q) = true := by simpa using e1
          have f2 : (s == t) = true := by simpa using e2
          have HF := Lib.hid (show decide ((0 : Int) ≤ (k : Int)) = inH L (p, s) by
            rw [decide_eq_true hk0, e1, e2, ← HQT.out]; simp [inH])
          clear e1 e2
          go_wp2
          go_quiet (fail)
          go_simp
          go_wp2
          go_ret
          exact ⟨_, rfl, HF.out, (below_drewN HBR.out _)⟩
        · have f1 : (p == q) = true := by simpa using e1
          have f2 : (s == t) = false := by simpa using e2
          have HF := Lib.hid (inH_take HLT.out HIN.out (by rw [HQT.out]; simp [e2]))
          clear e1 e2
          go_wp2
          go_quiet (fail)
          go_simp
          go_wp2
          go_roundw
          case rel => exact ⟨k + 1, by have := HLT.out; omega, by go_num, HF.out, HBK.out, (below_drewN HBR.out _)⟩
          case measure => have := HLT.out; simp [intOf]; omega
      · have f1 : (p == q) = false := by simpa using e1
        have HF := Lib.hid (inH_take HLT.out HIN.out (by rw [HQT.out]; simp [e1]))
        clear e1
        go_wp2
        go_quiet (fail)
        go_simp
        go_wp2
        go_roundw
        case rel => exact ⟨k + 1, by have := HLT.out; omega, by go_num, HF.out, HBK.out, (below_drewN HBR.out _)⟩
        case measure => have := HLT.out; simp [intOf]; omega
    · have hk' : k = L.length := by omega
      subst hk'
      have HF := Lib.hid (show decide ((0 : Int) ≤ -1) = inH L (p, s) by have := HIN.out; rw [List.take_length] at this; rw [this]; rfl)
      go_wp2
      go_ret
      exact ⟨_, rfl, HF.out, HBR.out⟩

set_option maxRecDepth 100000 in
theorem containsH_any (A : Option Addr) (c : Nat) (L : List (Int × Int)) (p s : Int) (w : World) (ho : Own w 0 w.heap.size A (flatP L)) (hl : L.length ≤ 10) :
    Calls Try.prog 92 #[.slice A L.length c, .agg #[.int .i64 p, .int .i64 s]] w fun e w' => e = .returned (.bool (inH L (p, s))) ∧ Below w.heap.size w w' := by
  have hb1 : ∀ x, Below w.heap.size w (w.alloc x) := fun x => (Below.refl _ _).alloc (Nat.le_refl _) x
  have H := Lib.hid (fun x => idxH_any A c L p s (w.alloc x) ((ho.below (hb1 x)).more (hb1 x).size) hl)
  clear ho
  go_enter Try.func92, Try.ntmps92
  go_wp2_with fail
  refine (H.out _).mono ?_
  rintro e w' ⟨r, rfl, h1, h2⟩
  go_wp2
  go_ret
  exact ⟨by rw [← h1]; rfl, (hb1 _).trans (h2.mono (hb1 _).size)⟩


/-- Houses, each once, those at the start left out. -/
def stops (hs : List (Int × Int)) : List (Int × Int) := hs.foldl (fun L h => if (h = (0, 0) ∨ inH L h = true) then L else L ++ [h]) []
theorem stops_take {hs : List (Int × Int)} {k : Nat} (hk : k < hs.length) : stops (hs.take (k + 1)) = if (hs[k] = (0, 0) ∨ inH (stops (hs.take k)) hs[k] = true) then stops (hs.take k) else stops (hs.take k) ++ [hs[k]] := by
  rw [List.take_succ_eq_append_getElem hk]
  simp only [stops, List.foldl_append, List.foldl_cons, List.foldl_nil]
  rfl
theorem stops_facts (hs : List (Int × Int)) (k : Nat) (hk : k ≤ hs.length) : (stops (hs.take k)).length ≤ k ∧ (∀ h ∈ stops (hs.take k), h ∈ hs.take k) ∧ (∀ h ∈ hs.take k, h = (0, 0) ∨ h ∈ stops (hs.take k)) := by
  induction k with
  | zero => simp [stops]
  | succ k ih =>
    obtain ⟨h1, h2, h3⟩ := ih (by omega)
    have ht : hs.take (k + 1) = hs.take k ++ [hs[k]] := List.take_succ_eq_append_getElem (by omega)
    rw [stops_take (by omega)]
    by_cases hc : hs[k] = (0, 0) ∨ inH (stops (hs.take k)) hs[k] = true
    · rw [if_pos hc]
      refine ⟨by omega, fun h hm => by rw [ht]; exact List.mem_append.2 (.inl (h2 h hm)), fun h hm => ?_⟩
      rw [ht, List.mem_append, List.mem_singleton] at hm
      rcases hm with hm | rfl
      · exact h3 h hm
      · rcases hc with hc | hc
        · exact .inl hc
        · exact .inr (of_decide_eq_true hc)
    · rw [if_neg hc]
      refine ⟨by simp; omega, fun h hm => ?_, fun h hm => ?_⟩
      · rw [List.mem_append, List.mem_singleton] at hm
        rw [ht, List.mem_append, List.mem_singleton]
        rcases hm with hm | hm
        · exact .inl (h2 h hm)
        · exact .inr hm
      · rw [ht, List.mem_append, List.mem_singleton] at hm
        rw [List.mem_append, List.mem_singleton]
        rcases hm with hm | hm
        · rcases h3 h hm with h0 | h0
          · exact .inl h0
          · exact .inr (.inl h0)
        · exact .inr (.inr hm)
theorem stops_length (hs : List (Int × Int)) : (stops hs).length ≤ hs.length := by have := (stops_facts hs hs.length (Nat.le_refl _)).1; rwa [List.take_length] at this
theorem grown_below {a b : World} {row : Option Nat} (h : Below a.heap.size a b) : a.grownBy b row := ⟨h.os, h.tape, h.output, h.size, fun k hk _ => h.block k hk⟩

set_option maxRecDepth 100000 in
set_option maxHeartbeats 4000000 in
theorem stopsAt_any (A : Option Addr) (c : Nat) (hs : List (Int × Int)) (w : World) (ho : Own w 0 w.heap.size A (flatP hs)) (hl : hs.length ≤ 6) :
    Calls Try.prog 50 #[.slice A hs.length c] w fun e w' => ∃ A' c', e = .returned (.slice A' (stops hs).length c') ∧ (stops hs).length ≤ c' ∧ Own w' (w.heap.size + 1) w'.heap.size A' (flatP (stops hs)) ∧ Below w.heap.size w w' := by
  obtain ⟨i0, hi0, hz0, hz1, hz2⟩ := info_parts Try.infoH
  go_enter Try.func50, Try.ntmps50
  go_wp2
  go_loopw [3, 8] (fun v i wr => ∃ (k n : Nat) (H : Option Addr) (cH : Nat), k ≤ hs.length ∧ i = .int .i64 k ∧ v = .slice H n cH ∧ n = (stops (hs.take k)).length ∧ wr.ownsRow w.heap.size 66 2 (.slice H n cH) n (flatP (stops (hs.take k))) ∧ Below w.heap.size w wr) (fun _ i _ => hs.length - (intOf i).toNat)
  case atStart => exact ⟨0, 0, none, 0, by omega, rfl, rfl, rfl, ⟨rfl, .inl ⟨rfl, rfl⟩⟩, Below.refl _ _⟩
  case round =>
    obtain ⟨k, n, H, cH, hk, rfl, rfl, hn, hown, hbr⟩ := hrel
    have HN := Lib.hid hn
    have HO := Lib.hid hown
    have HBR := Lib.hid hbr
    have hbz := hbr.size
    have hn6 : n ≤ 6 := by have := (stops_facts hs k hk).1; omega
    clear hn hown
    by_cases hlt : k < hs.length
    · obtain ⟨b, o, rfl, hb, hc⟩ := (ho.below hbr).open (by rw [flatP_length]; omega)
      have hcc := pairs_at hc hlt
      obtain ⟨p, s, hps⟩ : ∃ p s, hs[k] = (p, s) := ⟨_, _, rfl⟩
      have HST := Lib.hid (stops_take hlt)
      have HPS := Lib.hid hps
      have HLT := Lib.hid hlt
      rw [hps] at hcc
      obtain ⟨c0, c1⟩ := hcc
      clear hc hps hbr ho
      obtain ⟨L, hL⟩ : ∃ L, stops (hs.take k) = L := ⟨_, rfl⟩
      have HLE := Lib.hid hL
      have hoL := HO.out
      have hnL := HN.out
      rw [hL] at hoL hnL
      have HOL := Lib.hid hoL
      have HNL := Lib.hid hnL
      have hcon := fun x => containsH_any H cH L p s (wr.alloc x) (by
        have := own_of_rowS (by decide) (hoL.alloc x)
        exact (this.less (Nat.zero_le _))) (by omega)
      rw [← hnL] at hcon
      have HC := Lib.hid hcon
      clear hcon hoL hnL hL
      by_cases e0 : p = 0 ∧ s = 0
      · obtain ⟨rfl, rfl⟩ := e0
        have HF := Lib.hid (show stops (hs.take (k + 1)) = L by rw [HST.out, if_pos (.inl HPS.out), HLE.out])
        go_wp2
        go_roundw
        case rel => exact ⟨k + 1, n, H, cH, by have := HLT.out; omega, by go_num, rfl, by rw [HF.out]; exact HNL.out, by rw [HF.out]; exact HOL.out.alloc _, HBR.out.alloc hbz _⟩
        case measure => have := HLT.out; simp [intOf]; omega
      · by_cases e1 : p = 0
        · subst e1
          have f2 : (s == 0) = false := by simp; omega
          cases hin : inH L (0, s) with
          | true =>
            have HF := Lib.hid (show stops (hs.take (k + 1)) = L by rw [HST.out, if_pos (.inr (by rw [HLE.out, HPS.out]; exact hin)), HLE.out])
            rw [hin] at HC
            clear hin
            go_wp2_with fail
            refine (HC.out _).mono ?_
            rintro e w3 ⟨rfl, hb3⟩
            have HB3 := Lib.hid hb3
            clear hb3
            go_wp2
            go_roundw
            case rel => exact ⟨k + 1, n, H, cH, by have := HLT.out; omega, by go_num, rfl, by rw [HF.out]; exact HNL.out, by rw [HF.out]; exact (HOL.out.alloc _).kept (row := none) (grown_below HB3.out) (Classical.em _), (HBR.out.alloc hbz _).trans (HB3.out.mono (by simp; omega))⟩
            case measure => have := HLT.out; simp [intOf]; omega
          | false =>
            have HF := Lib.hid (show stops (hs.take (k + 1)) = L ++ [(0, s)] by rw [HST.out, if_neg (by rw [HLE.out, HPS.out, hin]; simp; omega), HLE.out, HPS.out])
            rw [hin] at HC
            clear hin
            go_wp2_with fail
            refine (HC.out _).mono ?_
            rintro e w3 ⟨rfl, hb3⟩
            have hown4 := (HOL.out.alloc (.cells #[.int .i64 0, .int .i64 s] 66)).kept (row := none) (grown_below hb3) (Classical.em _)
            have hblk := (hb3.block wr.heap.size (by simp)).trans (heap_alloc_new wr _)
            have n0 : w3.cell? ⟨wr.heap.size, 0, none⟩ = some (.int .i64 0) := by rw [cell_of_row w3 _ 0 _ _ _ hblk]; rfl
            have n1 : w3.cell? ⟨wr.heap.size, 1, none⟩ = some (.int .i64 s) := by rw [cell_of_row w3 _ 1 _ _ _ hblk]; rfl
            have HB3 := Lib.hid ((HBR.out.alloc hbz _).trans (hb3.mono (by simp; omega)))
            have h3z := HB3.out.size
            clear hb3 hblk
            go_wp2_with (at_builtin; refine wpList_push rfl (.tmp 21) (.tmp 23) 54 rfl i0 (.agg #[.int .i64 0, .int .i64 0]) 16 Try.underlying54 hi0 hz0 hz1 hz2 rfl (by decide) _ _ rfl hown4 [.int .i64 0, .int .i64 s] rfl rfl (by simp [Value.oneCell']) (by omega) (by omega) h3z ?_)
            intro H' c' w6 hown6 hg6
            have HW := Lib.hid (And.intro hown6 (HB3.out.grown hg6 h3z (fun i hi => (hown4.lt _ hi).1)))
            clear hown4 hown6 hg6
            go_wp2
            go_roundw
            case rel =>
              refine ⟨k + 1, n + 1, H', c', by have := HLT.out; omega, by go_num, rfl, by rw [HF.out, List.length_append, ← HNL.out]; rfl, ?_, HW.out.2⟩
              rw [HF.out, flatP_append]
              exact HW.out.1
            case measure => have := HLT.out; simp [intOf]; omega
        · have f1 : (p == 0) = false := by simpa using e1
          cases hin : inH L (p, s) with
          | true =>
            have HF := Lib.hid (show stops (hs.take (k + 1)) = L by rw [HST.out, if_pos (.inr (by rw [HLE.out, HPS.out]; exact hin)), HLE.out])
            rw [hin] at HC
            clear hin
            go_wp2_with fail
            refine (HC.out _).mono ?_
            rintro e w3 ⟨rfl, hb3⟩
            have HB3 := Lib.hid hb3
            clear hb3
            go_wp2
            go_roundw
            case rel => exact ⟨k + 1, n, H, cH, by have := HLT.out; omega, by go_num, rfl, by rw [HF.out]; exact HNL.out, by rw [HF.out]; exact (HOL.out.alloc _).kept (row := none) (grown_below HB3.out) (Classical.em _), (HBR.out.alloc hbz _).trans (HB3.out.mono (by simp; omega))⟩
            case measure => have := HLT.out; simp [intOf]; omega
          | false =>
            have HF := Lib.hid (show stops (hs.take (k + 1)) = L ++ [(p, s)] by rw [HST.out, if_neg (by rw [HLE.out, HPS.out, hin]; simp; omega), HLE.out, HPS.out])
            rw [hin] at HC
            clear hin
            go_wp2_with fail
            refine (HC.out _).mono ?_
            rintro e w3 ⟨rfl, hb3⟩
            have hown4 := (HOL.out.alloc (.cells #[.int .i64 p, .int .i64 s] 66)).kept (row := none) (grown_below hb3) (Classical.em _)
            have hblk := (hb3.block wr.heap.size (by simp)).trans (heap_alloc_new wr _)
            have n0 : w3.cell? ⟨wr.heap.size, 0, none⟩ = some (.int .i64 p) := by rw [cell_of_row w3 _ 0 _ _ _ hblk]; rfl
            have n1 : w3.cell? ⟨wr.heap.size, 1, none⟩ = some (.int .i64 s) := by rw [cell_of_row w3 _ 1 _ _ _ hblk]; rfl
            have HB3 := Lib.hid ((HBR.out.alloc hbz _).trans (hb3.mono (by simp; omega)))
            have h3z := HB3.out.size
            clear hb3 hblk
            go_wp2_with (at_builtin; refine wpList_push rfl (.tmp 21) (.tmp 23) 54 rfl i0 (.agg #[.int .i64 0, .int .i64 0]) 16 Try.underlying54 hi0 hz0 hz1 hz2 rfl (by decide) _ _ rfl hown4 [.int .i64 p, .int .i64 s] rfl rfl (by simp [Value.oneCell']) (by omega) (by omega) h3z ?_)
            intro H' c' w6 hown6 hg6
            have HW := Lib.hid (And.intro hown6 (HB3.out.grown hg6 h3z (fun i hi => (hown4.lt _ hi).1)))
            clear hown4 hown6 hg6
            go_wp2
            go_roundw
            case rel =>
              refine ⟨k + 1, n + 1, H', c', by have := HLT.out; omega, by go_num, rfl, by rw [HF.out, List.length_append, ← HNL.out]; rfl, ?_, HW.out.2⟩
              rw [HF.out, flatP_append]
              exact HW.out.1
            case measure => have := HLT.out; simp [intOf]; omega
    · have hk' : k = hs.length := by omega
      subst hk'
      have HF := Lib.hid (show n = (stops hs).length ∧ Own wr (w.heap.size + 1) wr.heap.size H (flatP (stops hs)) by
        have h1 := HN.out; have h2 := own_of_rowS (by decide) HO.out; rw [List.take_length] at h1 h2; exact ⟨h1, h2⟩)
      go_wp2
      go_ret
      refine ⟨H, cH, by rw [← HF.out.1]; rfl, ?_, HF.out.2, HBR.out⟩
      rw [← HF.out.1]; exact own_cap HO.out


theorem bitI_all : ∀ s : Fin 64, ∀ k : Fin 6, (bits BinOp.and IntKind.i64 ((s.val : Int) / 2 ^ k.val) 1 == 0) = !s.val.testBit k.val := by decide +kernel
theorem bitI {s k : Nat} (hs : s < 64) (hk : k < 6) : (bits BinOp.and IntKind.i64 ((s : Int) / 2 ^ k) 1 == 0) = !s.testBit k := bitI_all ⟨s, hs⟩ ⟨k, hk⟩
theorem bitI1_all : ∀ s : Fin 64, ∀ k : Fin 6, (bits BinOp.and IntKind.i64 ((s.val : Int) / 2 ^ k.val) 1 == 1) = s.val.testBit k.val := by decide +kernel
theorem bitI1 {s k : Nat} (hs : s < 64) (hk : k < 6) : (bits BinOp.and IntKind.i64 ((s : Int) / 2 ^ k) 1 == 1) = s.testBit k := bitI1_all ⟨s, hs⟩ ⟨k, hk⟩

/-- What the closure reads. -/
def LvAt (w : World) (b3 b2 b5 : Nat) (x : Int) (L : List (Int × Int)) (s : Nat) (T : Nat → Int) : Prop :=
  (w.cell? ⟨b3, 0, none⟩ = some (.int .i64 x) ∧ b3 < w.heap.size) ∧
  (∃ A c, w.cell? ⟨b2, 0, none⟩ = some (.slice A L.length c) ∧ Own w 0 w.heap.size A (flatP L) ∧ b2 < w.heap.size) ∧
  ∃ g N, w.cell? ⟨b5, 0, none⟩ = some (.slice (some ⟨g, 0, none⟩) N N) ∧ b5 < w.heap.size ∧ s < N ∧ g < w.heap.size ∧
    ∀ k : Nat, k < L.length → s.testBit k = true → ∃ r o n c, k < n ∧ r < w.heap.size ∧ w.cell? ⟨g, s, none⟩ = some (.slice (some ⟨r, o, none⟩) n c) ∧ w.cell? ⟨r, o + k, none⟩ = some (.int .i64 (T k)) ∧ 0 ≤ T k ∧ T k ≤ 4000
def inP (a : Int × Int) : Prop := 0 ≤ a.1 ∧ a.1 ≤ 20
/-- What it answers. -/
def LvPost (x : Int) (L : List (Int × Int)) (s : Nat) (T : Nat → Int) (t : Int × Int) (v : Int) : Prop :=
  (s = 0 → v = btw (0, 0) t x) ∧ (s ≠ 0 → (∃ k, s.testBit k = true ∧ v = T k + btw (L.getD k (0, 0)) t x) ∧ ∀ k, s.testBit k = true → v ≤ T k + btw (L.getD k (0, 0)) t x)

set_option maxRecDepth 100000 in
set_option maxHeartbeats 4000000 in
theorem lvVia_any (b3 b2 b5 : Nat) (x : Int) (L : List (Int × Int)) (s : Nat) (T : Nat → Int) (p q : Int) (w : World) (h : LvAt w b3 b2 b5 x L s T) (hL : L.length ≤ 6) (hs : s < 2 ^ L.length) (hp : inP (p, q)) (hin : ∀ a ∈ L, inP a) (hx : 0 ≤ x ∧ x ≤ 20) :
    Calls Try.prog 91 #[.int .i64 s, .agg #[.int .i64 p, .int .i64 q], .pointer (some ⟨b3, 0, none⟩), .pointer (some ⟨b2, 0, none⟩), .pointer (some ⟨b5, 0, none⟩)] w fun e w' => (∃ v, e = .returned (.int .i64 v) ∧ LvPost x L s T (p, q) v) ∧ Below w.heap.size w w' := by
  obtain ⟨⟨m0, m1⟩, ⟨A, c, m2, m3, m4⟩, g, N, m5, m6, m7, m8, m9⟩ := h
  by_cases h0 : s = 0
  · subst h0
    go_enter Try.func91, Try.ntmps91
    go_wp2_with fail
    refine (wayBetween_any 0 0 p q x _ (by omega) hp hx).mono ?_
    rintro e w' ⟨rfl, hb⟩
    go_wp2
    go_ret
    exact ⟨⟨_, rfl, fun _ => rfl, fun h => absurd rfl h⟩, ((Below.refl _ _).alloc (Nat.le_refl _) _).trans (hb.mono (by simp))⟩
  · have hs0 : ((s : Int) == 0) = false := by simp; omega
    have HS0 := Lib.hid h0
    have HM9 := Lib.hid m9
    have HIN := Lib.hid hin
    clear h0 m9 hin
    go_enter Try.func91, Try.ntmps91
    go_wp2
    go_loopw [8, 20] (fun v i wr => ∃ (k : Nat) (y : Int), k ≤ L.length ∧ i = .int .i64 k ∧ v = .int .i64 y ∧ -1 ≤ y ∧ y ≤ 5000 ∧ (y = -1 → ∀ j, j < k → s.testBit j = false) ∧ (0 ≤ y → (∃ j, s.testBit j = true ∧ y = T j + btw (L.getD j (0, 0)) (p, q) x) ∧ ∀ j, j < k → s.testBit j = true → y ≤ T j + btw (L.getD j (0, 0)) (p, q) x) ∧ wr.heap[w.heap.size]? = some (.cells #[.int .i64 p, .int .i64 q] 66 (0, 0)) ∧ Below w.heap.size w wr) (fun _ i _ => L.length - (intOf i).toNat)
    case atStart => exact ⟨0, -1, by omega, rfl, rfl, by omega, by omega, fun _ j hj => by omega, fun h => by omega, heap_alloc_new w _, (Below.refl _ _).alloc (Nat.le_refl _) _⟩
    case round =>
      obtain ⟨k, y, hk, rfl, rfl, hy0, hy1, hyn, hyy, hblk, hbr⟩ := hrel
      have HBR := Lib.hid hbr
      have HYN := Lib.hid hyn
      have HYY := Lib.hid hyy
      have HBK := Lib.hid hblk
      have hbz := hbr.size
      clear hyn hyy
      by_cases hlt : k < L.length
      · obtain ⟨b, o, rfl, hb, hc⟩ := (m3.below hbr).open (by rw [flatP_length]; omega)
        have hcc := pairs_at hc hlt
        obtain ⟨a1, a2, ha⟩ : ∃ a1 a2, L[k] = (a1, a2) := ⟨_, _, rfl⟩
        rw [ha] at hcc
        obtain ⟨c0, c1⟩ := hcc
        have d0 : wr.cell? ⟨b3, 0, none⟩ = some (.int .i64 x) := cell_kept hbr m1 m0
        have d5 : wr.cell? ⟨b5, 0, none⟩ = some (.slice (some ⟨g, 0, none⟩) N N) := cell_kept hbr m6 m5
        have hk6 : k < 6 := by omega
        have hs64 : s < 64 := Nat.lt_of_lt_of_le hs (Nat.le_trans (Nat.pow_le_pow_right (by omega) hL) (by decide))
        have hbit := bitI hs64 hk6
        have hia := HIN.out L[k] (List.getElem_mem hlt)
        rw [ha] at hia
        have hgd : L.getD k (0, 0) = (a1, a2) := by simp [List.getD, List.getElem?_eq_getElem hlt, ha]
        have HLT := Lib.hid hlt
        cases hb2 : s.testBit k with
        | false =>
          have HB2 := Lib.hid hb2
          rw [hb2] at hbit
          have hbit2 : (bits BinOp.and IntKind.i64 ((s : Int) / 2 ^ k) 1 == 0) = true := hbit
          clear hc hbr hblk hb2 hbit ha hia hgd
          go_wp2
          go_roundw
          case rel =>
            refine ⟨k + 1, y, by have := HLT.out; omega, by go_num, rfl, hy0, hy1, fun h j hj => ?_, fun h => ⟨(HYY.out h).1, fun j hj hj2 => ?_⟩, ?_, HBR.out.alloc hbz _⟩
            · by_cases e : j = k
              · rw [e]; exact HB2.out
              · exact HYN.out h j (by omega)
            · by_cases e : j = k
              · rw [e, HB2.out] at hj2; cases hj2
              · exact (HYY.out h).2 j (by omega) hj2
            · exact (((Below.refl _ _).alloc (Nat.le_refl _) _).block w.heap.size (lt_of_heap HBK.out)).trans HBK.out
          case measure => have := HLT.out; simp [intOf]; omega
        | true =>
          obtain ⟨r, ro, n, cr, hkn, hrl, g0, g1, t0, t1⟩ := HM9.out k hlt hb2
          have HB2 := Lib.hid hb2
          rw [hb2] at hbit
          have hbit2 : (bits BinOp.and IntKind.i64 ((s : Int) / 2 ^ k) 1 == 0) = false := hbit
          have HGD := Lib.hid hgd
          obtain ⟨D, hD⟩ : ∃ D, btw (a1, a2) (p, q) x = D := ⟨_, rfl⟩
          have hdd := btw_bd (a := (a1, a2)) (b := (p, q)) hia hp hx
          rw [hD] at hdd
          obtain ⟨hD0, hD1⟩ := hdd
          have hbt : ∀ X, Calls Try.prog 55 #[.agg #[.int .i64 a1, .int .i64 a2], .agg #[.int .i64 p, .int .i64 q], .int .i64 x] X fun e w' => e = .returned (.int .i64 D) ∧ Below X.heap.size X w' := fun X => by rw [← hD]; exact wayBetween_any a1 a2 p q x X hia hp hx
          have HBT := Lib.hid hbt
          have HD := Lib.hid hD
          obtain ⟨t, ht⟩ : ∃ t, T k = t := ⟨_, rfl⟩
          have HT := Lib.hid ht
          rw [ht] at g1 t0 t1
          have esum : IntKind.i64.wrap (t + D) = t + D := IntWalk.i64_in _ (by omega)
          obtain ⟨W, hW⟩ : ∃ W, wr.alloc (.cells #[.int .i64 a1, .int .i64 a2] 66) = W := ⟨_, rfl⟩
          have hBW : Below wr.heap.size wr W := by rw [← hW]; exact (Below.refl _ _).alloc (Nat.le_refl _) _
          have hWz : W.heap.size = wr.heap.size + 1 := by rw [← hW]; simp
          have hblkW : W.heap[wr.heap.size]? = some (.cells #[.int .i64 a1, .int .i64 a2] 66 (0, 0)) := by rw [← hW]; exact heap_alloc_new wr _
          have hBwW : Below w.heap.size w W := hbr.trans (hBW.mono hbz)
          have hblk0 : W.heap[w.heap.size]? = some (.cells #[.int .i64 p, .int .i64 q] 66 (0, 0)) := (hBW.block _ (lt_of_heap hblk)).trans hblk
          have keep : ∀ w', Below W.heap.size W w' → (w'.cell? ⟨b5, 0, none⟩ = some (.slice (some ⟨g, 0, none⟩) N N) ∧ w'.cell? ⟨g, s, none⟩ = some (.slice (some ⟨r, ro, none⟩) n cr)) ∧ (w'.cell? ⟨r, ro + k, none⟩ = some (.int .i64 t) ∧ w'.cell? ⟨b3, 0, none⟩ = some (.int .i64 x)) ∧ (w'.cell? ⟨wr.heap.size, 0, none⟩ = some (.int .i64 a1) ∧ w'.cell? ⟨wr.heap.size, 1, none⟩ = some (.int .i64 a2)) ∧ (w'.cell? ⟨w.heap.size, 0, none⟩ = some (.int .i64 p) ∧ w'.cell? ⟨w.heap.size, 1, none⟩ = some (.int .i64 q)) := fun w' hw' => by
            have hww : Below w.heap.size w w' := hBwW.trans (hw'.mono (by omega))
            have i1 := (hw'.block _ (lt_of_heap hblkW)).trans hblkW
            have i2 := (hw'.block _ (lt_of_heap hblk0)).trans hblk0
            refine ⟨⟨cell_kept hww m6 m5, cell_kept hww m8 g0⟩, ⟨cell_kept hww hrl g1, cell_kept hww m1 m0⟩, ⟨?_, ?_⟩, ⟨?_, ?_⟩⟩
            · rw [cell_of_row w' _ 0 _ _ _ i1]; rfl
            · rw [cell_of_row w' _ 1 _ _ _ i1]; rfl
            · rw [cell_of_row w' _ 0 _ _ _ i2]; rfl
            · rw [cell_of_row w' _ 1 _ _ _ i2]; rfl
          have KEEP := Lib.hid keep
          have HBW := Lib.hid (And.intro hblk0 (And.intro hBwW hWz))
          have q4 : Below W.heap.size W W.drew := ⟨rfl, rfl, rfl, Nat.le_refl _, fun _ _ => rfl⟩
          have hsI : (s : Int) < N := by omega
          have hsI0 : (0 : Int) ≤ (s : Int) := by omega
          have hkI : (k : Int) < n := by omega
          have hkI0 : (0 : Int) ≤ (k : Int) := by omega
          clear hc hbr hblk hb2 hbit ha hia hgd hD hbt ht keep hblk0 hBwW hblkW hBW g0 g1
          go_wp2
          go_region_held3 (fun w' => (w'.cell? ⟨b5, 0, none⟩ = some (.slice (some ⟨g, 0, none⟩) N N) ∧ w'.cell? ⟨g, s, none⟩ = some (.slice (some ⟨r, ro, none⟩) n cr)) ∧ (w'.cell? ⟨r, ro + k, none⟩ = some (.int .i64 t) ∧ w'.cell? ⟨b3, 0, none⟩ = some (.int .i64 x)) ∧ (w'.cell? ⟨wr.heap.size, 0, none⟩ = some (.int .i64 a1) ∧ w'.cell? ⟨wr.heap.size, 1, none⟩ = some (.int .i64 a2)) ∧ (w'.cell? ⟨w.heap.size, 0, none⟩ = some (.int .i64 p) ∧ w'.cell? ⟨w.heap.size, 1, none⟩ = some (.int .i64 q)))
            (first | exact KEEP.out _ q5 | exact KEEP.out _ q4)
            ((first
              | (go_at_call 55; refine (HBT.out _).mono ?_; rintro e w5 ⟨rfl, b5x⟩; have q5 : Below W.heap.size W w5 := q4.trans b5x)
              | fail))
          have HQ := Lib.hid (And.intro (HBW.out.2.1.trans (q5.mono (by have := HBW.out.2.2; omega))) ((q5.block w.heap.size (lt_of_heap HBW.out.1)).trans HBW.out.1))
          clear q4 q5 b5x esum
          go_simp
          have hsum : ∀ z, z = t + D → z = T k + btw (L.getD k (0, 0)) (p, q) x := fun z h => by rw [h, HGD.out, HD.out, HT.out]
          have HSUM := Lib.hid hsum
          clear hsum
          by_cases hyn : y < 0
          · go_wp2
            go_roundw
            case rel =>
              refine ⟨k + 1, t + D, by have := HLT.out; omega, by go_num, rfl, by omega, by omega, fun h => by omega, fun _ => ⟨⟨k, HB2.out, HSUM.out _ rfl⟩, fun j hj hj2 => ?_⟩, HQ.out.2, HQ.out.1⟩
              by_cases e : j = k
              · rw [e]; exact Int.le_of_eq (HSUM.out _ rfl)
              · rw [HYN.out (by omega) j (by omega)] at hj2; cases hj2
            case measure => have := HLT.out; simp [intOf]; omega
          · have hyge : 0 ≤ y := by omega
            have HYG := Lib.hid hyge
            by_cases hlt2 : t + D < y
            · have HL2 := Lib.hid hlt2
              go_wp2
              go_roundw
              case rel =>
                refine ⟨k + 1, t + D, by have := HLT.out; omega, by go_num, rfl, by omega, by omega, fun h => by omega, fun _ => ⟨⟨k, HB2.out, HSUM.out _ rfl⟩, fun j hj hj2 => ?_⟩, HQ.out.2, HQ.out.1⟩
                by_cases e : j = k
                · rw [e]; exact Int.le_of_eq (HSUM.out _ rfl)
                · have := (HYY.out HYG.out).2 j (by omega) hj2; have := HL2.out; omega
              case measure => have := HLT.out; simp [intOf]; omega
            · have HL2 := Lib.hid hlt2
              go_wp2
              go_roundw
              case rel =>
                refine ⟨k + 1, y, by have := HLT.out; omega, by go_num, rfl, by omega, by omega, fun h => by have := HYG.out; omega, fun _ => ⟨(HYY.out HYG.out).1, fun j hj hj2 => ?_⟩, HQ.out.2, HQ.out.1⟩
                by_cases e : j = k
                · rw [e, ← HSUM.out _ rfl]; have := HL2.out; omega
                · exact (HYY.out HYG.out).2 j (by omega) hj2
              case measure => have := HLT.out; simp [intOf]; omega
      · have hk' : k = L.length := by omega
        subst hk'
        have hbits : ∀ j, s.testBit j = true → j < L.length := fun j hj => by
          by_cases h : j < L.length
          · exact h
          · have h1 := Nat.testBit_lt_two_pow (Nat.lt_of_lt_of_le hs (Nat.pow_le_pow_right (by omega) (show L.length ≤ j by omega)))
            rw [h1] at hj; cases hj
        obtain ⟨j0, hj0⟩ := Nat.exists_testBit_of_ne_zero HS0.out
        have hyg : 0 ≤ y := by
          by_cases h : y = -1
          · have := HYN.out h j0 (hbits j0 hj0); rw [hj0] at this; cases this
          · omega
        have HF := Lib.hid (show LvPost x L s T (p, q) y from ⟨fun h => absurd h HS0.out, fun _ => ⟨(HYY.out hyg).1, fun j hj => (HYY.out hyg).2 j (hbits j hj) hj⟩⟩)
        clear hbits hj0 hyg
        go_wp2
        go_ret
        exact ⟨⟨_, rfl, HF.out⟩, HBR.out⟩


def cellT (rs : List (List Int)) (s j : Nat) : Int := (rs.getD s []).getD j 0
def hL (L : List (Int × Int)) (k : Nat) : Int × Int := L.getD k (0, 0)
/-- Row s holds, at its bits below m, the least ways. -/
def goodRow (x : Int) (L : List (Int × Int)) (rs : List (List Int)) (s m : Nat) : Prop :=
  (rs.getD s []).length = L.length ∧ ∀ j, j < m → s.testBit j = true → LeastTo (fun a b => btw a b x) (0, 0) (hL L) (s - 2 ^ j) (hL L j) (cellT rs s j) ∧ cellT rs s j ≤ 40 * ((s : Int) + 1)
theorem inP_hL {L : List (Int × Int)} (hin : ∀ a ∈ L, inP a) (k : Nat) : inP (hL L k) := by
  unfold hL
  by_cases h : k < L.length
  · rw [List.getD, List.getElem?_eq_getElem h]; exact hin _ (List.getElem_mem h)
  · rw [List.getD, List.getElem?_eq_none (by omega)]; exact ⟨by simp, by simp⟩
theorem btw_nn {x : Int} (hx : 0 ≤ x) (a b : Int × Int) : 0 ≤ btw a b x := by unfold btw; split <;> omega
theorem bit_lt {s n j : Nat} (hs : s < 2 ^ n) (hj : s.testBit j = true) : j < n := by
  by_cases h : j < n
  · exact h
  · have h1 := Nat.testBit_lt_two_pow (Nat.lt_of_lt_of_le hs (Nat.pow_le_pow_right (by omega) (show n ≤ j by omega)))
    rw [h1] at hj; cases hj
/-- One answer of the closure. -/
theorem post_least {x : Int} {L : List (Int × Int)} {rs : List (List Int)} {s : Nat} {t : Int × Int} {v : Int} (hx : 0 ≤ x ∧ x ≤ 20) (hin : ∀ a ∈ L, inP a) (ht : inP t) (hs : s < 2 ^ L.length)
    (hg : s ≠ 0 → goodRow x L rs s L.length) (hv : LvPost x L s (cellT rs s) t v) :
    LeastTo (fun a b => btw a b x) (0, 0) (hL L) s t v ∧ 0 ≤ v ∧ v ≤ 40 * ((s : Int) + 2) := by
  have hbd : ∀ k, 0 ≤ btw (hL L k) t x ∧ btw (hL L k) t x ≤ 40 := fun k => btw_bd (inP_hL hin k) ht hx
  by_cases h0 : s = 0
  · subst h0
    have hv1 := hv.1 rfl
    have hb := btw_bd (a := (0, 0)) (b := t) (x := x) ⟨by simp, by simp⟩ ht hx
    subst hv1
    exact ⟨least_zero _ _ _ _, hb.1, by omega⟩
  · obtain ⟨⟨k, hk, hke⟩, hle⟩ := hv.2 h0
    have hgr := (hg h0).2
    have hT : ∀ k, s.testBit k = true → LeastTo (fun a b => btw a b x) (0, 0) (hL L) (s - 2 ^ k) (hL L k) (cellT rs s k) := fun k hk => (hgr k (bit_lt hs hk) hk).1
    have hl : LeastTo (fun a b => btw a b x) (0, 0) (hL L) s t v := least_step h0 hT ⟨k, hk, hke⟩ hle
    refine ⟨hl, hl.nonneg (fun a b => btw_nn hx.1 a b), ?_⟩
    have h1 := (hgr k (bit_lt hs hk) hk).2
    have h2 := (hbd k).2
    have : v = cellT rs s k + btw (hL L k) t x := hke
    omega
/-- What is put in is within its bound. -/
theorem put_bd {s j : Nat} {v : Int} (hj : s.testBit j = true) (hv : v ≤ 40 * (((s - 2 ^ j : Nat) : Int) + 2)) : v ≤ 40 * ((s : Int) + 1) := by
  have h1 := pow_le_of_bit hj
  have h2 := Nat.two_pow_pos j
  omega
theorem getD_set (rs : List (List Int)) (s s' : Nat) (r : List Int) (hs : s < rs.length) : (rs.set s r).getD s' [] = if s' = s then r else rs.getD s' [] := by
  by_cases h : s' = s
  · subst h; simp [List.getD, hs]
  · rw [if_neg h]; simp [List.getD, Ne.symm h]
theorem goodRow_other {x : Int} {L : List (Int × Int)} {rs : List (List Int)} {s s' m : Nat} {r : List Int} (h : goodRow x L rs s' m) (hs : s < rs.length) (hne : s' ≠ s) : goodRow x L (rs.set s r) s' m := by
  unfold goodRow cellT at *
  rw [getD_set _ _ _ _ hs, if_neg hne]; exact h
theorem goodRow_put {x : Int} {L : List (Int × Int)} {rs : List (List Int)} {s k : Nat} {v : Int} (h : goodRow x L rs s k) (hs : s < rs.length) (hk : k < L.length) (hv : LeastTo (fun a b => btw a b x) (0, 0) (hL L) (s - 2 ^ k) (hL L k) v) (hb : v ≤ 40 * ((s : Int) + 1)) : goodRow x L (rs.set s ((rs.getD s []).set k v)) s (k + 1) := by
  unfold goodRow cellT at *
  rw [getD_set _ _ _ _ hs, if_pos rfl]
  refine ⟨by rw [List.length_set]; exact h.1, fun j hj hb2 => ?_⟩
  by_cases e : j = k
  · subst e
    rw [List.getD, List.getElem?_set_self (by rw [h.1]; exact hk)]
    exact ⟨hv, hb⟩
  · have := h.2 j (by omega) hb2
    rw [List.getD, List.getElem?_set_ne (fun e2 => e e2.symm)]
    exact this
theorem goodRow_skip {x : Int} {L : List (Int × Int)} {rs : List (List Int)} {s k : Nat} (h : goodRow x L rs s k) (hb : s.testBit k = false) : goodRow x L rs s (k + 1) :=
  ⟨h.1, fun j hj hb2 => by
    by_cases e : j = k
    · subst e; rw [hb] at hb2; cases hb2
    · exact h.2 j (by omega) hb2⟩

theorem lvAt_of {W : World} {base g N s b2 b3 b5 c : Nat} {hs : List Value} {rs : List (List Int)} {x : Int} {L : List (Int × Int)} {A : Option Addr} (hm : MG W base g hs rs) (hrs : rs.length = N) (hsN : s < N) (hN : N ≤ 64) (hx : 0 ≤ x)
    (hg : s ≠ 0 → goodRow x L rs s L.length) (v2 : W.cell? ⟨b2, 0, none⟩ = some (.slice A L.length c)) (v3 : W.cell? ⟨b3, 0, none⟩ = some (.int .i64 x)) (v5 : W.cell? ⟨b5, 0, none⟩ = some (.slice (some ⟨g, 0, none⟩) N N))
    (l2 : b2 < W.heap.size) (l3 : b3 < W.heap.size) (l5 : b5 < W.heap.size) (ho : Own W 0 W.heap.size A (flatP L)) : LvAt W b3 b2 b5 x L s (cellT rs s) := by
  refine ⟨⟨v3, l3⟩, ⟨A, c, v2, ho, l2⟩, g, N, v5, l5, hsN, hm.lt, fun k hk hb => ?_⟩
  have hs0 : s ≠ 0 := by intro e; subst e; simp at hb
  obtain ⟨hlen, hrow⟩ := hg hs0
  obtain ⟨h1, h2⟩ := hrow k hk hb
  have hsr : s < rs.length := by omega
  have he : rs.getD s [] = rs[s] := by simp [List.getD, List.getElem?_eq_getElem hsr]
  rw [he] at hlen
  obtain ⟨R, cR, q1, _, q3, q4⟩ := hm.head hsr
  obtain ⟨b, o, rfl, q5, q6⟩ := q4.open (by simp; omega)
  have hc := ints_at q6 (show k < rs[s].length by omega)
  refine ⟨b, o, rs[s].length, cR, by omega, q5, q1, ?_, h1.nonneg (fun a b => btw_nn hx a b), by omega⟩
  rw [hc]
  unfold cellT
  rw [he, List.getD, List.getElem?_eq_getElem (show k < rs[s].length by omega)]
  rfl
theorem andNotI_all : ∀ s : Fin 64, ∀ k : Fin 6, s.val.testBit k.val = true → bits BinOp.andNot IntKind.i64 (s.val : Int) (2 ^ k.val) = ((s.val - 2 ^ k.val : Nat) : Int) := by decide +kernel
theorem andNotI {s k : Nat} (hs : s < 64) (hk : k < 6) (hb : s.testBit k = true) : bits BinOp.andNot IntKind.i64 (s : Int) (2 ^ k) = ((s - 2 ^ k : Nat) : Int) := andNotI_all ⟨s, hs⟩ ⟨k, hk⟩ hb
theorem shlI_all : ∀ k : Fin 6, IntKind.i64.wrap ((2 : Int) ^ k.val) = 2 ^ k.val := by decide +kernel
theorem shlI {k : Nat} (hk : k < 6) : IntKind.i64.wrap ((2 : Int) ^ k) = 2 ^ k := shlI_all ⟨k, hk⟩


theorem cellO {W : World} {b g s : Nat} {v u : Value} (hne : b ≠ g) (h : W.cell? ⟨b, 0, none⟩ = some u) : (W.setCell ⟨g, s, none⟩ v).cell? ⟨b, 0, none⟩ = some u :=
  (World.cell?_of_block (a := ⟨b, 0, none⟩) (Below.heap_setCell _ _ _ _ (fun e => hne (by first | exact e | exact e.symm)))).trans h
theorem mkRow {n : Nat} (hn : n ≤ 6) (W : World) : (Instr.makeSlice 31 (.int .i64 n) (.int .i64 n)).run Try.prog W = .ok (.slice (some ⟨W.heap.size, 0, none⟩) n n) (W.alloc (.cells (List.replicate n (Value.int .i64 0)).toArray 3)) := by
  rcases (show n = 0 ∨ n = 1 ∨ n = 2 ∨ n = 3 ∨ n = 4 ∨ n = 5 ∨ n = 6 by omega) with rfl | rfl | rfl | rfl | rfl | rfl | rfl <;> kernel_rfl

set_option maxRecDepth 100000 in
set_option maxHeartbeats 4000000 in
theorem leastAll_any (A : Option Addr) (c : Nat) (L : List (Int × Int)) (x : Int) (w : World) (ho : Own w 0 w.heap.size A (flatP L)) (hL6 : L.length ≤ 6) (hin : ∀ a ∈ L, inP a) (hx : 0 ≤ x ∧ x ≤ 20) :
    Calls Try.prog 49 #[.slice A L.length c, .int .i64 x] w fun e w' => (∃ v, e = .returned (.int .i64 v) ∧ LeastTo (fun a b => btw a b x) (0, 0) (hL L) (2 ^ L.length - 1) (0, 0) v) ∧ Below w.heap.size w w' := by
  obtain ⟨i0, hi0, hz0, hz1, hz2⟩ := info_parts Try.infoR
  obtain ⟨i3, hi3, hy0, hy1, hy2⟩ := info_parts Try.info3
  obtain ⟨n, hn⟩ : ∃ n, L.length = n := ⟨_, rfl⟩
  go_enter Try.func49, Try.ntmps49
  obtain ⟨N, hN⟩ : ∃ N : Nat, 2 ^ n = N := ⟨_, rfl⟩
  have hN64 : N ≤ 64 := by rw [← hN]; exact Nat.le_trans (Nat.pow_le_pow_right (by omega) (show n ≤ 6 by omega)) (by decide)
  have hN0 : 0 < N := by rw [← hN]; exact Nat.two_pow_pos n
  have hcN : (2 : Int) ^ n = (N : Int) := by rw [← hN]; push_cast; rfl
  have e2n : IntKind.i64.wrap ((2 : Int) ^ n) = (N : Int) := by rw [hcN]; exact IntWalk.i64_in _ (by omega)
  go_wp2_with (at_make; refine wpList_make_full _ rfl (.tmp 12) (.tmp 12) _ rfl (w.heap.size + 1 + 1) 31 i0 (.slice none 0 0) 1 Try.underlying22 hi0 hz0 hz1 _ _ _ _ N rfl rfl rfl rfl (by rw [hz2]; omega) (by unfold maxLen; omega) (by simp) ?_)
  intro w2 hown hg
  have hblk := own_heapN hown
  have hcs : (madeCells #[Value.slice none 0 0] N).toList = List.replicate N (Value.slice none 0 0) := toList_madeCells_one _ _
  rw [hcs] at hblk
  have hst := MG.start hblk (Nat.le_refl _)
  have hbV : Below (w.heap.size + 1 + 1) ((w.alloc (.cells #[Value.slice A n c] 54)).alloc (.cells #[Value.int .i64 x] 3)) w2 := below_g hg (by simp)
  have hg2 : w.heap.size + 1 + 1 < w2.heap.size := lt_of_heap hblk
  have c2 : w2.cell? ⟨w.heap.size, 0, none⟩ = some (.slice A n c) := by
    rw [hbV.cell (p := ⟨w.heap.size, 0, none⟩) (by simp; omega), ((Below.refl _ _).alloc (Nat.le_refl _) _).cell (p := ⟨w.heap.size, 0, none⟩) (by simp), World.cell?_alloc_at _ _ _ _ rfl]; rfl
  have c3 : w2.cell? ⟨w.heap.size + 1, 0, none⟩ = some (.int .i64 x) := by
    rw [hbV.cell (p := ⟨w.heap.size + 1, 0, none⟩) (by simp), World.cell?_alloc_at _ _ _ _ (World.size_alloc _ _).symm]; rfl
  have HB2 := Lib.hid (show Below w.heap.size w w2 from ((((Below.refl _ _).alloc (Nat.le_refl _) _).alloc (by simp) _).trans (hbV.mono (by omega))))
  have HST := Lib.hid hst
  clear hown hg hblk hcs hst hbV
  go_wp2_with fail
  go_loopw [17] (fun i wr => ∃ (s : Nat) (hs : List Value) (rs : List (List Int)), s ≤ N ∧ i = .int .i64 s ∧ MG wr (w.heap.size + 1 + 1) (w.heap.size + 1 + 1) hs rs ∧ rs.length = N ∧ (∀ s', s' < s → goodRow x L rs s' L.length) ∧ (wr.cell? ⟨w.heap.size, 0, none⟩ = some (.slice A n c) ∧ wr.cell? ⟨w.heap.size + 1, 0, none⟩ = some (.int .i64 x) ∧ wr.cell? ⟨w2.heap.size, 0, none⟩ = some (.slice (some ⟨w.heap.size + 1 + 1, 0, none⟩) N N)) ∧ w2.heap.size < wr.heap.size ∧ Below w.heap.size w wr) (fun i _ => N - (intOf i).toNat)
  case atStart =>
    have hba : Below w2.heap.size w2 (w2.alloc (.cells #[Value.slice (some ⟨w.heap.size + 1 + 1, 0, none⟩) N N] 22)) := (Below.refl _ _).alloc (Nat.le_refl _) _
    exact ⟨0, _, _, by omega, rfl, HST.out.keep hba, by simp, fun s' h => by omega, ⟨(hba.cell (p := ⟨w.heap.size, 0, none⟩) (show w.heap.size < w2.heap.size by omega)).trans c2, (hba.cell (p := ⟨w.heap.size + 1, 0, none⟩) (show w.heap.size + 1 < w2.heap.size by omega)).trans c3, by rw [World.cell?_alloc_at _ _ _ _ rfl]; rfl⟩, by simp, HB2.out.trans (hba.mono HB2.out.size)⟩
  case round =>
    obtain ⟨s, hs, rs, hsN, rfl, hmg, hrs, hgood, ⟨v2, v3, v5⟩, hbig, hbr⟩ := hrel
    have HMG := Lib.hid hmg
    have HBR := Lib.hid hbr
    have HGD := Lib.hid hgood
    have hbz := hbr.size
    clear hgood hbr HST HB2 c2 c3
    by_cases hlt : s < N
    · have hsI : (s : Int) < N := by omega
      have hsI0 : (0 : Int) ≤ (s : Int) := by omega
      have hfr := hmg.frozen s
      obtain ⟨y, hy⟩ : ∃ y, wr.cell? ⟨w.heap.size + 1 + 1, s, none⟩ = some y := by obtain ⟨R0, c0, h, _⟩ := hmg.head (k := s) (by omega); exact ⟨_, h⟩
      obtain ⟨W, hW⟩ : ∃ W, wr.alloc (.cells (Array.replicate n (Value.int .i64 0)) 3) = W := ⟨_, rfl⟩
      have hBW : Below wr.heap.size wr W := by rw [← hW]; exact (Below.refl _ _).alloc (Nat.le_refl _) _
      have hWz : W.heap.size = wr.heap.size + 1 := by rw [← hW]; simp
      have hgl := hmg.lt
      have w2c : W.cell? ⟨w.heap.size, 0, none⟩ = some (.slice A n c) := cell_kept hBW (by omega) v2
      have w5c : W.cell? ⟨w2.heap.size, 0, none⟩ = some (.slice (some ⟨w.heap.size + 1 + 1, 0, none⟩) N N) := cell_kept hBW (by omega) v5
      have w3c : W.cell? ⟨w.heap.size + 1, 0, none⟩ = some (.int .i64 x) := cell_kept hBW (by omega) v3
      have hyW : W.cell? ⟨w.heap.size + 1 + 1, s, none⟩ = some y := cell_kept hBW hgl hy
      have hfW : W.frozen? ⟨w.heap.size + 1 + 1, s, none⟩ = false := (hmg.keep hBW).frozen s
      clear hmg
      go_wp2_with fail
      have hmk := fun W => mkRow (n := n) (by omega) W
      go_region
      obtain ⟨r, hr⟩ : ∃ r, wr.heap.size = r := ⟨_, rfl⟩
      have hrblk : W.heap[r]? = some (.cells ((List.replicate n (0 : Int)).map (Value.int .i64)).toArray 3 (0, 0)) := by
        rw [← hr, ← hW, heap_alloc_new wr _]; simp
      have hown := own_block hrblk (Nat.le_of_eq hr)
      have hset := HMG.out.setHead hBW (R := some ⟨r, 0, none⟩) (c := n) (k := s) (r := List.replicate n (0 : Int)) (hown.less (by omega)) (by simp) (by omega)
      rw [List.length_replicate] at hset
      have hset2 := hset.keep (show Below (W.setCell ⟨w.heap.size + 1 + 1, s, none⟩ (.slice (some ⟨r, 0, none⟩) n n)).heap.size (W.setCell ⟨w.heap.size + 1 + 1, s, none⟩ (.slice (some ⟨r, 0, none⟩) n n)) (W.setCell ⟨w.heap.size + 1 + 1, s, none⟩ (.slice (some ⟨r, 0, none⟩) n n)).drew from ⟨rfl, rfl, rfl, Nat.le_refl _, fun _ _ => rfl⟩)
      rw [hr]
      have hBset : Below w.heap.size w (W.setCell ⟨w.heap.size + 1 + 1, s, none⟩ (.slice (some ⟨r, 0, none⟩) n n)).drew := ((HBR.out.trans (hBW.mono hbz)).setCell (p := ⟨w.heap.size + 1 + 1, s, none⟩) (by show w.heap.size ≤ w.heap.size + 1 + 1; omega) _).trans ⟨rfl, rfl, rfl, Nat.le_refl _, fun _ _ => rfl⟩
      have HS6 := Lib.hid (And.intro hset2 hBset)
      clear hset hset2 hBset
      go_wp2_with fail
      go_loopw [28] (fun i wr2 => ∃ (k : Nat) (hs2 : List Value) (rs2 : List (List Int)), k ≤ n ∧ i = .int .i64 k ∧ MG wr2 (w.heap.size + 1 + 1) (w.heap.size + 1 + 1) hs2 rs2 ∧ rs2.length = N ∧ (∀ s', s' < s → goodRow x L rs2 s' L.length) ∧ goodRow x L rs2 s k ∧ hs2[s]? = some (.slice (some ⟨r, 0, none⟩) n n) ∧ (wr2.cell? ⟨w.heap.size, 0, none⟩ = some (.slice A n c) ∧ wr2.cell? ⟨w.heap.size + 1, 0, none⟩ = some (.int .i64 x) ∧ wr2.cell? ⟨w2.heap.size, 0, none⟩ = some (.slice (some ⟨w.heap.size + 1 + 1, 0, none⟩) N N)) ∧ r < wr2.heap.size ∧ Below w.heap.size w wr2) (fun i _ => n - (intOf i).toNat)
      case atStart =>
        have hsl : s < rs.length := by omega
        refine ⟨0, _, _, by omega, rfl, HS6.out.1, by simp [hrs], fun s' h => goodRow_other (HGD.out s' h) hsl (by omega), ⟨?_, fun j hj => by omega⟩, ?_, ⟨?_, ?_, ?_⟩, ?_, HS6.out.2⟩
        · rw [getD_set _ _ _ _ hsl, if_pos rfl]; simp [hn]
        · have : hs.length = rs.length := HMG.out.2.2.1.1
          rw [List.getElem?_set_self (by omega)]
        · exact cellO (by omega) w2c
        · exact cellO (by omega) w3c
        · exact cellO (by omega) w5c
        · show r < (W.setCell ⟨w.heap.size + 1 + 1, s, none⟩ (.slice (some ⟨r, 0, none⟩) n n)).heap.size
          simp [World.setCell]; omega
      case round =>
        obtain ⟨k, hs2, rs2, hkn, rfl, hm2, hrs2, hgd2, hgs, hhd, ⟨u2, u3, u5⟩, hrz, hb2⟩ := hrel
        have hgl2 := hm2.lt
        have HM2 := Lib.hid hm2
        have HG2 := Lib.hid hgd2
        have HGS := Lib.hid hgs
        have HHD := Lib.hid hhd
        have HBB := Lib.hid hb2
        have hb2z := hb2.size
        clear HS6 hy hyW hfr hfW v2 v3 v5 w2c w5c w3c hgd2 hgs hhd hm2 hrblk hown
        by_cases hk : k < n
        · obtain ⟨b, o, rfl, hbl, hcl⟩ := (ho.below hb2).open (by rw [flatP_length]; omega)
          have hkL : k < L.length := by omega
          have hcc := pairs_at hcl hkL
          obtain ⟨a1, a2, ha⟩ : ∃ a1 a2, L[k] = (a1, a2) := ⟨_, _, rfl⟩
          rw [ha] at hcc
          obtain ⟨c0, c1⟩ := hcc
          have hia := hin L[k] (List.getElem_mem hkL)
          have hgk : hL L k = (a1, a2) := by simp [hL, List.getD, List.getElem?_eq_getElem hkL, ha]
          rw [ha] at hia
          have hs64 : s < 64 := by omega
          have hk6 : k < 6 := by omega
          have hbit := bitI1 hs64 hk6
          have hkI : (k : Int) < n := by omega
          have hkI0 : (0 : Int) ≤ (k : Int) := by omega
          have hba : Below wr.heap.size wr (wr.alloc (.cells #[.int .i64 a1, .int .i64 a2] 66)) := (Below.refl _ _).alloc (Nat.le_refl _) _
          cases hbt : s.testBit k with
          | false =>
            rw [hbt] at hbit
            have HF := Lib.hid (And.intro hba hbt)
            clear hba hbt ha hcl
            go_wp2_with fail
            go_roundw
            case rel =>
              exact ⟨k + 1, hs2, rs2, by omega, by go_num, HM2.out.keep HF.out.1, hrs2, HG2.out, goodRow_skip HGS.out HF.out.2, HHD.out, ⟨cell_kept HF.out.1 (by omega) u2, cell_kept HF.out.1 (by omega) u3, cell_kept HF.out.1 (by omega) u5⟩, Nat.lt_of_lt_of_le hrz HF.out.1.size, HBB.out.trans (HF.out.1.mono hb2z)⟩
            case measure => simp [intOf]; omega
          | true =>
            rw [hbt] at hbit
            have hpk := pow_le_of_bit hbt
            have hp0 := Nat.two_pow_pos k
            have hsl2 : s < rs2.length := by omega
            have hsN2 : s - 2 ^ k < N := by omega
            have hlk : k < L.length := hkL
            have eAN := andNotI hs64 hk6 hbt
            have eSH := shlI hk6
            have HBT := Lib.hid hbt
            obtain ⟨W3, hW3⟩ : ∃ W3, wr.alloc (.cells #[.int .i64 a1, .int .i64 a2] 66) = W3 := ⟨_, rfl⟩
            have hW3z : W3.heap.size = wr.heap.size + 1 := by rw [← hW3]; simp
            have hblkh : W3.heap[wr.heap.size]? = some (.cells #[.int .i64 a1, .int .i64 a2] 66 (0, 0)) := by rw [← hW3]; exact heap_alloc_new wr _
            rw [hW3] at hba
            have hm3 := HM2.out.keep hba
            have hrow : (rs2.getD s []).length = n := by rw [HGS.out.1]; exact hn
            have hrow2 : rs2[s].length = n := by rw [← hrow]; simp [List.getD, List.getElem?_eq_getElem hsl2]
            have HROW := Lib.hid hrow2
            have hvia : ∀ X, Below W3.heap.size W3 X → Calls Try.prog 91 #[.int .i64 ((s - 2 ^ k : Nat) : Int), .agg #[.int .i64 a1, .int .i64 a2], .pointer (some ⟨w.heap.size + 1, 0, none⟩), .pointer (some ⟨w.heap.size, 0, none⟩), .pointer (some ⟨w2.heap.size, 0, none⟩)] X fun e w' => (∃ v, e = .returned (.int .i64 v) ∧ LeastTo (fun a b => btw a b x) (0, 0) (hL L) (s - 2 ^ k) (hL L k) v ∧ v ≤ 40 * ((s : Int) + 1)) ∧ Below X.heap.size X w' := fun X hX => by
              have hXW : Below wr.heap.size wr X := hba.trans (hX.mono (by omega))
              have hXz := hXW.size
              have hgood : s - 2 ^ k ≠ 0 → goodRow x L rs2 (s - 2 ^ k) L.length := fun _ => HG2.out _ (by omega)
              have hlv := lvAt_of (b2 := w.heap.size) (b3 := w.heap.size + 1) (b5 := w2.heap.size) (hm3.keep hX) hrs2 hsN2 hN64 hx.1 hgood (by rw [hn]; exact cell_kept hXW (by omega) u2) (cell_kept hXW (by omega) u3) (cell_kept hXW (by omega) u5) (by omega) (by omega) (by omega) ((ho.below (HBB.out.trans (hXW.mono hb2z))).row.more (by omega))
              have hs2L : s - 2 ^ k < 2 ^ L.length := by rw [hn, hN]; exact hsN2
              refine (lvVia_any _ _ _ x L (s - 2 ^ k) _ a1 a2 X hlv hL6 hs2L hia hin hx).mono ?_
              rintro e w' ⟨⟨v, rfl, hv⟩, hb⟩
              obtain ⟨p1, p2, p3⟩ := post_least hx hin hia hs2L hgood hv
              exact ⟨⟨v, rfl, by rw [hgk]; exact p1, put_bd HBT.out p3⟩, hb⟩
            have HVIA := Lib.hid hvia
            have keep : ∀ X, Below W3.heap.size W3 X → ∃ y, X.cell? ⟨w2.heap.size, 0, none⟩ = some (.slice (some ⟨w.heap.size + 1 + 1, 0, none⟩) N N) ∧ X.cell? ⟨w.heap.size + 1 + 1, s, none⟩ = some (.slice (some ⟨r, 0, none⟩) n n) ∧ X.cell? ⟨wr.heap.size, 0, none⟩ = some (.int .i64 a1) ∧ X.cell? ⟨wr.heap.size, 1, none⟩ = some (.int .i64 a2) ∧ X.cell? ⟨r, k, none⟩ = some y ∧ X.frozen? ⟨r, k, none⟩ = false := fun X hX => by
              have hXW : Below wr.heap.size wr X := hba.trans (hX.mono (by omega))
              have i1 := (hX.block _ (lt_of_heap hblkh)).trans hblkh
              obtain ⟨R, cR, q1, q2, q3, q4⟩ := (hm3.keep hX).head hsl2
              rw [HHD.out, HROW.out] at q2
              simp only [Option.some.injEq, Value.slice.injEq, true_and] at q2
              obtain ⟨rfl, rfl⟩ := q2
              rw [HROW.out] at q1
              obtain ⟨b', o', e1, _, _, q5, q6⟩ := q4.open' (by omega) (by simp; omega)
              simp only [Option.some.injEq, Addr.mk.injEq, and_true] at e1
              obtain ⟨rfl, rfl⟩ := e1
              have hc := ints_at q5 (show k < rs2[s].length by rw [HROW.out]; exact hk)
              rw [Nat.zero_add] at hc
              refine ⟨_, cell_kept hXW (by omega) u5, q1, ?_, ?_, hc, q6 k⟩
              · rw [cell_of_row X _ 0 _ _ _ i1]; rfl
              · rw [cell_of_row X _ 1 _ _ _ i1]; rfl
            have KEEP := Lib.hid keep
            obtain ⟨y3, k1, k2, k3, k4, k5, k6⟩ := keep W3 (Below.refl _ _)
            have hgetD : rs2.getD s [] = rs2[s] := by simp [List.getD, List.getElem?_eq_getElem hsl2]
            have fin : ∀ (v : Int) (X : World), LeastTo (fun a b => btw a b x) (0, 0) (hL L) (s - 2 ^ k) (hL L k) v → v ≤ 40 * ((s : Int) + 1) → Below W3.heap.size W3 X → MG (X.setCell ⟨r, k, none⟩ (.int .i64 v)) (w.heap.size + 1 + 1) (w.heap.size + 1 + 1) hs2 (rs2.set s ((rs2.getD s []).set k v)) ∧ (rs2.set s ((rs2.getD s []).set k v)).length = N ∧ (∀ s', s' < s → goodRow x L (rs2.set s ((rs2.getD s []).set k v)) s' L.length) ∧ goodRow x L (rs2.set s ((rs2.getD s []).set k v)) s (k + 1) ∧ ((X.setCell ⟨r, k, none⟩ (.int .i64 v)).cell? ⟨w.heap.size, 0, none⟩ = some (.slice (some ⟨b, o, none⟩) n c) ∧ (X.setCell ⟨r, k, none⟩ (.int .i64 v)).cell? ⟨w.heap.size + 1, 0, none⟩ = some (.int .i64 x) ∧ (X.setCell ⟨r, k, none⟩ (.int .i64 v)).cell? ⟨w2.heap.size, 0, none⟩ = some (.slice (some ⟨w.heap.size + 1 + 1, 0, none⟩) N N)) ∧ r < (X.setCell ⟨r, k, none⟩ (.int .i64 v)).heap.size ∧ Below w.heap.size w (X.setCell ⟨r, k, none⟩ (.int .i64 v)) := fun v X hv hvb hX => by
              have hXW : Below wr.heap.size wr X := hba.trans (hX.mono (by omega))
              have hXz := hXW.size
              have hmX := (hm3.keep hX).setNum (k := s) (j := k) (b := r) (o := 0) (c := n) (v := v) hsl2 (by rw [HROW.out]; exact hk) (by rw [HROW.out]; exact HHD.out)
              rw [Nat.zero_add] at hmX
              refine ⟨?_, by rw [List.length_set]; exact hrs2, fun s' h => goodRow_other (HG2.out s' h) hsl2 (by omega), goodRow_put HGS.out hsl2 hlk hv hvb, ⟨cellO (by omega) (cell_kept hXW (by omega) u2), cellO (by omega) (cell_kept hXW (by omega) u3), cellO (by omega) (cell_kept hXW (by omega) u5)⟩, ?_, ?_⟩
              · rw [hgetD]; exact hmX
              · show r < (X.setCell ⟨r, k, none⟩ (.int .i64 v)).heap.size
                simp [World.setCell]; omega
              · exact ((HBB.out.trans (hXW.mono hb2z)).setCell (p := ⟨r, k, none⟩) (by show w.heap.size ≤ r; omega) _)
            have FIN := Lib.hid fin
            clear hba hbt ha hcl hvia keep fin hgetD hm3 hrow hrow2 hblkh hpk hp0
            go_wp2_with fail
            go_region_with (go_at_call 91; refine (HVIA.out _ (by first | exact Below.refl _ _ | exact ⟨rfl, rfl, rfl, Nat.le_refl _, fun _ _ => rfl⟩)).mono ?_; rintro e w5 ⟨⟨v, rfl, hv, hvb⟩, hb5⟩; have q5 : Below W3.heap.size W3 w5 := Below.trans (by first | exact Below.refl _ _ | exact ⟨rfl, rfl, rfl, Nat.le_refl _, fun _ _ => rfl⟩) hb5; have HV := Lib.hid (And.intro (And.intro hv hvb) q5); obtain ⟨y5, l1, l2, l3, l4, l5, l6⟩ := KEEP.out w5 q5; clear hv hvb hb5 q5)
            all_goals
              go_wp2_with fail
              go_roundw
              case rel =>
                obtain ⟨z1, z2, z3, z4, z5, z6, z7⟩ := FIN.out _ _ HV.out.1.1 HV.out.1.2 HV.out.2
                exact ⟨k + 1, hs2, _, by omega, by go_num, z1, z2, z3, z4, HHD.out, z5, z6, z7⟩
              case measure => simp [intOf]; omega
        · have hkn' : k = L.length := by omega
          have HF := Lib.hid (show ∀ s', s' < s + 1 → goodRow x L rs2 s' L.length from fun s' h => by
            by_cases e : s' = s
            · rw [e, ← hkn']; exact HGS.out
            · exact HG2.out s' (by omega))
          clear hkn'
          go_wp2_with fail
          go_roundw
          case rel => exact ⟨s + 1, hs2, rs2, by omega, by go_num, HM2.out, hrs2, HF.out, ⟨u2, u3, u5⟩, by omega, HBB.out⟩
          case measure => simp [intOf]; omega
    · have hsN' : s = N := by omega
      subst hsN'
      have hlast : s - 1 < 2 ^ L.length := by rw [hn, hN]; omega
      have hgood : s - 1 ≠ 0 → goodRow x L rs (s - 1) L.length := fun _ => HGD.out _ (by omega)
      have hgl := hmg.lt
      have hlv := lvAt_of (b2 := w.heap.size) (b3 := w.heap.size + 1) (b5 := w2.heap.size) hmg hrs (show s - 1 < s by omega) hN64 hx.1 hgood (by rw [hn]; exact v2) v3 v5 (by omega) (by omega) (by omega) ((ho.below HBR.out).row.more hbz)
      have HC := Lib.hid (lvVia_any _ _ _ x L (s - 1) _ 0 0 wr hlv hL6 hlast ⟨by simp, by simp⟩ hin hx)
      have hwN : IntKind.i64.wrap ((s : Int) - 1) = ((s - 1 : Nat) : Int) := by rw [IntWalk.i64_in _ (by omega)]; omega
      have HP := Lib.hid (fun v => post_least (v := v) (t := (0, 0)) hx hin ⟨by simp, by simp⟩ hlast hgood)
      have HL := Lib.hid (show s - 1 = 2 ^ L.length - 1 by rw [hn, hN])
      clear hmg hlv hgood hlast
      go_wp2_with fail
      refine HC.out.mono ?_
      rintro e w5 ⟨⟨v, rfl, hv⟩, hb5⟩
      have hP := (HP.out v hv).1
      rw [HL.out] at hP
      have HPP := Lib.hid (And.intro hP (HBR.out.trans (hb5.mono hbz)))
      clear hv hb5 hP
      go_wp2
      go_ret
      exact ⟨⟨v, rfl, HPP.out.1⟩, HPP.out.2⟩


theorem best_stops {rs : List (List Int)} {x v : Int} (hB : housesB rs = true) (hx : 0 ≤ x) (hv : LeastTo (fun a b => btw a b x) (0, 0) (hL (stops (rs.map hp))) (2 ^ (stops (rs.map hp)).length - 1) (0, 0) v) : v = 2 * farH (rs.map hp) + 2 * x * sideH (rs.map hp) := by
  have hf := stops_facts (rs.map hp) (rs.map hp).length (Nat.le_refl _)
  rw [List.take_length] at hf
  exact best_of hB hx hf.2.1 hf.2.2 hv
theorem stops_in {rs : List (List Int)} (hB : housesB rs = true) : ∀ a ∈ stops (rs.map hp), inP a := fun a ha => by
  have hf := stops_facts (rs.map hp) (rs.map hp).length (Nat.le_refl _)
  rw [List.take_length] at hf
  obtain ⟨r, hr, rfl⟩ := List.mem_map.1 (hf.2.1 a ha)
  obtain ⟨k, hk, rfl⟩ := List.getElem_of_mem hr
  obtain ⟨p, s, hps, hb⟩ := house_row hB hk
  rw [hps]
  exact ⟨by simp [hp]; omega, by simp [hp]; omega⟩

set_option maxRecDepth 100000 in
set_option maxHeartbeats 2000000 in
theorem impBest_any (A : Option Addr) (c : Nat) (rs : List (List Int)) (x : Int) (w : World) (hr : Grid w 0 w.heap.size A rs) (hs : ∀ r ∈ rs, r.length ≤ 1000000000) :
    Calls Try.prog 15 #[.slice A rs.length c, .int .i64 x] w fun e w' => e = .returned (.int .i64 (leastV rs x)) ∧ Below w.heap.size w w' := by
  have H := Lib.hid (housesOf_all A c rs w hr hs)
  have hcc := fun X => canCross_any x X
  clear hs
  by_cases hB : housesB rs = true
  · have HB := Lib.hid hB
    have hl6 := house_len hB
    by_cases hC : inR x 0 20 = true
    · have hx := inR_iff.1 hC
      have HV := Lib.hid (leastV_yes (show (housesB rs && inR x 0 20) = true by rw [hB, hC]; rfl))
      rw [hC] at hcc
      have HC := Lib.hid hcc
      have HX := Lib.hid hx
      clear hB hC hcc hx
      go_enter Try.func15, Try.ntmps15
      go_wp2_with fail
      refine H.out.mono ?_
      rintro e w1 ⟨h1, _⟩
      obtain ⟨A1, c1, rfl, _, ho, hb⟩ := h1 HB.out
      have HB1 := Lib.hid hb
      have hb1 := hb.size
      have hst := stopsAt_any A1 c1 (rs.map hp) w1 ho.row (by rw [List.length_map]; exact hl6)
      rw [List.length_map] at hst
      have HST := Lib.hid hst
      clear h1 hb ho hst
      go_wp2_with (first | (go_at_call 48; ((with_reducible refine (HC.out _).mono ?_); rintro e w' ⟨rfl, rfl⟩)) | fail)
      refine HST.out.mono ?_
      rintro e w3 ⟨A3, c3, rfl, _, ho3, hb3⟩
      have hl3 := stops_length (rs.map hp)
      rw [List.length_map] at hl3
      have HLA := Lib.hid (leastAll_any A3 c3 (stops (rs.map hp)) x w3 ho3.row (by omega) (stops_in HB.out) HX.out)
      have HB3 := Lib.hid (HB1.out.trans (hb3.mono hb1))
      clear ho3 hb3
      go_wp2_with fail
      refine HLA.out.mono ?_
      rintro e w5 ⟨⟨v, rfl, hv⟩, hb5⟩
      have HF := Lib.hid (best_stops HB.out HX.out.1 hv)
      have HB5 := Lib.hid (HB3.out.trans (hb5.mono HB3.out.size))
      clear hv hb5
      go_wp2
      go_ret
      exact ⟨ret_int (by rw [HV.out, HF.out]), HB5.out⟩
    · have hC' : inR x 0 20 = false := by simpa using hC
      have HV := Lib.hid (leastV_no (show (housesB rs && inR x 0 20) = false by rw [hC', Bool.and_false]))
      rw [hC'] at hcc
      have HC := Lib.hid hcc
      clear hB hC hC' hcc
      go_enter Try.func15, Try.ntmps15
      go_wp2_with fail
      refine H.out.mono ?_
      rintro e w1 ⟨h1, _⟩
      obtain ⟨A1, c1, rfl, _, ho, hb⟩ := h1 HB.out
      have HB1 := Lib.hid hb
      clear h1 hb ho
      go_wp2_with (first | (go_at_call 48; ((with_reducible refine (HC.out _).mono ?_); rintro e w' ⟨rfl, rfl⟩)) | fail)
      go_ret
      exact ⟨ret_int HV.out.symm, HB1.out⟩
  · have hB' : housesB rs = false := by simpa using hB
    have HBN := Lib.hid hB'
    have HV := Lib.hid (leastV_no (show (housesB rs && inR x 0 20) = false by rw [hB']; rfl))
    clear hB hB' hcc
    go_enter Try.func15, Try.ntmps15
    go_wp2_with fail
    refine H.out.mono ?_
    rintro e w1 ⟨_, h2⟩
    obtain ⟨rfl, hb⟩ := h2 HBN.out
    have HB1 := Lib.hid hb
    clear h2 hb
    go_wp2
    go_ret
    exact ⟨ret_int HV.out.symm, HB1.out⟩
end Go.Proofs.Ytlgeoilnjgojnaa
