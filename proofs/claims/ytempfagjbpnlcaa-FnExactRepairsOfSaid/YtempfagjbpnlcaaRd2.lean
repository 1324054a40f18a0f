/- The reader, more contracts. No condition. -/
import Derived.Test.YtempfagjbpnlcaaRd
import Derived.Test.YtempfagjbpnlcaaOwn
namespace Go.Proofs.Ytempfagjbpnlcaa
open Go.RowKit

theorem Try.info3 : (Try.prog.info? 3).map (fun i => (i.zero, i.size, i.bytes)) = some (some (.int .i64 0), 1, 8) := by kernel_rfl

theorem Rd.own {w w' : World} {g p : Nat} {row : Option Nat} (h : Rd w g p) (k : w.grownBy w' row) (hr : ∀ i, row = some i → g < i) : Rd w' g p := by
  have hlt := h.lt
  obtain ⟨A, bs, c, h1, h2, h3, h4⟩ := h
  have hb : ∀ i, i ≤ g → w'.heap[i]? = w.heap[i]? := fun i hi => k.block i (by omega) (fun e => by have := hr i e.symm; omega)
  refine ⟨A, bs, c, (hb g (Nat.le_refl _)).trans h1, ?_, h3, h4⟩
  exact h2.below ⟨k.os, k.tape, k.output, k.size, fun i hi => hb i (by omega)⟩

set_option maxRecDepth 100000 in
theorem one_any (g p : Nat) (A : Option Addr) (c : Nat) (zs : List Int) (w : World) (hrd : Rd w g p) (hp : p ≤ 1000000) (hr : Own w 0 w.heap.size A (zs.map (Value.int .i64))) (hne : ∀ b o, A = some ⟨b, o, none⟩ → b ≠ g) (hz : 0 < zs.length) (hl : zs.length ≤ 1000000) :
    Calls Try.prog 45 #[.pointer (some ⟨g, 0, none⟩), .slice A zs.length c] w fun e w' => ∃ k : Int, e = .returned (.int .i64 k) ∧ k ∈ zs ∧ Rd w' g (p + 1) ∧ w.grownBy w' (some g) := by
  go_enter Try.func45, Try.ntmps45
  go_wp2_with fail
  refine (pick_any g p _ _ hrd hp (by omega)).mono ?_
  rintro e w1 ⟨k, rfl, hk, hrd1, hg1⟩
  obtain ⟨j, rfl⟩ := Int.eq_ofNat_of_zero_le hk.1
  have hj : j < zs.length := by have := hk.2 (by omega); omega
  obtain ⟨b, o, rfl, hb, hc⟩ := (hr.grown (Nat.le_refl _) hg1 hne).open (by simp; omega)
  have hcell := ints_at hc hj
  clear hc
  go_wp2
  go_ret
  exact ⟨_, rfl, List.getElem_mem hj, hrd1, hg1⟩

theorem one_lit (g p : Nat) (w : World) (hrd : Rd w g p) (hp : p ≤ 1000000) (zs : List Int) (hz : 0 < zs.length) (hl : zs.length ≤ 1000000) (n : Nat) (hn : zs.length = n) (vs : Array Value) (hvs : vs = (zs.map (Value.int .i64)).toArray) :
    Calls Try.prog 45 #[.pointer (some ⟨g, 0, none⟩), .slice (some ⟨w.heap.size, 0, none⟩) n n] (w.alloc (.cells vs 3)) fun e w' => ∃ k : Int, e = .returned (.int .i64 k) ∧ k ∈ zs ∧ Rd w' g (p + 1) ∧ w.grownBy w' (some g) := by
  subst hn hvs
  have hgl := hrd.lt
  refine (one_any g p _ _ zs _ (hrd.own (World.grownBy_alloc w _ none) (by simp)) hp ?_ ?_ hz hl).mono ?_
  · refine .inr ⟨w.heap.size, 0, rfl, by omega, by simp, fun j u hu => ?_, fun h => by omega⟩
    rw [World.cell?_alloc_at _ _ _ _ rfl, Nat.zero_add]
    simpa using hu
  · intro b o e
    simp at e
    omega
  · rintro e w1 ⟨k, rfl, hk, hr, hg⟩
    exact ⟨k, rfl, hk, hr, grown_trans (World.grownBy_alloc w _ _) hg⟩

set_option maxRecDepth 100000 in
theorem newReader_any (A : Option Addr) (c : Nat) (zs : List Int) (w : World) (hr : Own w 0 w.heap.size A (zs.map (Value.int .u8))) (hx : zs.length ≤ c ∧ c ≤ maxLen ∧ ∀ z ∈ zs, (Lit.int .u8 z).wf = true) :
    Calls Try.prog 28 #[.slice A zs.length c] w fun e w' => e = .returned (.pointer (some ⟨w.heap.size, 0, none⟩)) ∧ Rd w' w.heap.size 0 ∧ Below w.heap.size w w' := by
  obtain ⟨h1, h2, h3⟩ := hx
  unfold maxLen at h2
  have H3 := Lib.hid h3
  clear h3
  have hv : ∀ b ∈ zs, 0 ≤ b ∧ b ≤ 255 := fun b hb => by
    have := H3.out b hb
    simp only [Lit.wf] at this
    rw [show IntKind.u8.min = 0 from by decide, show IntKind.u8.max = 255 from by decide] at this
    simpa using this
  by_cases h20 : zs.length ≤ 2000
  · have HV := Lib.hid hv; clear hv
    go_enter Try.func28, Try.ntmps28
    go_wp2
    go_ret
    refine ⟨rfl, ⟨A, zs, c, heap_alloc_new w _, ?_, HV.out, h20⟩, (Below.refl _ _).alloc (Nat.le_refl _) _⟩
    exact hr.below ((Below.refl _ _).alloc (Nat.le_refl _) _)
  · have HV := Lib.hid hv; clear hv
    go_enter Try.func28, Try.ntmps28
    go_wp2
    go_ret
    have hlen : (zs.take 2000).length = 2000 := by rw [List.length_take]; omega
    refine ⟨rfl, ⟨A, zs.take 2000, c, ?_, ?_, fun b hb => HV.out b (List.mem_of_mem_take hb), by omega⟩, (Below.refl _ _).alloc (Nat.le_refl _) _⟩
    · rw [hlen]; exact heap_alloc_new w _
    · rw [List.map_take]
      exact (hr.below ((Below.refl _ _).alloc (Nat.le_refl _) _)).take 2000

set_option maxRecDepth 100000 in
set_option maxHeartbeats 1000000 in
theorem listOf_any (g p : Nat) (n low high : Int) (w : World) (hrd : Rd w g p) (hp : p ≤ 100000) (hn : n ≤ 10000) (h1 : -100000 ≤ low) (h2 : low ≤ high) (h3 : high ≤ 100000) :
    Calls Try.prog 44 #[.pointer (some ⟨g, 0, none⟩), .int .i64 n, .int .i64 low, .int .i64 high] w fun e w' => ∃ (A : Option Addr) (c : Nat) (zs : List Int),
      e = .returned (.slice A zs.length c) ∧ zs.length = n.toNat ∧ (∀ z ∈ zs, low ≤ z ∧ z ≤ high) ∧ OwnInts w' w.heap.size w'.heap.size A zs ∧ Rd w' g (p + n.toNat) ∧ w.grownBy w' (some g) := by
  obtain ⟨i0, hi0, hz0, hz1, hz2⟩ := info_parts Try.info3
  have hgl := hrd.lt
  have hstart : (w.alloc (.cells #[] 3)).ownsRow w.heap.size 3 1 (.slice (some ⟨w.heap.size, 0, none⟩) 0 0) 0 [] := World.ownsRow_lit w #[] 0 (Nat.le_refl _) (by simp [maxLen]) rfl
  have hga : w.grownBy (w.alloc (.cells #[] 3)) (some g) := World.grownBy_alloc w _ _
  have hrda : Rd (w.alloc (.cells #[] 3)) g p := hrd.own (World.grownBy_alloc w _ none) (by simp)
  go_enter Try.func44, Try.ntmps44
  go_wp2
  go_loopw [9] (fun v wr => ∃ (A : Option Addr) (c : Nat) (zs : List Int), v = .slice A zs.length c ∧ zs.length ≤ n.toNat ∧ (∀ z ∈ zs, low ≤ z ∧ z ≤ high) ∧
      wr.ownsRow w.heap.size 3 1 (.slice A zs.length c) zs.length (zs.map (Value.int .i64)) ∧ Rd wr g (p + zs.length) ∧ w.grownBy wr (some g))
    (fun v _ => n.toNat - (match v with | .slice _ m _ => m | _ => 0))
  case atStart => exact ⟨_, _, [], rfl, by simp, by simp, hstart, hrda, hga⟩
  case round =>
    obtain ⟨A, c, zs, rfl, hk, hall, hown, hrdr, hgr⟩ := hrel
    clear hstart hga hrda
    have HA := Lib.hid hall; clear hall
    by_cases hlt : (zs.length : Int) < n
    · go_wp2_with fail
      refine (pick_any g _ _ _ hrdr (by omega) (by omega)).mono ?_
      rintro e w1 ⟨k, rfl, hkb, hrd1, hg1⟩
      have hk0 := hkb.1
      have hk1 := hkb.2 (by omega)
      have hown1 := hown.kept hg1 (own_ne hown hgl)
      have hgr1 := grown_trans hgr hg1
      clear hown hgr hg1 hrdr
      go_wp2_with (at_builtin; refine wpList_push rfl (.tmp 15) (.tmp 24) 23 rfl i0 (.int .i64 0) 8 Try.underlying23 hi0 hz0 hz1 hz2 rfl (by decide) _ _ rfl hown1 [.int .i64 (low + k)] rfl rfl (by simp [Value.oneCell']) (by omega) (by omega) hgr1.size ?_)
      intro A' c' w2 hown2 hg2
      have hrd2 := hrd1.own hg2 (fun i hi => by have := (hown1.lt _ hi).1; omega)
      have hgr2 := grown_own hgr1 hg2 (fun i hi => (hown1.lt _ hi).1)
      clear hown1 hgr1 hg2 hrd1
      go_wp2
      go_roundw
      case rel =>
        refine ⟨A', c', zs ++ [low + k], by simp, by simp; omega, fun z hz => ?_, by simpa using hown2, ?_, hgr2⟩
        · rcases List.mem_append.1 hz with hz | hz
          · exact HA.out z hz
          · simp at hz; omega
        · rw [List.length_append]; exact hrd2
      case measure => simp; omega
    · go_wp2
      go_ret
      have hn' : zs.length = n.toNat := by omega
      obtain ⟨A1, c1, hv, _, ho⟩ := own_of_row hown
      simp only [Value.slice.injEq] at hv
      obtain ⟨rfl, _, rfl⟩ := hv
      exact ⟨A, c, zs, rfl, hn', HA.out, ho, by rw [← hn']; exact hrdr, hgr⟩

theorem Rd.ne_start {g : Nat} {w : World} (h : g < w.heap.size) : ∀ b o, (some (⟨w.heap.size, 0, none⟩ : Addr)) = some ⟨b, o, none⟩ → b ≠ g := by
  intro b o e
  simp at e
  omega

/-- What 'spec.someDigits' draws. -/
theorem someDigits_any (g p : Nat) (w : World) (hrd : Rd w g p) (hp : p ≤ 1000) :
    Calls Try.prog 27 #[.pointer (some ⟨g, 0, none⟩)] w fun e w' => ∃ (A : Option Addr) (c : Nat) (zs : List Int),
      e = .returned (.slice A zs.length c) ∧ zs.length ≤ 4 ∧ (∀ z ∈ zs, -1 ≤ z ∧ z ≤ 10) ∧ Own w' 0 w'.heap.size A (zs.map (Value.int .i64)) ∧ w.grownBy w' (some g) := by
  have hgl := hrd.lt
  go_enter Try.func27, Try.ntmps27
  go_wp2_with fail
  refine (one_lit g p w hrd (by omega) [4, 4, 4, 4, 4, 4, 4, 3] (by decide) (by decide) 8 rfl _ rfl).mono ?_
  rintro e w1 ⟨k, rfl, hk, hrd1, hg1⟩
  have hk' : k = 4 ∨ k = 3 := by simp at hk; omega
  have hk3 : 3 ≤ k ∧ k ≤ 4 := by omega
  clear hk hk'
  go_wp2_with fail
  refine (listOf_any g _ k 0 9 _ hrd1 (by omega) (by omega) (by omega) (by omega) (by omega)).mono ?_
  rintro e w2 ⟨A, c, zs, rfl, hzl, hzs, ho, hrd2, hg2⟩
  have HZ := Lib.hid hzl
  have h3 : 3 ≤ zs.length := by omega
  have h4 : zs.length ≤ 4 := by omega
  have HZS := Lib.hid hzs
  clear hzl hzs
  have hgl1 : g < w1.heap.size := hrd1.lt
  have hkn : k.toNat ≤ 4 := by omega
  go_wp2_with fail
  refine (pick_any g _ _ _ hrd2 (by omega) (by omega)).mono ?_
  rintro e w3 ⟨q, rfl, hq, hrd3, hg3⟩
  have hne : ∀ b o, A = some ⟨b, o, none⟩ → b ≠ g := by
    rintro b o rfl
    obtain ⟨b', o', e, h1, _⟩ := ho.open' (by omega) (by simp; omega)
    simp at e
    omega
  have ho3 := ho.grown (Nat.le_refl _) hg3 hne
  have hg123 := grown_trans (grown_trans hg1 hg2) hg3
  have hbd : ∀ z ∈ zs, -1 ≤ z ∧ z ≤ 10 := fun z hz => by have := HZS.out z hz; omega
  have HBD := Lib.hid hbd
  have hz1 := hg1.size
  clear hbd ho hg1 hg2 hrd1 hrd2
  by_cases hq0 : q = 0
  · subst hq0
    obtain ⟨b, o, rfl, hb1, hb2, hc, hf⟩ := ho3.open' (by omega) (by simp; omega)
    have hz3 := hg3.size
    go_wp2_with fail
    refine (one_lit g _ w3 hrd3 (by omega) [-1, 10] (by decide) (by decide) 2 rfl _ rfl).mono ?_
    rintro e w4 ⟨k', rfl, hk', hrd4, hg4⟩
    have hkb : -1 ≤ k' ∧ k' ≤ 10 := by simp at hk'; omega
    clear hk' hc hf
    have ho4 := (ho3.more hz3).grown (Nat.le_refl _) hg4 hne
    obtain ⟨b', o', e, _, hb4, hc, hf⟩ := ho4.open' (by omega) (by simp; omega)
    simp only [Option.some.injEq, Addr.mk.injEq, and_true] at e
    obtain ⟨rfl, rfl⟩ := e
    have hc0 := hc 0 (.int .i64 zs[0]) (by simp [List.getElem?_map, List.getElem?_eq_getElem (show 0 < zs.length by omega)])
    have hf0 := hf o
    rw [Nat.add_zero] at hc0
    have h0 : (0 : Int) < (zs.length : Int) := by omega
    have hbg : b ≠ g := by omega
    clear hc hf hne
    go_wp2
    go_ret
    have hz4 := hg4.size
    have hfin := ho4.set 0 (.int .i64 k')
    refine ⟨some ⟨b, o, none⟩, c, zs.set 0 k', by rw [List.length_set]; rfl, by rw [List.length_set]; exact h4, fun z hz => ?_, ?_, ?_⟩
    · rcases List.mem_or_eq_of_mem_set hz with hz | rfl
      · exact HBD.out z hz
      · exact hkb
    · rw [List.map_set]
      exact (hfin.more (by simp [World.setCell]; omega)).less (by omega)
    · refine grown_own (grown_trans hg123 hg4) (row := some b) ⟨rfl, rfl, rfl, by simp [World.setCell], fun i hi hne => Below.heap_setCell _ _ _ _ (fun e => hne (by rw [e]))⟩ (fun i hi => ?_)
      injection hi with hi
      have := hg123.size
      omega
  · have hqq : (q == 0) = false := beq_eq_false_iff_ne.2 hq0
    clear hq0
    go_wp2
    go_ret
    exact ⟨A, c, zs, rfl, h4, HBD.out, (ho3.more hg3.size).less (by omega), hg123⟩
end Go.Proofs.Ytempfagjbpnlcaa
