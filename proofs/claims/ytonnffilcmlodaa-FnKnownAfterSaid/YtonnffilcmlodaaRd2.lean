/- The reader, more contracts. No condition. -/
import Derived.Test.YtonnffilcmlodaaRd
import Derived.Test.YtonnffilcmlodaaOwn
namespace Go.Proofs.Ytonnffilcmlodaa
open Go.RowKit

theorem Try.info3 : (Try.prog.info? 3).map (fun i => (i.zero, i.size, i.bytes)) = some (some (.int .i64 0), 1, 8) := by kernel_rfl

theorem Rd.own {w w' : World} {g p : Nat} {row : Option Nat} (h : Rd w g p) (k : w.grownBy w' row) (hr : ∀ i, row = some i → g < i) : Rd w' g p := by
  have hlt := h.lt
  obtain ⟨A, bs, c, h1, h2, h3, h4⟩ := h
  have hb : ∀ i, i ≤ g → w'.heap[i]? = w.heap[i]? := fun i hi => k.block i (by omega) (fun e => by have := hr i e.symm; omega)
  refine ⟨A, bs, c, (hb g (Nat.le_refl _)).trans h1, ?_, h3, h4⟩
  exact h2.below ⟨k.os, k.tape, k.output, k.size, fun i hi => hb i (by omega)⟩

set_option maxRecDepth 100000 in
theorem one_any (g p : Nat) (A : Option Addr) (c : Nat) (zs : List Int) (w : World) (hrd : Rd w g p) (hp : p ≤ 1000000) (hr : Own w 0 w.heap.size A (zs.map (Value.int .i64))) (hne : ∀ b o, A = some ⟨b, o, none⟩ → b ≠ g) (hz : 0 < zs.length) (hl : zs.length ≤ 1000000) :
    Calls Try.prog 49 #[.pointer (some ⟨g, 0, none⟩), .slice A zs.length c] w fun e w' => ∃ k : Int, e = .returned (.int .i64 k) ∧ k ∈ zs ∧ Rd w' g (p + 1) ∧ w.grownBy w' (some g) := by
  go_enter Try.func49, Try.ntmps49
  go_wp2_with fail
  refine (pick_any g p _ _ hrd hp (by omega)).mono ?_
  rintro e w1 ⟨k, rfl, hk, hrd1, hg1⟩
  obtain ⟨j, rfl⟩ := Int.eq_ofNat_of_zero_le hk.1
  have hj : j < zs.length := by have := hk.2 (by omega); omega
  obtain ⟨b, o, rfl, hb, hc⟩ := (hr.grown (Nat.le_refl _) hg1 hne).open (by simp; omega)
  have hcell := ints_at hc hj
  clear hc
  go_wp2
  go_ret
  exact ⟨_, rfl, List.getElem_mem hj, hrd1, hg1⟩

theorem one_lit (g p : Nat) (w : World) (hrd : Rd w g p) (hp : p ≤ 1000000) (zs : List Int) (hz : 0 < zs.length) (hl : zs.length ≤ 1000000) (n : Nat) (hn : zs.length = n) (vs : Array Value) (hvs : vs = (zs.map (Value.int .i64)).toArray) :
    Calls Try.prog 49 #[.pointer (some ⟨g, 0, none⟩), .slice (some ⟨w.heap.size, 0, none⟩) n n] (w.alloc (.cells vs 3)) fun e w' => ∃ k : Int, e = .returned (.int .i64 k) ∧ k ∈ zs ∧ Rd w' g (p + 1) ∧ w.grownBy w' (some g) := by
  subst hn hvs
  have hgl := hrd.lt
  refine (one_any g p _ _ zs _ (hrd.own (World.grownBy_alloc w _ none) (by simp)) hp ?_ ?_ hz hl).mono ?_
  · refine .inr ⟨w.heap.size, 0, rfl, by omega, by simp, fun j u hu => ?_, fun h => by omega⟩
    rw [World.cell?_alloc_at _ _ _ _ rfl, Nat.zero_add]
    simpa using hu
  · intro b o e
    simp at e
    omega
  · rintro e w1 ⟨k, rfl, hk, hr, hg⟩
    exact ⟨k, rfl, hk, hr, grown_trans (World.grownBy_alloc w _ _) hg⟩

set_option maxRecDepth 100000 in
theorem newReader_any (A : Option Addr) (c : Nat) (zs : List Int) (w : World) (hr : Own w 0 w.heap.size A (zs.map (Value.int .u8))) (hx : zs.length ≤ c ∧ c ≤ maxLen ∧ ∀ z ∈ zs, (Lit.int .u8 z).wf = true) :
    Calls Try.prog 41 #[.slice A zs.length c] w fun e w' => e = .returned (.pointer (some ⟨w.heap.size, 0, none⟩)) ∧ Rd w' w.heap.size 0 ∧ Below w.heap.size w w' := by
  obtain ⟨h1, h2, h3⟩ := hx
  unfold maxLen at h2
  have H3 := Lib.hid h3
  clear h3
  have hv : ∀ b ∈ zs, 0 ≤ b ∧ b ≤ 255 := fun b hb => by
    have := H3.out b hb
    simp only [Lit.wf] at this
    rw [show IntKind.u8.min = 0 from by decide, show IntKind.u8.max = 255 from by decide] at this
    simpa using this
  by_cases h20 : zs.length ≤ 2000
  · have HV := Lib.hid hv; clear hv
    go_enter Try.func41, Try.ntmps41
    go_wp2
    go_ret
    refine ⟨rfl, ⟨A, zs, c, heap_alloc_new w _, ?_, HV.out, h20⟩, (Below.refl _ _).alloc (Nat.le_refl _) _⟩
    exact hr.below ((Below.refl _ _).alloc (Nat.le_refl _) _)
  · have HV := Lib.hid hv; clear hv
    go_enter Try.func41, Try.ntmps41
    go_wp2
    go_ret
    have hlen : (zs.take 2000).length = 2000 := by rw [List.length_take]; omega
    refine ⟨rfl, ⟨A, zs.take 2000, c, ?_, ?_, fun b hb => HV.out b (List.mem_of_mem_take hb), by omega⟩, (Below.refl _ _).alloc (Nat.le_refl _) _⟩
    · rw [hlen]; exact heap_alloc_new w _
    · rw [List.map_take]
      exact (hr.below ((Below.refl _ _).alloc (Nat.le_refl _) _)).take 2000

theorem Rd.ne_start {g : Nat} {w : World} (h : g < w.heap.size) : ∀ b o, (some (⟨w.heap.size, 0, none⟩ : Addr)) = some ⟨b, o, none⟩ → b ≠ g := by
  intro b o e
  simp at e
  omega
end Go.Proofs.Ytonnffilcmlodaa
