/- One of the texts: the reader's contract. No condition. -/
import Derived.Test.YtphfolmhlcmbjaaDoorRd2
import Derived.Test.YtphfolmhlcmbjaaDoorDr
namespace Go.Proofs.YtphfolmhlcmbjaaDoor
open Go.RowKit

set_option maxRecDepth 100000 in
theorem of_mem (g p : Nat) (w : World) (hrd : Rd w g p) (hp : p ≤ 1000000) (ss : List ByteArray) (hz : 0 < ss.length) (hl : ss.length ≤ 1000000) (n a : Nat) (hn : ss.length = n) (ha : a = w.heap.size) (vs : Array Value) (hvs : vs = (ss.map Value.string).toArray) :
    Calls Tryd.prog 45 #[.pointer (some ⟨g, 0, none⟩), .slice (some ⟨a, 0, none⟩) n n] (w.alloc (.cells vs 9)) fun e w' => ∃ s : ByteArray, e = .returned (.string s) ∧ s ∈ ss ∧ Rd w' g (p + 1) ∧ w.grownBy w' (some g) := by
  subst hn hvs ha
  have hgl := hrd.lt
  have hrd0 := hrd.own (World.grownBy_alloc w (.cells (ss.map Value.string).toArray 9) none) (by simp)
  have hrow : Own (w.alloc (.cells (ss.map Value.string).toArray 9)) 0 (w.heap.size + 1) (some ⟨w.heap.size, 0, none⟩) (ss.map Value.string) := by
    have := own_new w (ss.map Value.string).toArray 9
    simpa using this
  go_enter Tryd.func45, Tryd.ntmps45
  go_wp2_with fail
  refine (pick_any g p _ _ hrd0 hp (by omega)).mono ?_
  rintro e w1 ⟨k, rfl, hk, hrd1, hg1⟩
  obtain ⟨j, rfl⟩ := Int.eq_ofNat_of_zero_le hk.1
  have hj : j < ss.length := by have := hk.2 (by omega); omega
  have hrow1 := hrow.grown (by simp) hg1 (by intro b o e; simp at e; omega)
  obtain ⟨b, o, e, hb, hc⟩ := hrow1.open (by simp; omega)
  simp only [Option.some.injEq, Addr.mk.injEq, and_true] at e
  obtain ⟨rfl, rfl⟩ := e
  have hcell := hc j (.string ss[j]) (by simp [List.getElem?_map, List.getElem?_eq_getElem hj])
  have hsz := List.getElem_mem hj
  obtain ⟨s, hs⟩ : ∃ s, ss[j] = s := ⟨_, rfl⟩
  rw [hs] at hcell hsz
  rw [Nat.zero_add] at hcell
  have hG := Lib.hid (And.intro hsz (And.intro hrd1 (grown_trans (World.grownBy_alloc w _ _) hg1)))
  clear hc hs hk hrow hrow1 hg1 hrd1 hrd0 hsz
  go_wp2
  go_ret
  exact ⟨s, rfl, hG.out.1, hG.out.2.1, hG.out.2.2⟩
end Go.Proofs.YtphfolmhlcmbjaaDoor
