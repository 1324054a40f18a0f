/- Stamps that are drawn: the laws' arguments. No condition. -/
import Derived.Test.YtookdmdlpglbcaaYj
import Derived.Test.YtookdmdlpglbcaaEx
namespace Go.Proofs.Ytookdmdlpglbcaa
open Go.RowKit

theorem own_read {v v' : World} {g b0 : Nat} {A : Option Addr} {xs : List Value} (h : Own v (b0 + 1) v.heap.size A xs) (hg : g < b0) (hgr : v.grownBy v' (some g)) : Own v' (b0 + 1) v'.heap.size A xs := by
  rcases h with h | ⟨b, o, rfl, h0, hlt, hc, hf⟩
  · exact .inl h
  · have h : Own v (b0 + 1) v.heap.size (some ⟨b, o, none⟩) xs := .inr ⟨b, o, rfl, h0, hlt, hc, hf⟩
    exact (h.grown (Nat.le_refl _) hgr (fun b' o' e => by injection e with e; injection e with e1; omega)).more hgr.size
def DrawnS (w : World) (A : Option Addr) (c : Nat) (zs : List Int) (w' : World) : Prop :=
  zs.length ≤ 5 ∧ zs.length ≤ c ∧ small zs ∧ Ints w' w'.heap.size A zs ∧ Below w.heap.size w w'
def Draw1 (w : World) (e : Ending) (w' : World) : Prop := ∃ (A : Option Addr) (c : Nat) (zs : List Int), e = .returned (.slice A zs.length c) ∧ DrawnS w A c zs w'
def Draw2 (lo hi : Int) (w : World) (e : Ending) (w' : World) : Prop := ∃ (A : Option Addr) (c : Nat) (zs : List Int) (x : Int), e = .returned (.tuple #[.slice A zs.length c, .int .i64 x]) ∧ (lo ≤ x ∧ x ≤ hi) ∧ DrawnS w A c zs w'

set_option maxRecDepth 100000 in
theorem drawValidStamps_any (A : Option Addr) (c : Nat) (zs : List Int) (w : World) (hr : Own w 0 w.heap.size A (zs.map (Value.int .u8))) (hx : zs.length ≤ c ∧ c ≤ maxLen ∧ ∀ z ∈ zs, (Lit.int .u8 z).wf = true) :
    Calls Try.prog 29 #[.slice A zs.length c] w (Draw1 w) := by
  have H := Lib.hid hx
  clear hx
  go_enter Try.func29, Try.ntmps29
  go_wp2_with fail
  refine (newReader_any _ _ _ _ hr H.out).mono ?_
  rintro e w1 ⟨rfl, hrd, hb1⟩
  go_wp2_with fail
  refine (someStamps_any _ 0 _ hrd (by omega)).mono ?_
  rintro e w2 ⟨A2, c2, rs, rfl, h6, hc, hs, ho, _, hg⟩
  go_wp2_with fail
  go_ret
  exact ⟨A2, c2, rs, rfl, h6, hc, hs, ho.row, hb1.grown hg hb1.size (fun k hk => by injection hk with hk; omega)⟩
end Go.Proofs.Ytookdmdlpglbcaa
