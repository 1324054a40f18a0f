/- Rates turned, and the cheapest of them: plain, and contracts in lists. No condition. -/
import Derived.Test.YtmbpcilgjolaeaaUf
namespace Go.Proofs.Ytmbpcilgjolaeaa
open Go.RowKit

section
variable {n : Nat} {D E : Nat → Nat → Int}
theorem fw_congr (h : RM n D) (he : ∀ i k, i < n → k < n → E i k = D i k) {i k : Nat} (hi : i < n) (hk : k < n) : fw7 n E i k = fw7 n D i k :=
  fw_is (h.congr he) (fw_fair h) (fun a b ha hb => by rw [he a b ha hb]; exact fw_le h a b ha hb) (fun _ hG hle => fw_great h hG (fun a b ha hb => by rw [← he a b ha hb]; exact hle a b ha hb)) hi hk
theorem cheapV_mat (h : RM n D) : cheapV (mat n D) = mat n (fw7 n D) := by
  rw [cheapV_yes (ratesB_mat h), mat_len]
  exact mat_congr fun i k hi hk => fw_congr h (fun a b ha hb => cell_mat ha hb) hi hk
/-- Rows turned. -/
def flipL (rs : List (List Int)) : List (List Int) := mat rs.length (fun i k => cellOf rs k i)
theorem flipL_mat (n : Nat) (D : Nat → Nat → Int) : flipL (mat n D) = mat n (fun i k => D k i) := by
  unfold flipL
  rw [mat_len]
  exact mat_congr fun i k hi hk => cell_mat hk hi
theorem cheap_flip (h : RM n D) : cheapV (flipL (mat n D)) = flipL (cheapV (mat n D)) := by
  rw [flipL_mat, cheapV_mat h, flipL_mat, cheapV_mat h.turn]
  exact mat_congr fun i k hi hk => fw_turn h hi hk
theorem cheap_again (h : RM n D) : cheapV (cheapV (mat n D)) = cheapV (mat n D) := by
  rw [cheapV_mat h, cheapV_mat (fw_rm h)]
  exact mat_congr fun i k hi hk => fw_same (fw_rm h) (fw_fair h) hi hk
theorem cheap_fair (h : RM n D) : fairV (cheapV (mat n D)) = true := by
  rw [cheapV_mat h, fairV_mat (fw_rm h)]; exact decide_eq_true (fw_fair h)
theorem fair_cheap (h : RM n D) : fairV (mat n D) = eqG (cheapV (mat n D)) (mat n D) := by
  rw [fairV_mat h, cheapV_mat h, eqG, Bool.eq_iff_iff, decide_eq_true_iff, decide_eq_true_iff]
  constructor
  · exact fun hf => mat_congr fun i k hi hk => fw_same h hf hi hk
  · intro he
    exact (fw_fair h).congr fun i k hi hk => by rw [← cell_mat (D := D) hi hk, ← he, cell_mat hi hk]
end
theorem flipped_rs {A : Option Addr} {c : Nat} {rs : List (List Int)} {w : World} (hr : Grid w 0 w.heap.size A rs) (hv : ratesB rs = true) : Calls Try.prog 34 #[.slice A rs.length c] w (gRes w (flipL rs)) := by
  obtain ⟨e1, e2⟩ := rates_parts hv
  exact flipped_any A c rs.length (cellOf rs) w (by rw [← e1]; exact hr) e2.n1 e2.n5
theorem rowsAtMost_rs {A B : Option Addr} {c d n : Nat} {xs ys : List (List Int)} {D E : Nat → Nat → Int} {w : World} (hr : Grid w 0 w.heap.size A xs) (hs : Grid w 0 w.heap.size B ys) (hx : xs = mat n D) (hy : ys = mat n E) (hn1 : 1 ≤ n) (hn5 : n ≤ 5) (hle : AtMost n D E) :
    Calls Try.prog 37 #[.slice A xs.length c, .slice B ys.length d] w fun e w' => e = .returned (.bool true) ∧ Below w.heap.size w w' := by
  subst hx hy
  rw [mat_len, mat_len]
  exact rowsAtMost_yes A B c d n D E w hr hs hn1 hn5 hle
theorem drew_b (w : World) (n : Nat) : Below w.heap.size w (w.drewN n) := drewBelow w n
end Go.Proofs.Ytmbpcilgjolaeaa
