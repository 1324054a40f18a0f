/- Passes that are tried, plain. No condition. -/
import Derived.Test.YtaklhpjbgjccgaaSu
namespace Go.Proofs.Ytaklhpjbgjccgaa
open Go.RowKit

def Boxes (r bs : List Int) (k : Nat) : Prop := bs.length = r.length ∧ ∀ (i : Nat) (hi : i < bs.length), 0 ≤ bs[i] ∧ bs[i] < (k : Int)
/-- The row r is reached by p passes. -/
def Reach (zs : List Int) (k : Nat) : Nat → List Int → Prop
  | 0, r => r = zs
  | p + 1, r => ∃ r0 bs, Reach zs k p r0 ∧ Boxes r0 bs k ∧ r = passL r0 bs k
theorem Reach.perm {zs r : List Int} {k p : Nat} (h : Reach zs k p r) : r.Perm zs := by
  induction p generalizing r with
  | zero => simp only [Reach] at h; subst h; exact List.Perm.refl _
  | succ p ih =>
    obtain ⟨r0, bs, h1, h2, rfl⟩ := h
    exact (pass_perm h2.1 h2.2).trans (ih h1)
theorem Reach.row {zs r : List Int} {k p m : Nat} (hz : rowB m zs = true) (h : Reach zs k p r) : rowB m r = true := rowB_perm h.perm hz
theorem Reach.len {zs r : List Int} {k p : Nat} (h : Reach zs k p r) : r.length = zs.length := h.perm.length_eq
theorem Reach.next {zs r bs : List Int} {k p : Nat} (h : Reach zs k p r) (hb : Boxes r bs k) : Reach zs k (p + 1) (passL r bs k) := ⟨r, bs, h, hb, rfl⟩
theorem Reach.runs {zs r : List Int} {k p : Nat} (hz : rowB 9 zs = true) (h : Reach zs k p r) (h0 : 0 < zs.length) : runNo zs (zs.length - 1) + 1 ≤ k ^ p * (runNo r (zs.length - 1) + 1) := by
  induction p generalizing r with
  | zero => simp only [Reach] at h; subst h; simp
  | succ p ih =>
    obtain ⟨r0, bs, h1, h2, rfl⟩ := h
    have h3 := ih h1
    have hr0 := h1.row hz
    have hl := h1.len
    have h4 := runs_pass hr0 h2.1 h2.2 (show zs.length - 1 < r0.length by omega)
    have h5 := (boxOf_eq hr0 h2.1 h2.2 (show zs.length - 1 < r0.length by omega)).2
    have h6 : runNo r0 (zs.length - 1) + 1 ≤ k * (runNo (passL r0 bs k) (zs.length - 1) + 1) := by rw [Nat.mul_add, Nat.mul_one]; omega
    refine Nat.le_trans h3 ?_
    rw [Nat.pow_succ, Nat.mul_assoc]
    exact Nat.mul_le_mul_left _ h6
theorem runNo_goal {n : Nat} (hn : n ≤ 9) {x : Nat} (hx : x < n) : runNo (tab n fun j => (j : Int)) x = 0 := by
  have hrow : rowB 9 (tab n fun j => (j : Int)) = true := by
    refine rowB_of' (by rw [tab_length]; exact hn) (fun i hi => ?_) (fun i j hi hj he => ?_)
    · rw [tab_length] at hi ⊢; rw [tab_get hi]; omega
    · rw [tab_length] at hi hj; rw [tab_get hi, tab_get hj] at he; omega
  have hp : ∀ y, y < n → pl (tab n fun j => (j : Int)) (y : Int) = y := fun y hy => by
    have := pl_at hrow (k := y) (by rw [tab_length]; exact hy)
    rwa [tab_get hy] at this
  induction x with
  | zero => rfl
  | succ d ih => simp only [runNo, ih (by omega), hp _ hx, hp d (by omega)]; rw [if_neg (by omega)]
def goalOf (zs : List Int) : List Int := tab zs.length fun j => (j : Int)
theorem reach_not {zs r : List Int} {k p : Nat} (hk : 2 ≤ k) (hk4 : k ≤ 4) (hz : rowB 9 zs = true) (h : Reach zs k p r) (hp : p < passN (runsNat zs) k) : r ≠ goalOf zs := by
  intro e
  have hr9 := runsNat_le hz
  have hp4 := passN_le (runsNat zs) k
  have hlt := (passN_lt (j := p) hr9 hk hk4 (by omega)).2 hp
  by_cases h0 : zs.length = 0
  · unfold runsNat at hlt; rw [if_pos h0] at hlt; omega
  · have h1 := h.runs hz (by omega)
    rw [e] at h1
    unfold goalOf at h1
    rw [runNo_goal (rowB_len hz) (by omega)] at h1
    unfold runsNat at hlt
    rw [if_neg h0] at hlt
    omega
theorem reach_now {zs : List Int} {k : Nat} (hk : 0 < k) (p : Nat) : Reach zs k p (nowP zs k p) := by
  induction p with
  | zero => rfl
  | succ p ih => exact ih.next ⟨boxesP_len _ _ _ _, fun i hi => boxesP_range hk i hi⟩
theorem reach_goal {zs : List Int} {k : Nat} (hk : 2 ≤ k) (hk4 : k ≤ 4) (hz : rowB 9 zs = true) : Reach zs k (passN (runsNat zs) k) (goalOf zs) := by
  have := reach_now (zs := zs) (k := k) (by omega) (passN (runsNat zs) k)
  rw [sorts hk hk4 hz] at this
  exact this
theorem passN_two {n k : Nat} (hn : n ≤ 4) (hk : 2 ≤ k) : passN n k ≤ 2 := by
  have h4 : 2 * 2 ≤ k * k := Nat.mul_le_mul hk hk
  unfold passN
  split
  · omega
  · split
    · omega
    · rw [if_pos (by omega)]; omega
theorem runsNat_few {zs : List Int} : runsNat zs ≤ zs.length := by
  have := runNo_le zs (zs.length - 1)
  unfold runsNat; split <;> omega

/-! Boxes are told by numbers. -/
def digL (k n w : Nat) : List Int := tab n fun j => ((w / k ^ j % k : Nat) : Int)
theorem digL_len (k n w : Nat) : (digL k n w).length = n := tab_length _ _
theorem digL_boxes {r : List Int} {k w : Nat} (hk : 0 < k) : Boxes r (digL k r.length w) k :=
  ⟨digL_len _ _ _, fun i hi => by
    rw [digL_len] at hi
    have : (digL k r.length w)[i]'(by rw [digL_len]; exact hi) = ((w / k ^ i % k : Nat) : Int) := tab_get hi
    rw [this]
    have := Nat.mod_lt (w / k ^ i) hk
    omega⟩
theorem dig_all {k : Nat} (hk : 0 < k) : ∀ (bs : List Int), (∀ (i : Nat) (hi : i < bs.length), 0 ≤ bs[i] ∧ bs[i] < (k : Int)) → ∃ w, w < k ^ bs.length ∧ digL k bs.length w = bs := by
  intro bs
  induction bs with
  | nil => intro _; exact ⟨0, by simp, by simp [digL, tab]⟩
  | cons b bs ih =>
    intro h
    obtain ⟨w, h1, h2⟩ := ih (fun i hi => by have := h (i + 1) (by simp; omega); simpa using this)
    have hb := h 0 (by simp)
    simp only [List.getElem_cons_zero] at hb
    obtain ⟨c, hc⟩ : ∃ c : Nat, b = (c : Int) := ⟨b.toNat, by omega⟩
    have hck : c < k := by omega
    have hdiv : (c + k * w) / k = w := by rw [Nat.add_mul_div_left _ _ hk, Nat.div_eq_of_lt hck, Nat.zero_add]
    have hmod : (c + k * w) % k = c := by rw [Nat.add_mul_mod_self_left, Nat.mod_eq_of_lt hck]
    refine ⟨c + k * w, ?_, ?_⟩
    · rw [List.length_cons, Nat.pow_succ, Nat.mul_comm (k ^ bs.length)]
      have : k * (w + 1) ≤ k * k ^ bs.length := Nat.mul_le_mul_left _ (by omega)
      rw [Nat.mul_add, Nat.mul_one] at this
      omega
    · apply List.ext_getElem
      · rw [digL_len]
      · intro i h3 h4
        rw [digL_len] at h3
        have e1 : (digL k (b :: bs).length (c + k * w))[i]'(by rw [digL_len]; exact h3) = (((c + k * w) / k ^ i % k : Nat) : Int) := tab_get h3
        rw [e1]
        cases i with
        | zero => simp only [Nat.pow_zero, Nat.div_one, hmod, List.getElem_cons_zero]; exact hc.symm
        | succ i =>
          have h5 : i < bs.length := by simpa using h3
          have e2 : (digL k bs.length w)[i]'(by rw [digL_len]; exact h5) = ((w / k ^ i % k : Nat) : Int) := tab_get h5
          simp only [h2] at e2
          rw [List.getElem_cons_succ, e2, show k ^ (i + 1) = k * k ^ i by rw [Nat.pow_succ, Nat.mul_comm], ← Nat.div_div_eq_div_mul, hdiv]

/-! The row's number. -/
def numTo (r : List Int) : Nat → Int
  | 0 => 0
  | m + 1 => numTo r m * 9 + r.getD m 0
def numR (r : List Int) : Int := numTo r r.length
theorem numTo_le {r : List Int} (h : ∀ (i : Nat) (hi : i < r.length), 0 ≤ r[i] ∧ r[i] < 9) (m : Nat) (hm : m ≤ r.length) : 0 ≤ numTo r m ∧ numTo r m < 9 ^ m := by
  induction m with
  | zero => simp [numTo]
  | succ m ih =>
    have h1 := ih (by omega)
    have h2 := h m (by omega)
    simp only [numTo]
    rw [getD_get (show m < r.length by omega), Int.pow_succ]
    omega
theorem numTo_inj {r s : List Int} (hl : r.length = s.length) (hr : ∀ (i : Nat) (hi : i < r.length), 0 ≤ r[i] ∧ r[i] < 9) (hs : ∀ (i : Nat) (hi : i < s.length), 0 ≤ s[i] ∧ s[i] < 9) (m : Nat) (hm : m ≤ r.length) (h : numTo r m = numTo s m) : ∀ i, i < m → r.getD i 0 = s.getD i 0 := by
  induction m with
  | zero => intro i hi; omega
  | succ m ih =>
    simp only [numTo] at h
    have h1 := hr m (by omega)
    have h2 := hs m (by omega)
    rw [← getD_get (show m < r.length by omega)] at h1
    rw [← getD_get (show m < s.length by omega)] at h2
    have h3 : numTo r m = numTo s m := by omega
    intro i hi
    by_cases e : i = m
    · subst e; omega
    · exact ih (by omega) h3 i (by omega)
theorem row_small {m : Nat} {r : List Int} (h : rowB m r = true) (hl : r.length ≤ 9) : ∀ (i : Nat) (hi : i < r.length), 0 ≤ r[i] ∧ r[i] < 9 := fun i hi => by
  have := (rowB_at h hi).1; omega
theorem numR_inj {m : Nat} {r s : List Int} (hr : rowB m r = true) (hs : rowB m s = true) (hl : r.length = s.length) (h9 : r.length ≤ 9) (h : numR r = numR s) : r = s := by
  unfold numR at h
  rw [← hl] at h
  have := numTo_inj hl (row_small hr h9) (row_small hs (by omega)) r.length (Nat.le_refl _) h
  apply List.ext_getElem hl
  intro i h1 h2
  rw [← getD_get h1, ← getD_get h2]
  exact this i h1

/-! Counting the boxes on. -/
def nextI (k : Int) : List Int → List Int × Bool
  | [] => ([], false)
  | b :: bs => if b + 1 < k then ((b + 1) :: bs, true) else (0 :: (nextI k bs).1, (nextI k bs).2)
theorem nextI_fin : ∀ k : Fin 5, ∀ n : Fin 5, ∀ w : Fin 256, 2 ≤ k.1 → w.1 < k.1 ^ n.1 → nextI (k.1 : Int) (digL k.1 n.1 w.1) = (digL k.1 n.1 (w.1 + 1), decide (w.1 + 1 < k.1 ^ n.1)) := by decide +kernel
theorem pow_256 : ∀ k : Fin 5, ∀ n : Fin 5, k.1 ^ n.1 ≤ 256 := by decide
theorem nextI_dig {k n w : Nat} (hk : 2 ≤ k) (hk4 : k ≤ 4) (hn : n ≤ 4) (hw : w < k ^ n) : nextI (k : Int) (digL k n w) = (digL k n (w + 1), decide (w + 1 < k ^ n)) := by
  have := pow_256 ⟨k, by omega⟩ ⟨n, by omega⟩
  exact nextI_fin ⟨k, by omega⟩ ⟨n, by omega⟩ ⟨w, by simp only at this; omega⟩ hk hw
theorem nextI_len (k : Int) (bs : List Int) : (nextI k bs).1.length = bs.length := by
  induction bs with
  | nil => rfl
  | cons b bs ih => simp only [nextI]; split <;> simp [ih]

/-! Rows in order. -/
theorem row_adj {m : Nat} {r : List Int} (hv : rowB m r = true) (h : ∀ j, j + 1 < r.length → ¬ r.getD (j + 1) 0 < r.getD j 0) : r = tab r.length fun j => (j : Int) := by
  have hs : ∀ j, j + 1 < r.length → r.getD j 0 < r.getD (j + 1) 0 := fun j hj => by
    have h1 := h j hj
    have h2 : r.getD j 0 ≠ r.getD (j + 1) 0 := fun e => by
      rw [getD_get (by omega), getD_get hj] at e
      have := rowB_nodup hv j (j + 1) (by omega) hj e
      omega
    omega
  have lo : ∀ k : Nat, k < r.length → (k : Int) ≤ r.getD k 0 := by
    intro k
    induction k with
    | zero => intro hk; rw [getD_get hk]; exact (rowB_at hv hk).1.1
    | succ k ih => intro hk; have := ih (by omega); have := hs k hk; omega
  have hi : ∀ t k : Nat, k + t + 1 = r.length → r.getD k 0 ≤ (k : Int) := by
    intro t
    induction t with
    | zero => intro k hk; rw [getD_get (by omega)]; have := (rowB_at hv (show k < r.length by omega)).1.2; omega
    | succ t ih => intro k hk; have := ih (k + 1) (by omega); have := hs k (by omega); omega
  apply List.ext_getElem (by rw [tab_length])
  intro k hk hk2
  rw [tab_get (by rw [tab_length] at hk2; exact hk2)]
  have := lo k hk
  have := hi (r.length - 1 - k) k (by omega)
  rw [← getD_get hk]
  omega
end Go.Proofs.Ytaklhpjbgjccgaa
