/- Fractions, plain. No condition. -/
import Derived.Test.YtonnffilcmlodabS0
import Derived.Test.YtonnffilcmlodabH1
namespace Go.Proofs.Ytonnffilcmlodab
open Go.RowKit

/-- Without a common factor. -/
def red (u d : Nat) : Nat × Nat := (u / Nat.gcd u d, d / Nat.gcd u d)
def mulF (p q : Nat × Nat) : Nat × Nat := red (p.1 * q.1) (p.2 * q.2)
theorem red_parts {u d : Nat} (hd : 0 < d) : ∃ g a b, 0 < g ∧ u = g * a ∧ d = g * b ∧ Nat.Coprime a b ∧ 0 < b ∧ red u d = (a, b) ∧ Nat.gcd u d = g := by
  have hg : 0 < Nat.gcd u d := Nat.gcd_pos_of_pos_right _ hd
  refine ⟨Nat.gcd u d, u / Nat.gcd u d, d / Nat.gcd u d, hg, (Nat.mul_div_cancel' (Nat.gcd_dvd_left u d)).symm, (Nat.mul_div_cancel' (Nat.gcd_dvd_right u d)).symm, Nat.coprime_div_gcd_div_gcd hg, ?_, rfl, rfl⟩
  exact Nat.div_pos (Nat.le_of_dvd hd (Nat.gcd_dvd_right u d)) hg
theorem red_eq {u d u' d' : Nat} (hd : 0 < d) (hd' : 0 < d') (h : u * d' = u' * d) : red u d = red u' d' := by
  obtain ⟨g, a, b, hg, rfl, rfl, hc, hb, hr, _⟩ := red_parts (u := u) hd
  obtain ⟨g', a', b', hg', rfl, rfl, hc', hb', hr', _⟩ := red_parts (u := u') hd'
  rw [hr, hr']
  have h1 : a * b' = a' * b := by
    have : (g * g') * (a * b') = (g * g') * (a' * b) := by
      calc (g * g') * (a * b') = g * a * (g' * b') := by ac_rfl
        _ = g' * a' * (g * b) := h
        _ = (g * g') * (a' * b) := by ac_rfl
    exact Nat.eq_of_mul_eq_mul_left (Nat.mul_pos hg hg') this
  have h2 : b ∣ b' := (Nat.Coprime.symm hc).dvd_of_dvd_mul_left (h1 ▸ Nat.dvd_mul_left b a')
  have h3 : b' ∣ b := (Nat.Coprime.symm hc').dvd_of_dvd_mul_left (h1 ▸ Nat.dvd_mul_left b' a)
  have h4 : b = b' := Nat.dvd_antisymm h2 h3
  subst h4
  rw [Nat.eq_of_mul_eq_mul_right hb h1]
theorem red_pos {u d : Nat} (hd : 0 < d) : 0 < (red u d).2 := by
  obtain ⟨g, a, b, hg, h1, h2, hc, hb, hr, _⟩ := red_parts (u := u) hd
  rw [hr]; exact hb
theorem red_le (u d : Nat) : (red u d).1 ≤ u ∧ (red u d).2 ≤ d := ⟨Nat.div_le_self _ _, Nat.div_le_self _ _⟩
theorem red_mul {u d u' d' : Nat} (hd : 0 < d) (hd' : 0 < d') : mulF (red u d) (red u' d') = red (u * u') (d * d') := by
  obtain ⟨g, a, b, hg, h1, h2, hc, hb, hr, _⟩ := red_parts (u := u) hd
  obtain ⟨g', a', b', hg', h1', h2', hc', hb', hr', _⟩ := red_parts (u := u') hd'
  unfold mulF
  rw [hr, hr']
  refine red_eq (Nat.mul_pos hb hb') (Nat.mul_pos hd hd') ?_
  subst h1 h2 h1' h2'
  show a * a' * (g * b * (g' * b')) = g * a * (g' * a') * (b * b')
  ac_rfl
theorem red_cancel {u d k : Nat} (hd : 0 < d) (hk : 0 < k) : red (u * k) (d * k) = red u d :=
  red_eq (Nat.mul_pos hd hk) hd (by ac_rfl)
/-- The sum. -/
def addF (p q : Nat × Nat) : Nat × Nat := red (p.1 * q.2 + q.1 * p.2) (p.2 * q.2)
theorem red_add {u d u' d' : Nat} (hd : 0 < d) (hd' : 0 < d') : addF (red u d) (red u' d') = red (u * d' + u' * d) (d * d') := by
  obtain ⟨g, a, b, hg, h1, h2, hc, hb, hr, _⟩ := red_parts (u := u) hd
  obtain ⟨g', a', b', hg', h1', h2', hc', hb', hr', _⟩ := red_parts (u := u') hd'
  unfold addF
  rw [hr, hr']
  refine red_eq (Nat.mul_pos hb hb') (Nat.mul_pos hd hd') ?_
  subst h1 h2 h1' h2'
  show (a * b' + a' * b) * (g * b * (g' * b')) = (g * a * (g' * b') + g' * a' * (g * b)) * (b * b')
  rw [Nat.add_mul, Nat.add_mul]
  congr 1 <;> ac_rfl
theorem red_add_same {u u' d : Nat} (hd : 0 < d) : addF (red u d) (red u' d) = red (u + u') d := by
  rw [red_add hd hd, ← Nat.add_mul, red_cancel hd hd]

/-- What passes hops, of 10 to as many. -/
def prL : List Int → Nat
  | [] => 1
  | z :: zs => (10 - z.toNat) * prL zs
theorem prL_app (a b : List Int) : prL (a ++ b) = prL a * prL b := by
  induction a with
  | nil => simp [prL]
  | cons z a ih => simp only [List.cons_append, prL, ih, Nat.mul_assoc]
theorem prL_one (z : Int) : prL [z] = 10 - z.toNat := by simp [prL]
theorem prL_take {zs : List Int} {k : Nat} (hk : k < zs.length) : prL (zs.take (k + 1)) = prL (zs.take k) * (10 - zs[k].toNat) := by
  rw [List.take_succ_eq_append_getElem hk, prL_app, prL_one]
theorem prL_rev (zs : List Int) : prL zs.reverse = prL zs := by
  induction zs with
  | nil => rfl
  | cons z zs ih => rw [List.reverse_cons, prL_app, ih, prL_one]; simp only [prL]; rw [Nat.mul_comm]
theorem prL_le (zs : List Int) : prL zs ≤ 10 ^ zs.length := by
  induction zs with
  | nil => simp [prL]
  | cons z zs ih =>
    simp only [prL, List.length_cons, Nat.pow_succ]
    rw [Nat.mul_comm (10 ^ _) 10]
    exact Nat.mul_le_mul (by omega) ih
def hopsB (zs : List Int) : Bool := zs.all (fun z => inR z 0 10) && inR (zs.length : Int) 1 5
theorem hops_of {zs : List Int} (h : hopsB zs = true) : (∀ z ∈ zs, 0 ≤ z ∧ z ≤ 10) ∧ 1 ≤ zs.length ∧ zs.length ≤ 5 := by
  simp only [hopsB, Bool.and_eq_true, List.all_eq_true, inR_iff] at h
  exact ⟨h.1, by omega, by omega⟩
theorem hops_mk {zs : List Int} (h : ∀ z ∈ zs, 0 ≤ z ∧ z ≤ 10) (h1 : 1 ≤ zs.length) (h2 : zs.length ≤ 5) : hopsB zs = true := by
  simp only [hopsB, Bool.and_eq_true, List.all_eq_true, inR_iff]
  exact ⟨h, by omega, by omega⟩
theorem hops_rev {zs : List Int} (h : hopsB zs = true) : hopsB zs.reverse = true := by
  obtain ⟨h1, h2, h3⟩ := hops_of h
  exact hops_mk (fun z hz => h1 z (List.mem_reverse.1 hz)) (by rw [List.length_reverse]; exact h2) (by rw [List.length_reverse]; exact h3)
theorem ten_le {n : Nat} (h : n ≤ 5) : 10 ^ n ≤ 100000 := Nat.pow_le_pow_right (show 1 ≤ 10 by omega) h
theorem ten_pos (n : Nat) : 0 < 10 ^ n := Nat.pow_pos (by omega)
/-- The chance that all hops are passed. -/
def arr (zs : List Int) : Nat × Nat := red (prL zs) (10 ^ zs.length)
def passL (zs : List Int) : List (Nat × Nat) := zs.map fun z => red (10 - z.toNat) 10
theorem fold_mul (zs : List Int) : ∀ (u d : Nat), 0 < d → (passL zs).foldl mulF (red u d) = red (u * prL zs) (d * 10 ^ zs.length) := by
  induction zs with
  | nil => intro u d _; simp [passL, prL]
  | cons z zs ih =>
    intro u d hd
    have h1 := ih (u * (10 - z.toNat)) (d * 10) (by omega)
    simp only [passL] at h1
    simp only [passL, List.map_cons, List.foldl_cons]
    rw [red_mul hd (by omega), h1]
    simp only [prL, List.length_cons, Nat.pow_succ]
    congr 1 <;> ac_rfl
theorem arr_is {z : Int} {zs : List Int} : (passL zs).foldl mulF (red (10 - z.toNat) 10) = arr (z :: zs) := by
  rw [fold_mul zs _ _ (by omega)]
  unfold arr
  simp only [prL, List.length_cons, Nat.pow_succ]
  rw [Nat.mul_comm 10]
theorem arr_rev (zs : List Int) : arr zs.reverse = arr zs := by unfold arr; rw [prL_rev, List.length_reverse]
theorem arr_app (a b : List Int) : mulF (arr a) (arr b) = arr (a ++ b) := by
  unfold arr
  rw [red_mul (ten_pos _) (ten_pos _), prL_app, List.length_append, Nat.pow_add]

/-- The part that is lost at hop h, of all letters 10 to as many; those lost ahead of k. -/
def xL (zs : List Int) (h : Nat) : Nat := prL (zs.take h) * (zs.getD h 0).toNat * 10 ^ (zs.length - 1 - h)
def sumX (zs : List Int) : Nat → Nat
  | 0 => 0
  | k + 1 => sumX zs k + xL zs k
theorem sumX_is {zs : List Int} (hz : ∀ z ∈ zs, 0 ≤ z ∧ z ≤ 10) : ∀ k, k ≤ zs.length → sumX zs k + prL (zs.take k) * 10 ^ (zs.length - k) = 10 ^ zs.length := by
  intro k
  induction k with
  | zero => intro _; simp [sumX, prL]
  | succ k ih =>
    intro hk
    have h1 := ih (by omega)
    have hg : zs.getD k 0 = zs[k]'(by omega) := by rw [List.getD_eq_getElem?_getD, List.getElem?_eq_getElem (by omega)]; rfl
    have hb := hz (zs[k]'(by omega)) (List.getElem_mem _)
    rw [prL_take (by omega)]
    simp only [sumX, xL, hg]
    rw [← h1, show zs.length - k = (zs.length - 1 - k) + 1 by omega, Nat.pow_succ, show zs.length - (k + 1) = zs.length - 1 - k by omega]
    have hy : (zs[k]'(by omega)).toNat ≤ 10 := by omega
    generalize (zs[k]'(by omega)).toNat = y at hy ⊢
    generalize prL (zs.take k) = P
    generalize 10 ^ (zs.length - 1 - k) = Q
    generalize sumX zs k = S
    have h2 : P * y * Q + P * (10 - y) * Q = P * (Q * 10) := by
      rw [← Nat.add_mul, ← Nat.mul_add, show y + (10 - y) = 10 by omega]; ac_rfl
    omega
theorem sumX_all {zs : List Int} (hz : ∀ z ∈ zs, 0 ≤ z ∧ z ≤ 10) : sumX zs zs.length = 10 ^ zs.length - prL zs := by
  have h := sumX_is hz zs.length (Nat.le_refl _)
  rw [List.take_length, Nat.sub_self, Nat.pow_zero, Nat.mul_one] at h
  omega
theorem sumX_le (zs : List Int) : ∀ k m, k ≤ m → sumX zs k ≤ sumX zs m := by
  intro k m h
  induction m with
  | zero => have : k = 0 := by omega
            subst this; exact Nat.le_refl _
  | succ m ih =>
    by_cases e : k = m + 1
    · subst e; exact Nat.le_refl _
    · exact Nat.le_trans (ih (by omega)) (Nat.le_add_right _ _)
def allL (zs : List Int) : Nat := 10 ^ zs.length - prL zs
def lostL (zs : List Int) : List (Nat × Nat) := (List.range zs.length).map fun h => red (xL zs h) (allL zs)
theorem xL_le {zs : List Int} (hz : ∀ z ∈ zs, 0 ≤ z ∧ z ≤ 10) {h : Nat} (hh : h < zs.length) : xL zs h ≤ allL zs := by
  have h1 := sumX_le zs (h + 1) zs.length (by omega)
  rw [sumX_all hz] at h1
  simp only [sumX] at h1
  unfold allL; omega
/-- What the program multiplies for hop h. -/
theorem lost_is {zs : List Int} (hz : ∀ z ∈ zs, 0 ≤ z ∧ z ≤ 10) (hl : 0 < allL zs) {h : Nat} (hh : h < zs.length) {y : Nat} (hy : (zs[h]).toNat = y) :
    (passL (zs.take h)).foldl mulF (mulF ((arr zs).2, (arr zs).2 - (arr zs).1) ((red (10 - y) 10).2 - (red (10 - y) 10).1, (red (10 - y) 10).2)) = red (xL zs h) (allL zs) := by
  have hy10 : y ≤ 10 := by have := hz _ (List.getElem_mem hh); omega
  have hT := ten_pos zs.length
  have h1 : mulF ((arr zs).2, (arr zs).2 - (arr zs).1) ((red (10 - y) 10).2 - (red (10 - y) 10).1, (red (10 - y) 10).2) = red (10 ^ zs.length * y) (allL zs * 10) := by
    obtain ⟨g, a, b, hg, g1, g2, hc, hb, hr, _⟩ := red_parts (u := prL zs) hT
    obtain ⟨g', a', b', hg', g1', g2', hc', hb', hr', _⟩ := red_parts (u := 10 - y) (show 0 < 10 by omega)
    unfold mulF arr
    rw [hr, hr']
    have hlt : a < b := by
      have : g * a < g * b := by rw [← g1, ← g2]; unfold allL at hl; omega
      exact Nat.lt_of_mul_lt_mul_left this
    have e1 : allL zs = g * (b - a) := by unfold allL; rw [g1, g2, Nat.mul_sub]
    have e2 : y = g' * (b' - a') := by rw [Nat.mul_sub, ← g1', ← g2']; omega
    refine red_eq (Nat.mul_pos (by omega) hb') (by omega) ?_
    rw [e1, g2]
    show b * (b' - a') * (g * (b - a) * 10) = g * b * y * ((b - a) * b')
    rw [e2]
    have e3 : b * (b' - a') * (g * (b - a) * 10) = b * (b' - a') * (g * (b - a) * (g' * b')) := by rw [← g2']
    rw [e3]
    ac_rfl
  rw [h1, fold_mul _ _ _ (by omega)]
  refine red_eq (Nat.mul_pos (by omega) (ten_pos _)) hl ?_
  rw [List.length_take, Nat.min_eq_left (by omega)]
  have hg : zs.getD h 0 = zs[h] := by rw [List.getD_eq_getElem?_getD, List.getElem?_eq_getElem hh]; rfl
  unfold xL
  rw [hg, hy]
  have hp : 10 ^ zs.length = 10 ^ (zs.length - 1 - h) * (10 * 10 ^ h) := by
    rw [← Nat.pow_succ', ← Nat.pow_add]; congr 1; omega
  generalize prL (zs.take h) = P
  rw [hp]
  generalize 10 ^ (zs.length - 1 - h) = Q
  generalize 10 ^ h = R
  generalize allL zs = L
  ac_rfl
theorem lost_len (zs : List Int) : (lostL zs).length = zs.length := by simp [lostL]
theorem lost_sum {zs : List Int} (hl : 0 < allL zs) (k : Nat) : addF (red (sumX zs k) (allL zs)) (red (xL zs k) (allL zs)) = red (sumX zs (k + 1)) (allL zs) := by
  rw [red_add_same hl]; rfl
theorem lost_end {zs : List Int} (hz : ∀ z ∈ zs, 0 ≤ z ∧ z ≤ 10) (hl : 0 < allL zs) : red (sumX zs zs.length) (allL zs) = (1, 1) := by
  rw [sumX_all hz]
  unfold red
  show (allL zs / Nat.gcd (allL zs) (allL zs), allL zs / Nat.gcd (allL zs) (allL zs)) = _
  rw [Nat.gcd_self, Nat.div_self hl]
theorem lost_zero {zs : List Int} {h : Nat} (h0 : zs.getD h 0 = 0) : (red (xL zs h) (allL zs)).1 = 0 := by
  unfold red xL; rw [h0]; simp
/-- The first hop loses what it loses. -/
theorem lost_first {zs : List Int} (hl : 0 < allL zs) (h0 : 0 < zs.length) : mulF (red (xL zs 0) (allL zs)) (red ((arr zs).2 - (arr zs).1) (arr zs).2) = red (zs.getD 0 0).toNat 10 := by
  have hT := ten_pos zs.length
  have hn : red ((arr zs).2 - (arr zs).1) (arr zs).2 = red (allL zs) (10 ^ zs.length) := by
    obtain ⟨g, a, b, hg, g1, g2, hc, hb, hr, _⟩ := red_parts (u := prL zs) hT
    unfold arr; rw [hr]
    refine red_eq hb hT ?_
    unfold allL
    rw [g1, g2]
    show (b - a) * (g * b) = (g * b - g * a) * b
    rw [← Nat.mul_sub]; ac_rfl
  rw [hn, red_mul hl hT]
  refine red_eq (Nat.mul_pos hl hT) (by omega) ?_
  unfold xL
  rw [List.take_zero, show prL ([] : List Int) = 1 from rfl, Nat.one_mul, show (10 : Nat) ^ zs.length = 10 ^ (zs.length - 1 - 0) * 10 by rw [← Nat.pow_succ]; congr 1; omega]
  ac_rfl
theorem lost_none {zs : List Int} (hl : allL zs = 0) : (arr zs).1 = (arr zs).2 := by
  have : prL zs = 10 ^ zs.length := by have := prL_le zs; unfold allL at hl; omega
  unfold arr red; rw [this]
theorem lost_some {zs : List Int} (hl : 0 < allL zs) : (arr zs).1 < (arr zs).2 := by
  obtain ⟨g, a, b, hg, g1, g2, hc, hb, hr, _⟩ := red_parts (u := prL zs) (ten_pos zs.length)
  unfold arr; rw [hr]
  have : g * a < g * b := by rw [← g1, ← g2]; unfold allL at hl; omega
  exact Nat.lt_of_mul_lt_mul_left this
end Go.Proofs.Ytonnffilcmlodab
