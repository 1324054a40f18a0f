/- Rates, plain: the least sums of chains. No condition. -/
import Derived.Test.YtjklnknlifpidaaS0
import Derived.Test.YtjklnknlifpidaaA1
import Derived.Test.YtjklnknlifpidaaH1
import Derived.Test.YtjklnknlifpidaaN14
namespace Go.Proofs.Ytjklnknlifpidaa
open Go.RowKit

/-- The cell of a list of rows. -/
def cellOf (rs : List (List Int)) (i k : Nat) : Int := (rs.getD i []).getD k 0
/-- A rate, and none of a zone to itself. -/
def okRt (i : Nat) (r : List Int) (k : Nat) : Bool := inR (r.getD k 0) 0 140 && !(decide (i = k) && decide (r.getD k 0 ≠ 0))
def okRow (n i : Nat) (r : List Int) : Bool := decide (r.length = n) && (List.range n).all (okRt i r)
def ratesB (rs : List (List Int)) : Bool := (List.range rs.length).all (fun i => okRow rs.length i (rs.getD i [])) && inR rs.length 1 5

theorem rates_len {rs : List (List Int)} (h : inR rs.length 1 5 = false) : ratesB rs = false := by rw [ratesB, h, Bool.and_false]
theorem getD_row {rs : List (List Int)} {i : Nat} (hi : i < rs.length) : rs.getD i [] = rs[i] := by simp [List.getD, List.getElem?_eq_getElem hi]
theorem rates_row {rs : List (List Int)} {i : Nat} (hi : i < rs.length) (h : okRow rs.length i rs[i] = false) : ratesB rs = false := by
  rw [ratesB, all_range_no hi (by rw [getD_row hi]; exact h), Bool.false_and]
theorem okRow_len {n i : Nat} {r : List Int} (h : ¬ r.length = n) : okRow n i r = false := by rw [okRow, decide_eq_false h, Bool.false_and]
theorem okRow_cell {n i k : Nat} {r : List Int} (hk : k < n) (h : okRt i r k = false) : okRow n i r = false := by rw [okRow, all_range_no hk h, Bool.and_false]
theorem okRt_out {i k : Nat} {r : List Int} (h : inR (r.getD k 0) 0 140 = false) : okRt i r k = false := by rw [okRt, h, Bool.false_and]
theorem okRt_own {i : Nat} {r : List Int} (h : r.getD i 0 ≠ 0) : okRt i r i = false := by simp only [okRt, decide_true, Bool.true_and, decide_eq_true h, Bool.not_true, Bool.and_false]
theorem okRt_yes {i k : Nat} {r : List Int} (h : inR (r.getD k 0) 0 140 = true) (h2 : i = k → r.getD k 0 = 0) : okRt i r k = true := by
  rw [okRt, h, Bool.true_and]
  by_cases e : i = k
  · have := h2 e; rw [this]; simp
  · simp [e]
theorem okRt_in {i k : Nat} {r : List Int} (h : okRt i r k = true) : 0 ≤ r.getD k 0 ∧ r.getD k 0 ≤ 140 ∧ (i = k → r.getD k 0 = 0) := by
  simp only [okRt, Bool.and_eq_true, Bool.not_eq_true', Bool.and_eq_false_iff, decide_eq_false_iff_not] at h
  obtain ⟨h1, h2⟩ := h
  have h3 := inR_iff.1 h1
  refine ⟨h3.1, h3.2, fun e => ?_⟩
  rcases h2 with h2 | h2
  · exact absurd e h2
  · omega

/-- Rates between zones. -/
structure RM (n : Nat) (D : Nat → Nat → Int) : Prop where
  n1 : 1 ≤ n
  n5 : n ≤ 5
  lo : ∀ i k, i < n → k < n → 0 ≤ D i k
  hi : ∀ i k, i < n → k < n → D i k ≤ 140
  dg : ∀ i, i < n → D i i = 0

theorem rows_mat {rs : List (List Int)} (h : ∀ i (hi : i < rs.length), rs[i].length = rs.length) : rs = mat rs.length (cellOf rs) := by
  apply List.ext_getElem
  · rw [mat_len]
  · intro i h1 h2
    rw [mat_get h1]
    apply List.ext_getElem
    · rw [tab_length]; exact h i h1
    · intro k h3 h4
      rw [tab_length] at h4
      rw [tab_get h4, cellOf, getD_row h1, getD_get h3]
theorem rates_parts {rs : List (List Int)} (h : ratesB rs = true) : rs = mat rs.length (cellOf rs) ∧ RM rs.length (cellOf rs) := by
  rw [ratesB, Bool.and_eq_true] at h
  obtain ⟨h1, h2⟩ := h
  have h2 := inR_iff.1 h2
  have hrow : ∀ i (hi : i < rs.length), rs[i].length = rs.length ∧ ∀ k, k < rs.length → okRt i rs[i] k = true := fun i hi => by
    have h3 := all_range h1 hi
    rw [getD_row hi, okRow, Bool.and_eq_true, decide_eq_true_eq] at h3
    exact ⟨h3.1, fun k hk => all_range h3.2 hk⟩
  have hc : ∀ i k, i < rs.length → k < rs.length → 0 ≤ cellOf rs i k ∧ cellOf rs i k ≤ 140 ∧ (i = k → cellOf rs i k = 0) := fun i k hi hk => by
    have := okRt_in ((hrow i hi).2 k hk)
    rw [cellOf, getD_row hi]; exact this
  exact ⟨rows_mat fun i hi => (hrow i hi).1, ⟨by omega, by omega, fun i k hi hk => (hc i k hi hk).1, fun i k hi hk => (hc i k hi hk).2.1, fun i hi => (hc i i hi hi).2.2 rfl⟩⟩
theorem rates_yes {rs : List (List Int)} (h5 : inR rs.length 1 5 = true) (h : (List.range rs.length).all (fun i => okRow rs.length i (rs.getD i [])) = true) : ratesB rs = true := by rw [ratesB, h, h5]; rfl
theorem tab_getD {n k : Nat} {f : Nat → Int} (hk : k < n) : (tab n f).getD k 0 = f k := by rw [getD_get (by rw [tab_length]; exact hk), tab_get hk]
theorem cell_mat {n i k : Nat} {D : Nat → Nat → Int} (hi : i < n) (hk : k < n) : cellOf (mat n D) i k = D i k := by
  rw [cellOf, getD_row (by rw [mat_len]; exact hi), mat_get hi, tab_getD hk]
theorem ratesB_mat {n : Nat} {D : Nat → Nat → Int} (h : RM n D) : ratesB (mat n D) = true := by
  refine rates_yes (inR_iff.2 (by rw [mat_len]; have := h.n1; have := h.n5; omega)) ?_
  rw [mat_len, List.all_eq_true]
  intro i hi
  have hi := List.mem_range.1 hi
  rw [getD_row (by rw [mat_len]; exact hi), mat_get hi, okRow, tab_length, decide_eq_true rfl, Bool.true_and, List.all_eq_true]
  intro k hk
  have hk := List.mem_range.1 hk
  refine okRt_yes (by rw [tab_getD hk]; exact inR_iff.2 ⟨h.lo i k hi hk, h.hi i k hi hk⟩) (fun e => ?_)
  subst e
  rw [tab_getD hk]; exact h.dg i hi
theorem RM.congr {n : Nat} {D E : Nat → Nat → Int} (h : RM n D) (he : ∀ i k, i < n → k < n → E i k = D i k) : RM n E :=
  ⟨h.n1, h.n5, fun i k hi hk => by rw [he i k hi hk]; exact h.lo i k hi hk, fun i k hi hk => by rw [he i k hi hk]; exact h.hi i k hi hk, fun i hi => by rw [he i i hi hi]; exact h.dg i hi⟩
theorem RM.turn {n : Nat} {D : Nat → Nat → Int} (h : RM n D) : RM n (fun i k => D k i) :=
  ⟨h.n1, h.n5, fun i k hi hk => h.lo k i hk hi, fun i k hi hk => h.hi k i hk hi, fun i hi => h.dg i hi⟩

/-- Ways made shorter over one place more each time. -/
def fk (m i : Nat) (E : Nat → Nat → Int) : Nat → (Nat → Nat → Int)
  | 0 => E
  | k + 1 => upd (fk m i E k) i k (minI (fk m i E k i k) (fk m i E k i m + fk m i E k m k))
def fi (m n : Nat) (E : Nat → Nat → Int) : Nat → (Nat → Nat → Int)
  | 0 => E
  | i + 1 => fk m i (fi m n E i) n
def fm (n : Nat) (E : Nat → Nat → Int) : Nat → (Nat → Nat → Int)
  | 0 => E
  | m + 1 => fi m n (fm n E m) n
def fw7 (n : Nat) (E : Nat → Nat → Int) : Nat → Nat → Int := fm n E n

/-- Numbers that are small. -/
def Bd (n : Nat) (E : Nat → Nat → Int) : Prop := ∀ i k, i < n → k < n → 0 ≤ E i k ∧ E i k ≤ 281
theorem Bd.put {n m i k : Nat} {E : Nat → Nat → Int} (h : Bd n E) (hm : m < n) (hi : i < n) (hk : k < n) : Bd n (upd E i k (minI (E i k) (E i m + E m k))) := by
  intro i' k' hi' hk'
  have h1 := h i k hi hk
  have h2 := h i m hi hm
  have h3 := h m k hm hk
  unfold upd
  split
  · unfold minI
    split <;> omega
  · exact h i' k' hi' hk'
theorem Bd.fk {n m i : Nat} {E : Nat → Nat → Int} (h : Bd n E) (hm : m < n) (hi : i < n) : ∀ {k : Nat}, k ≤ n → Bd n (fk m i E k)
  | 0, _ => h
  | k + 1, hk => (Bd.fk h hm hi (k := k) (by omega)).put hm hi (by omega)
theorem Bd.fi {n m : Nat} {E : Nat → Nat → Int} (h : Bd n E) (hm : m < n) : ∀ {i : Nat}, i ≤ n → Bd n (fi m n E i)
  | 0, _ => h
  | i + 1, hi => (Bd.fi h hm (i := i) (by omega)).fk hm (by omega) (Nat.le_refl _)
theorem Bd.fm {n : Nat} {E : Nat → Nat → Int} (h : Bd n E) : ∀ {m : Nat}, m ≤ n → Bd n (fm n E m)
  | 0, _ => h
  | m + 1, hm => (Bd.fm h (m := m) (by omega)).fi (by omega) (Nat.le_refl _)
theorem RM.bd {n : Nat} {D : Nat → Nat → Int} (h : RM n D) : Bd n D := fun i k hi hk => ⟨h.lo i k hi hk, by have := h.hi i k hi hk; omega⟩

/-- One round in one go: some cells have been made shorter over m, the others stand. -/
def OneGo (n m : Nat) (E F : Nat → Nat → Int) (dn : Nat → Nat → Prop) : Prop := ∀ a b, a < n → b < n → (dn a b → F a b = minI (E a b) (E a m + E m b)) ∧ (¬ dn a b → F a b = E a b)
section
variable {n m i : Nat} {E F : Nat → Nat → Int} {dn : Nat → Nat → Prop}
theorem OneGo.put (hd : ∀ a, a < n → E a a = 0) (h : OneGo n m E F dn) {k : Nat} (hm : m < n) (hi : i < n) (hk : k < n) (hn : ¬ dn i k) {dn' : Nat → Nat → Prop} (hdn : ∀ a b, dn' a b ↔ (dn a b ∨ (a = i ∧ b = k))) :
    OneGo n m E (upd F i k (minI (F i k) (F i m + F m k))) dn' := by
  have hrow : ∀ a, a < n → F a m = E a m := fun a ha => by
    obtain ⟨h1, h2⟩ := h a m ha hm
    by_cases e : dn a m
    · rw [h1 e, hd m hm]; unfold minI; split <;> omega
    · exact h2 e
  have hcol : ∀ b, b < n → F m b = E m b := fun b hb => by
    obtain ⟨h1, h2⟩ := h m b hm hb
    by_cases e : dn m b
    · rw [h1 e, hd m hm]; unfold minI; split <;> omega
    · exact h2 e
  intro a b ha hb
  obtain ⟨h1, h2⟩ := h a b ha hb
  rw [hdn, hrow i hi, hcol k hk, (h i k hi hk).2 hn]
  unfold upd
  by_cases e : a = i ∧ b = k
  · obtain ⟨rfl, rfl⟩ := e
    exact ⟨fun _ => by rw [if_pos ⟨rfl, rfl⟩], fun hh => absurd (Or.inr ⟨rfl, rfl⟩) hh⟩
  · refine ⟨fun hh => ?_, fun hh => ?_⟩
    · rw [if_neg e]
      rcases hh with hh | hh
      · exact h1 hh
      · exact absurd hh e
    · rw [if_neg e]; exact h2 (fun x => hh (.inl x))
theorem OneGo.fk (hd : ∀ a, a < n → E a a = 0) (h : OneGo n m E F (fun a _ => a < i)) (hm : m < n) (hi : i < n) : ∀ {k : Nat}, k ≤ n → OneGo n m E (fk m i F k) (fun a b => a < i ∨ (a = i ∧ b < k))
  | 0, _ => fun a b ha hb => by
    obtain ⟨h1, h2⟩ := h a b ha hb
    exact ⟨fun hh => h1 (by omega), fun hh => h2 (by omega)⟩
  | k + 1, hk => (OneGo.fk hd h hm hi (k := k) (by omega)).put hd hm hi (by omega) (by omega) (fun a b => by omega)
theorem OneGo.fi (hd : ∀ a, a < n → E a a = 0) (hm : m < n) : ∀ {i : Nat}, i ≤ n → OneGo n m E (fi m n E i) (fun a _ => a < i)
  | 0, _ => fun _ _ _ _ => ⟨fun hh => absurd hh (by omega), fun _ => rfl⟩
  | i + 1, hi => fun a b ha hb => by
    obtain ⟨h1, h2⟩ := (OneGo.fi hd hm (i := i) (by omega)).fk hd hm (show i < n by omega) (k := n) (Nat.le_refl _) a b ha hb
    exact ⟨fun hh => h1 (by omega), fun hh => h2 (by omega)⟩
theorem fm_next {E : Nat → Nat → Int} (hd : ∀ a, a < n → E a a = 0) (hm : m < n) {a b : Nat} (ha : a < n) (hb : b < n) : fi m n E n a b = minI (E a b) (E a m + E m b) :=
  (OneGo.fi hd hm (Nat.le_refl _) a b ha hb).1 ha
end

/-- No way over a third place is shorter. -/
def Fair (n : Nat) (F : Nat → Nat → Int) : Prop := ∀ i j k, i < n → j < n → k < n → F i k ≤ F i j + F j k
def AtMost (n : Nat) (F E : Nat → Nat → Int) : Prop := ∀ i k, i < n → k < n → F i k ≤ E i k
/-- The state behind m rounds. -/
structure Mid (n m : Nat) (D E : Nat → Nat → Int) : Prop where
  rm : RM n E
  le : AtMost n E D
  fair : ∀ j, j < m → ∀ i k, i < n → k < n → E i k ≤ E i j + E j k
  great : ∀ F, Fair n F → AtMost n F D → AtMost n F E
theorem Mid.next {n m : Nat} {D E : Nat → Nat → Int} (h : Mid n m D E) (hm : m < n) : Mid n (m + 1) D (fi m n E n) := by
  have hv : ∀ {a b : Nat}, a < n → b < n → fi m n E n a b = minI (E a b) (E a m + E m b) := fun ha hb => fm_next h.rm.dg hm ha hb
  have hlo := h.rm.lo
  have hdg := h.rm.dg
  have hmin : ∀ x y : Int, minI x y ≤ x ∧ minI x y ≤ y ∧ (minI x y = x ∨ minI x y = y) := fun x y => by unfold minI; split <;> omega
  refine ⟨⟨h.rm.n1, h.rm.n5, fun i k hi hk => ?_, fun i k hi hk => ?_, fun i hi => ?_⟩, fun i k hi hk => ?_, fun j hj i k hi hk => ?_, fun F hF hle i k hi hk => ?_⟩
  · rw [hv hi hk]
    have h1 := hlo i k hi hk
    have h2 := hlo i m hi hm
    have h3 := hlo m k hm hk
    have h4 := hmin (E i k) (E i m + E m k)
    omega
  · rw [hv hi hk]
    have h1 := h.rm.hi i k hi hk
    have h4 := hmin (E i k) (E i m + E m k)
    omega
  · rw [hv hi hi, hdg i hi]
    have h2 := hlo i m hi hm
    have h3 := hlo m i hm hi
    have h4 := hmin 0 (E i m + E m i)
    omega
  · rw [hv hi hk]
    have h1 := h.le i k hi hk
    have h4 := hmin (E i k) (E i m + E m k)
    omega
  · have hjn : j < n := by omega
    rw [hv hi hk, hv hi hjn, hv hjn hk]
    have h1 := hmin (E i k) (E i m + E m k)
    have h2 := hmin (E i j) (E i m + E m j)
    have h3 := hmin (E j k) (E j m + E m k)
    by_cases e : j = m
    · subst e
      have h4 := hdg j hjn
      rw [h4] at h2 h3 ⊢
      omega
    · have h4 := h.fair j (by omega) i k hi hk
      have h5 := h.fair j (by omega) i m hi hm
      have h6 := h.fair j (by omega) m k hm hk
      have h7 := hlo m j hm hjn
      have h8 := hlo j m hjn hm
      omega
  · rw [hv hi hk]
    have h1 := h.great F hF hle i k hi hk
    have h2 := h.great F hF hle i m hi hm
    have h3 := h.great F hF hle m k hm hk
    have h4 := hF i m k hi hm hk
    have h5 := hmin (E i k) (E i m + E m k)
    omega
theorem Mid.upto {n : Nat} {D : Nat → Nat → Int} (h : RM n D) : ∀ {m : Nat}, m ≤ n → Mid n m D (fm n D m)
  | 0, _ => ⟨h, fun _ _ _ _ => Int.le_refl _, fun j hj => absurd hj (by omega), fun _ _ hle => hle⟩
  | m + 1, hm => (Mid.upto h (m := m) (by omega)).next (by omega)

section
variable {n : Nat} {D E F : Nat → Nat → Int}
theorem fw_mid (h : RM n D) : Mid n n D (fw7 n D) := Mid.upto h (Nat.le_refl _)
theorem fw_rm (h : RM n D) : RM n (fw7 n D) := (fw_mid h).rm
theorem fw_fair (h : RM n D) : Fair n (fw7 n D) := fun i j k hi hj hk => (fw_mid h).fair j hj i k hi hk
theorem fw_le (h : RM n D) : AtMost n (fw7 n D) D := (fw_mid h).le
theorem fw_great (h : RM n D) (hF : Fair n F) (hle : AtMost n F D) : AtMost n F (fw7 n D) := (fw_mid h).great F hF hle
theorem fw_is (h : RM n D) (hF : Fair n F) (hle : AtMost n F D) (hg : ∀ G, Fair n G → AtMost n G D → AtMost n G F) {i k : Nat} (hi : i < n) (hk : k < n) : fw7 n D i k = F i k := by
  have h1 := fw_great h hF hle i k hi hk
  have h2 := hg _ (fw_fair h) (fw_le h) i k hi hk
  omega
theorem fw_same (h : RM n D) (hf : Fair n D) {i k : Nat} (hi : i < n) (hk : k < n) : fw7 n D i k = D i k :=
  fw_is h hf (fun _ _ _ _ => Int.le_refl _) (fun _ _ h => h) hi hk
theorem Fair.turn (h : Fair n F) : Fair n (fun i k => F k i) := fun i j k hi hj hk => by show F k i ≤ F j i + F k j; have := h k j i hk hj hi; omega
theorem fw_turn (h : RM n D) {i k : Nat} (hi : i < n) (hk : k < n) : fw7 n (fun i k => D k i) i k = fw7 n D k i :=
  fw_is (F := fun i k => fw7 n D k i) h.turn (fw_fair h).turn (fun a b ha hb => fw_le h b a hb ha) (fun _ hG hle a b ha hb => fw_great h hG.turn (fun x y hx hy => hle y x hy hx) b a hb ha) hi hk
theorem Fair.congr (h : Fair n F) (he : ∀ i k, i < n → k < n → E i k = F i k) : Fair n E := fun i j k hi hj hk => by
  rw [he i k hi hk, he i j hi hj, he j k hj hk]; exact h i j k hi hj hk
end
instance (n : Nat) (F : Nat → Nat → Int) : Decidable (Fair n F) :=
  decidable_of_iff (∀ i, i < n → ∀ j, j < n → ∀ k, k < n → F i k ≤ F i j + F j k) ⟨fun h i j k hi hj hk => h i hi j hj k hk, fun h i hi j hj k hk => h i j k hi hj hk⟩
end Go.Proofs.Ytjklnknlifpidaa
