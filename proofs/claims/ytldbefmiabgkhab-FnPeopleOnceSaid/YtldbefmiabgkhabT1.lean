/- Lists, plain: whom groups reach. No condition. -/
import Derived.Test.YtldbefmiabgkhabT0
import Derived.Test.YtldbefmiabgkhabU0
namespace Go.Proofs.Ytldbefmiabgkhab
open Go.RowKit

def okG (r : List Int) : Bool := r.all (fun z => inR z 0 8) && decide (r.length ≤ 4)
def groupsB (g : List (List Int)) : Bool := g.all okG && decide (g.length ≤ 5)
theorem groups_long {g : List (List Int)} (h : ¬ g.length ≤ 5) : groupsB g = false := by simp [groupsB, h]
theorem groups_no {g : List (List Int)} {k : Nat} (hk : k < g.length) (h : okG g[k] = false) : groupsB g = false := by simp [groupsB, all_no hk h]
theorem okG_len {r : List Int} (h : ¬ r.length ≤ 4) : okG r = false := by simp [okG, h]
theorem okG_no {r : List Int} {k : Nat} (hk : k < r.length) (h : inR r[k] 0 8 = false) : okG r = false := by rw [okG, all_no hk h, Bool.false_and]
structure Gr (g : List (List Int)) : Prop where
  n5 : g.length ≤ 5
  m4 : ∀ i (hi : i < g.length), g[i].length ≤ 4
  lo : ∀ i (hi : i < g.length), ∀ z ∈ g[i], 0 ≤ z ∧ z ≤ 8
theorem gr_of {g : List (List Int)} (h : groupsB g = true) : Gr g := by
  simp only [groupsB, okG, Bool.and_eq_true, decide_eq_true_eq, List.all_eq_true] at h
  refine ⟨h.2, fun i hi => (h.1 _ (List.getElem_mem hi)).2, fun i hi z hz => ?_⟩
  have := inR_iff.1 ((h.1 _ (List.getElem_mem hi)).1 z hz); omega

/-- Reached from the names N. -/
def Rc (g : List (List Int)) (N : Int → Prop) (x : Int) : Prop := ∀ S : Int → Prop, (∀ y, N y → S y) → (∀ y : Nat, y < g.length → S (y : Int) → ∀ z ∈ g.getD y [], S z) → S x
theorem Rc.base {g : List (List Int)} {N : Int → Prop} {x : Int} (h : N x) : Rc g N x := fun _ h1 _ => h1 x h
theorem Rc.step {g : List (List Int)} {N : Int → Prop} {y : Nat} {z : Int} (hy : y < g.length) (h : Rc g N y) (hz : z ∈ g.getD y []) : Rc g N z := fun S h1 h2 => h2 y hy (h S h1 h2) z hz
theorem Rc.mono {g : List (List Int)} {N M : Int → Prop} {x : Int} (h : Rc g N x) (hm : ∀ y, N y → Rc g M y) : Rc g M x := h (Rc g M) hm (fun _ hy h2 _ hz => h2.step hy hz)
theorem Rc.one {g : List (List Int)} {N : Int → Prop} {x : Int} : Rc g N x ↔ ∃ y, N y ∧ Rc g (· = y) x := by
  constructor
  · intro h
    refine h (fun x => ∃ y, N y ∧ Rc g (· = y) x) (fun y hy => ⟨y, hy, .base rfl⟩) ?_
    rintro y hy ⟨v, hv, h2⟩ z hz
    exact ⟨v, hv, h2.step hy hz⟩
  · rintro ⟨y, hy, h⟩
    exact h.mono (fun v e => by subst e; exact .base hy)
theorem Rc.inn {g : List (List Int)} (hg : Gr g) {N : Int → Prop} (hN : ∀ y, N y → 0 ≤ y ∧ y ≤ 8) {x : Int} (h : Rc g N x) : 0 ≤ x ∧ x ≤ 8 :=
  h (fun x => 0 ≤ x ∧ x ≤ 8) hN (fun y hy _ z hz => hg.lo y hy z (by rwa [getD_row hy] at hz))
theorem rc_bool (g : List (List Int)) (N : Int → Prop) : ∃ p : Nat → Bool, ∀ x, p x = true ↔ Rc g N x :=
  ⟨fun x => @decide (Rc g N x) (Classical.propDecidable _), fun x => by simp⟩

/-- Names that were come to, of which the first i were looked at. -/
structure Seen (g : List (List Int)) (name : Int) (sn : List Int) (i : Nat) : Prop where
  nd : sn.Nodup
  rg : ∀ x ∈ sn, 0 ≤ x ∧ x ≤ 8
  st : name ∈ sn
  ok : ∀ x ∈ sn, Rc g (· = name) x
  cl : ∀ j (hj : j < sn.length), j < i → ∀ y : Nat, sn[j] = (y : Int) → y < g.length → ∀ z ∈ g.getD y [], z ∈ sn
theorem Seen.start {g : List (List Int)} {name : Int} (h : 0 ≤ name ∧ name ≤ 8) : Seen g name [name] 0 :=
  ⟨by simp, by simpa using h, by simp, by simp only [List.mem_singleton]; rintro x rfl; exact .base rfl, fun j _ h => by omega⟩
theorem Seen.len {g : List (List Int)} {name : Int} {sn : List Int} {i : Nat} (h : Seen g name sn i) : sn.length ≤ 9 := by
  have := nodup_leL (l' := tab 9 fun j => (j : Int)) h.nd (fun a ha => by
    have := h.rg a ha
    simp only [tab, List.mem_map, List.mem_range]
    exact ⟨a.toNat, by omega, by omega⟩)
  rwa [tab_length] at this
theorem Seen.push {g : List (List Int)} {name z : Int} {sn : List Int} {i : Nat} (hg : Gr g) (h : Seen g name sn i) (hi : i < sn.length) {y : Nat} (hy : sn[i] = (y : Int)) (hyl : y < g.length) (hz : z ∈ g.getD y []) (hn : z ∉ sn) : Seen g name (sn ++ [z]) i := by
  have hzr := hg.lo y hyl z (by rwa [getD_row hyl] at hz)
  refine ⟨?_, ?_, by simp [h.st], ?_, ?_⟩
  · rw [List.nodup_append]
    refine ⟨h.nd, by simp, fun a ha b hb => ?_⟩
    simp only [List.mem_singleton] at hb
    subst hb
    exact fun e => hn (by rw [← e]; exact ha)
  · intro x hx
    rcases List.mem_append.1 hx with h1 | h1
    · exact h.rg x h1
    · simp only [List.mem_singleton] at h1; subst h1; exact hzr
  · intro x hx
    rcases List.mem_append.1 hx with h1 | h1
    · exact h.ok x h1
    · simp only [List.mem_singleton] at h1; subst h1
      refine Rc.step hyl ?_ hz
      rw [← hy]; exact h.ok _ (List.getElem_mem hi)
  · intro j hj hji y' hy' hl z' hz'
    have hj' : j < sn.length := by omega
    rw [List.getElem_append_left hj'] at hy'
    exact List.mem_append_left _ (h.cl j hj' hji y' hy' hl z' hz')
theorem Seen.next {g : List (List Int)} {name : Int} {sn : List Int} {i : Nat} (h : Seen g name sn i) (hi : i < sn.length) (hc : ∀ y : Nat, sn[i] = (y : Int) → y < g.length → ∀ z ∈ g.getD y [], z ∈ sn) : Seen g name sn (i + 1) :=
  ⟨h.nd, h.rg, h.st, h.ok, fun j hj hji => by
    by_cases e : j = i
    · subst e; exact hc
    · exact h.cl j hj (by omega)⟩
theorem Seen.done {g : List (List Int)} {name : Int} {sn : List Int} (h : Seen g name sn sn.length) (x : Int) : x ∈ sn ↔ Rc g (· = name) x := by
  refine ⟨h.ok x, fun hr => hr (· ∈ sn) (fun y e => by subst e; exact h.st) (fun y hy hs z hz => ?_)⟩
  obtain ⟨j, hj, e⟩ := List.getElem_of_mem hs
  exact h.cl j hj hj y e hy z hz

/-- The numbers up to m that p has, ascending. -/
def upL (p : Nat → Bool) (m : Nat) : List Int := ((List.range m).filter p).map (fun k : Nat => (k : Int))
theorem upL_zero (p : Nat → Bool) : upL p 0 = [] := rfl
theorem upL_yes {p : Nat → Bool} {m : Nat} (h : p m = true) : upL p (m + 1) = upL p m ++ [(m : Int)] := by unfold upL; rw [List.range_succ, List.filter_append]; simp [h]
theorem upL_no {p : Nat → Bool} {m : Nat} (h : p m = false) : upL p (m + 1) = upL p m := by unfold upL; rw [List.range_succ, List.filter_append]; simp [h]
theorem upL_len (p : Nat → Bool) (m : Nat) : (upL p m).length ≤ m := by
  rw [upL, List.length_map]
  have := List.length_filter_le p (List.range m)
  simpa using this
theorem mem_upL {p : Nat → Bool} {m : Nat} {x : Int} : x ∈ upL p m ↔ ∃ k : Nat, k < m ∧ p k = true ∧ x = k := by
  simp only [upL, List.mem_map, List.mem_filter, List.mem_range]
  constructor
  · rintro ⟨k, ⟨h1, h2⟩, rfl⟩; exact ⟨k, h1, h2, rfl⟩
  · rintro ⟨k, h1, h2, rfl⟩; exact ⟨k, ⟨h1, h2⟩, rfl⟩
theorem upL_nodup (p : Nat → Bool) (m : Nat) : (upL p m).Nodup := by
  unfold upL List.Nodup
  rw [List.pairwise_map]
  exact List.Pairwise.imp (fun hab e => by omega) (List.Pairwise.filter _ List.pairwise_lt_range)
theorem upL_up (p : Nat → Bool) (m : Nat) : (upL p m).Pairwise (· < ·) := by
  unfold upL
  rw [List.pairwise_map]
  exact List.Pairwise.imp (fun hab => by omega) (List.Pairwise.filter _ List.pairwise_lt_range)
theorem upL_congr {p q : Nat → Bool} {m : Nat} (h : ∀ k, k < m → p k = q k) : upL p m = upL q m := by
  unfold upL
  congr 1
  exact List.filter_congr fun k hk => h k (List.mem_range.1 hk)
/-- The people among those who are reached. -/
def peo (n : Nat) (p : Nat → Bool) (k : Nat) : Bool := decide (n ≤ k) && p k
theorem peo_low {n : Nat} (p : Nat → Bool) {m : Nat} (h : m ≤ n) : upL (peo n p) m = [] := by
  unfold upL
  rw [List.map_eq_nil_iff, List.filter_eq_nil_iff]
  intro k hk
  have hk := List.mem_range.1 hk
  simp [peo]; omega
theorem peo_filter (n : Nat) (p : Nat → Bool) (m : Nat) : (upL p m).filter (fun z => !decide (z < (n : Int))) = upL (peo n p) m := by
  unfold upL
  rw [List.filter_map, List.filter_filter]
  congr 1
  refine List.filter_congr fun k _ => ?_
  by_cases h : n ≤ k
  · simp [peo, h]
  · simp [peo, h]

/-- Names that are not reached yet, as a map tells them: u. Whatever is not in it is reached, and nothing else is once nothing is left to strike. -/
structure Un (g : List (List Int)) (N : Int → Prop) (u : Int → Bool) : Prop where
  rg : ∀ x, u x = true → 0 ≤ x ∧ x ≤ 8
  st : ∀ x, N x → u x = false
  ok : ∀ x, 0 ≤ x → x ≤ 8 → u x = false → Rc g N x
theorem Un.strike {g : List (List Int)} {N : Int → Prop} {u : Int → Bool} (h : Un g N u) {y : Nat} {z : Int} (hy : y < g.length) (h8 : y ≤ 8) (hu : u y = false) (hz : z ∈ g.getD y []) : Un g N (fun x => u x && !decide (x = z)) := by
  refine ⟨fun x hx => ?_, fun x hx => ?_, fun x h0 h1 hx => ?_⟩
  · rw [Bool.and_eq_true] at hx; exact h.rg x hx.1
  · simp [h.st x hx]
  · simp only [Bool.and_eq_false_iff, Bool.not_eq_false', decide_eq_true_eq] at hx
    rcases hx with hx | rfl
    · exact h.ok x h0 h1 hx
    · exact Rc.step hy (h.ok y (by omega) (by omega) hu) hz
theorem Un.done {g : List (List Int)} {N : Int → Prop} {u : Int → Bool} (h : Un g N u) (hc : ∀ y : Nat, y < g.length → u y = false → ∀ z ∈ g.getD y [], u z = false) (x : Int) (h0 : 0 ≤ x) (h1 : x ≤ 8) : u x = false ↔ Rc g N x :=
  ⟨h.ok x h0 h1, fun hr => hr (fun x => u x = false) h.st hc⟩
end Go.Proofs.Ytldbefmiabgkhab
