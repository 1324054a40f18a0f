/- Groups: what the laws say, plain. No condition. -/
import Derived.Test.YtldbefmiabgkhabTd
import Derived.Test.YtldbefmiabgkhabDf
namespace Go.Proofs.Ytldbefmiabgkhab
open Go.RowKit

theorem Rc.first {g : List (List Int)} {a : Nat} {x : Int} (h : Rc g (· = (a : Int)) x) : x = a ∨ ∃ z ∈ g.getD a [], a < g.length ∧ Rc g (· = z) x := by
  refine h (fun x => x = a ∨ ∃ z ∈ g.getD a [], a < g.length ∧ Rc g (· = z) x) (fun y hy => .inl hy) ?_
  rintro y hy (h1 | ⟨z, hz, ha, h1⟩) u hu
  · have : y = a := by omega
    subst this
    exact .inr ⟨u, hu, hy, .base rfl⟩
  · exact .inr ⟨z, hz, ha, h1.step hy hu⟩
/-- A person is reached alone. -/
theorem Rc.alone {g : List (List Int)} {a x : Int} (ha : (g.length : Int) ≤ a) : Rc g (· = a) x ↔ x = a := by
  constructor
  · intro h
    exact h (· = a) (fun _ h => h) (fun y hy h => by omega)
  · rintro rfl; exact .base rfl
theorem peo_alone {g : List (List Int)} {a : Nat} {V : List Int} (h : PeoV g a V) (ha : g.length ≤ a) (h9 : a < 9) (hg : groupsB g = true) : V = [(a : Int)] := by
  rcases h with ⟨h, _⟩ | ⟨_, _, p, hp, rfl⟩
  · rw [hg, Bool.true_and, Bool.eq_false_iff, ne_eq, inR_iff] at h; omega
  · have e : upL (peo g.length p) 9 = upL (fun k => decide (k = a)) 9 := upL_congr fun k _ => by
      rw [Bool.eq_iff_iff]
      simp only [peo, Bool.and_eq_true, decide_eq_true_eq, hp]
      rw [Rc.alone (by omega)]
      omega
    rw [e]
    have hn : ∀ m, upL (fun k => decide (k = a)) m = if a < m then [(a : Int)] else [] := by
      intro m
      induction m with
      | zero => rfl
      | succ m ih =>
        by_cases e : m = a
        · subst e
          rw [upL_yes (by simp), ih]; simp
        · rw [upL_no (by simpa using e), ih]
          by_cases e2 : a < m
          · rw [if_pos e2, if_pos (by omega)]
          · rw [if_neg e2, if_neg (by omega)]
    rw [hn, if_pos h9]
theorem PeoV.mem {g : List (List Int)} {a : Int} {V : List Int} (h : PeoV g a V) (hg : groupsB g = true) (ha : 0 ≤ a ∧ a ≤ 8) (x : Int) : x ∈ V ↔ (g.length : Int) ≤ x ∧ Rc g (· = a) x := by
  rcases h with ⟨h, _⟩ | ⟨_, _, p, hp, rfl⟩
  · rw [hg, Bool.true_and, Bool.eq_false_iff, ne_eq, inR_iff] at h; omega
  · rw [mem_upL]
    constructor
    · rintro ⟨k, hk, h1, rfl⟩
      simp only [peo, Bool.and_eq_true, decide_eq_true_eq, hp] at h1
      exact ⟨by omega, h1.2⟩
    · rintro ⟨h1, h2⟩
      have hx := h2.inn (gr_of hg) (fun y e => by rw [e]; exact ha)
      refine ⟨x.toNat, by omega, ?_, by omega⟩
      simp only [peo, Bool.and_eq_true, decide_eq_true_eq, hp]
      rw [show ((x.toNat : Nat) : Int) = x by omega]
      exact ⟨by omega, h2⟩
theorem PeoV.up {g : List (List Int)} {a : Int} {V : List Int} (h : PeoV g a V) : V.Pairwise (· < ·) := by
  rcases h with ⟨_, rfl⟩ | ⟨_, _, p, _, rfl⟩
  · exact List.Pairwise.nil
  · exact upL_up _ _
theorem LooV.up {g : List (List Int)} {V : List Int} (h : LooV g V) : V.Pairwise (· < ·) := by
  rcases h with ⟨_, rfl⟩ | ⟨_, p, _, rfl⟩
  · exact List.Pairwise.nil
  · exact upL_up _ _
theorem nodup_up {V : List Int} (h : V.Pairwise (· < ·)) : V.Nodup := List.Pairwise.imp (fun hab e => by omega) h
/-- A group reaches whom its members reach. -/
theorem peo_group {g : List (List Int)} {a : Nat} {V : List Int} (h : PeoV g a V) (hg : groupsB g = true) (ha : a < g.length) (x : Int) : x ∈ V ↔ ∃ z ∈ g.getD a [], (g.length : Int) ≤ x ∧ Rc g (· = z) x := by
  have hn5 := (gr_of hg).n5
  rw [h.mem hg ⟨by omega, by omega⟩]
  constructor
  · rintro ⟨h1, h2⟩
    rcases h2.first with h3 | ⟨z, hz, _, h3⟩
    · omega
    · exact ⟨z, hz, h1, h3⟩
  · rintro ⟨z, hz, h1, h2⟩
    exact ⟨h1, h2.mono (fun y e => by subst e; exact Rc.step ha (.base rfl) hz)⟩
theorem diffC_same {T V : List Int} (hn : V.Nodup) (h : ∀ x, x ∈ T ↔ x ∈ V) : diffC T = V.length := by
  unfold diffC
  exact ((List.perm_ext_iff_of_nodup (firsts_nodup T) hn).2 (fun x => by rw [firsts_mem, h])).length_eq

/-- A group of people alone. -/
def pplB (n : Nat) (r : List Int) : Bool := r.all (fun z => decide ((n : Int) ≤ z))
theorem loops_some {g : List (List Int)} {V : List Int} (h : LooV g V) (hg : groupsB g = true) (h0 : 0 < g.length) (hp : ∀ i (hi : i < g.length), pplB g.length g[i] = false) : V ≠ [] := by
  have hG := gr_of hg
  have hn5 := hG.n5
  have hmem : ∀ i : Nat, i < g.length → ∃ z : Int, z ∈ g.getD i [] ∧ 0 ≤ z ∧ z < g.length := fun i hi => by
    have h1 := hp i hi
    rw [pplB, List.all_eq_false] at h1
    obtain ⟨z, hz, h2⟩ := h1
    have := hG.lo i hi z hz
    exact ⟨z, by rw [getD_row hi]; exact hz, this.1, by simp at h2; omega⟩
  obtain ⟨nx, hnx⟩ : ∃ nx : Nat → Int, ∀ i : Nat, i < g.length → nx i ∈ g.getD i [] ∧ 0 ≤ nx i ∧ nx i < g.length :=
    ⟨fun i => if hi : i < g.length then Classical.choose (hmem i hi) else 0, fun i hi => by
      show (if hi : i < g.length then Classical.choose (hmem i hi) else 0) ∈ g.getD i [] ∧ _
      simp only [dif_pos hi]
      exact Classical.choose_spec (hmem i hi)⟩
  obtain ⟨L, x, hf⟩ := fw_exists (zs := tab g.length nx) (i := 0) (by
    simp only [fwB, Bool.and_eq_true, decide_eq_true_eq, List.all_eq_true, tab_length]
    refine ⟨fun z hz => ?_, by omega, inR_iff.2 (by omega)⟩
    simp only [tab, List.mem_map, List.mem_range] at hz
    obtain ⟨i, hi, rfl⟩ := hz
    have := hnx i hi
    exact inR_iff.2 (by omega))
  have hor : ∀ k, 0 ≤ orb (tab g.length nx) 0 k ∧ orb (tab g.length nx) 0 k < g.length := fun k => by have := hf.inn k; rwa [tab_length] at this
  have hst : ∀ k, orb (tab g.length nx) 0 (k + 1) ∈ g.getD (orb (tab g.length nx) 0 k).toNat [] := fun k => by
    have h1 := hor k
    show (tab g.length nx).getD (orb (tab g.length nx) 0 k).toNat 0 ∈ _
    rw [getD_get (by rw [tab_length]; omega), tab_get (by omega)]
    exact (hnx _ (by omega)).1
  obtain ⟨y, hy⟩ : ∃ y : Nat, orb (tab g.length nx) 0 x = y := ⟨(orb (tab g.length nx) 0 x).toNat, by have := hor x; omega⟩
  have hyl : y < g.length := by have := hor x; omega
  have hrc : ∀ d, Rc g (· ∈ g.getD y []) (orb (tab g.length nx) 0 (x + 1 + d)) := by
    intro d
    induction d with
    | zero =>
      have h1 := hst x
      rw [hy] at h1
      exact .base (by simpa using h1)
    | succ d ih =>
      have h1 := hst (x + 1 + d)
      have h2 := hor (x + 1 + d)
      refine Rc.step (y := (orb (tab g.length nx) 0 (x + 1 + d)).toNat) (by omega) ?_ h1
      rw [show (((orb (tab g.length nx) 0 (x + 1 + d)).toNat : Nat) : Int) = orb (tab g.length nx) 0 (x + 1 + d) by omega]
      exact ih
  have hxL := hf.L1
  have h1 := hrc (L - (x + 1))
  rw [show x + 1 + (L - (x + 1)) = L by omega, hf.eq, hy] at h1
  rcases h with ⟨h, _⟩ | ⟨_, p, hpp, rfl⟩
  · rw [hg] at h; cases h
  · intro e
    have : (y : Int) ∈ upL p g.length := mem_upL.2 ⟨y, hyl, (hpp y hyl).2 h1, rfl⟩
    rw [e] at this; cases this
end Go.Proofs.Ytldbefmiabgkhab
