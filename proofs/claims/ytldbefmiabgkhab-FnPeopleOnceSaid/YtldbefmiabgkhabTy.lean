/- Groups of groups reach no more, plain; heads turned. No condition. -/
import Derived.Test.YtldbefmiabgkhabTo
import Derived.Test.YtldbefmiabgkhabN8g
namespace Go.Proofs.Ytldbefmiabgkhab
open Go.RowKit

theorem getD_set {g : List (List Int)} {a y : Nat} {r : List Int} (ha : a < g.length) : (g.set a r).getD y [] = if y = a then r else g.getD y [] := by
  simp only [List.getD, List.getElem?_set]
  by_cases e : y = a
  · subst e; simp [ha]
  · rw [if_neg (fun h => e h.symm), if_neg e]
theorem Rc.once {g : List (List Int)} {a f : Nat} {u : Int} (ha : a < g.length) (hf : f < g.length) (h1 : (f : Int) ∈ g.getD a []) (h2 : u ∈ g.getD f []) (x : Int) :
    Rc (g.set a (g.getD a [] ++ [u])) (· = (a : Int)) x ↔ Rc g (· = (a : Int)) x := by
  constructor
  · intro h
    refine h (Rc g (· = (a : Int))) (fun y hy => .base hy) (fun y hy hs z hz => ?_)
    rw [List.length_set] at hy
    rw [getD_set ha] at hz
    by_cases e : y = a
    · subst e
      rw [if_pos rfl] at hz
      rcases List.mem_append.1 hz with hz | hz
      · exact hs.step hy hz
      · simp only [List.mem_singleton] at hz
        subst hz
        exact (hs.step hy h1).step hf h2
    · rw [if_neg e] at hz
      exact hs.step hy hz
  · intro h
    refine h (Rc (g.set a (g.getD a [] ++ [u])) (· = (a : Int))) (fun y hy => .base hy) (fun y hy hs z hz => ?_)
    refine hs.step (by rw [List.length_set]; exact hy) ?_
    rw [getD_set ha]
    by_cases e : y = a
    · subst e; rw [if_pos rfl]; exact List.mem_append_left _ hz
    · rw [if_neg e]; exact hz
theorem peo_once {g : List (List Int)} {a f : Nat} {u : Int} {V : List Int} (hg : groupsB g = true) (ha : a < g.length) (hf : f < g.length) (h1 : (f : Int) ∈ g.getD a []) (h2 : u ∈ g.getD f []) (h4 : (g.getD a []).length ≠ 4) (h : PeoV g a V) : PeoV (g.set a (g.getD a [] ++ [u])) a V := by
  have hG := gr_of hg
  have hm := hG.m4 a ha
  rw [← getD_row ha] at hm
  have hg' : groupsB (g.set a (g.getD a [] ++ [u])) = true := by
    simp only [groupsB, okG, Bool.and_eq_true, decide_eq_true_eq, List.all_eq_true] at hg ⊢
    refine ⟨fun r hr => ?_, by rw [List.length_set]; exact hg.2⟩
    rcases List.mem_or_eq_of_mem_set hr with hr | rfl
    · exact hg.1 r hr
    · refine ⟨fun z hz => ?_, by rw [List.length_append, List.length_singleton]; omega⟩
      rcases List.mem_append.1 hz with hz | hz
      · rw [getD_row ha] at hz; exact (hg.1 _ (List.getElem_mem ha)).1 z hz
      · simp only [List.mem_singleton] at hz
        subst hz
        rw [getD_row hf] at h2; exact (hg.1 _ (List.getElem_mem hf)).1 z h2
  rcases h with ⟨h, rfl⟩ | ⟨_, hn, p, hp, rfl⟩
  · rw [hg, Bool.true_and] at h
    exact .inl ⟨by rw [hg', h]; rfl, rfl⟩
  · refine .inr ⟨hg', hn, p, fun x => by rw [hp, Rc.once ha hf h1 h2], by rw [List.length_set]⟩

/-- Heads of which one is turned. -/
theorem grid_swap {W w4 : World} {B0 gO k c3 : Nat} {hs : List Value} {rs : List (List Int)} {A3 : Option Addr} {r : List Int} (hat : GridAt W 0 B0 hs rs) (hB : B0 ≤ gO) (hg : gO < W.heap.size) (ho : Own W 0 W.heap.size (some ⟨gO, 0, none⟩) hs) (hb : Below W.heap.size W w4) (hk : k < rs.length)
    (hr : Ints w4 w4.heap.size A3 r) (hne : ∀ b o, A3 = some ⟨b, o, none⟩ → b ≠ gO) (hc : r.length ≤ c3) :
    Grid (w4.setCell ⟨gO, k, none⟩ (.slice A3 r.length c3)) 0 w4.heap.size (some ⟨gO, 0, none⟩) (rs.set k r) := by
  have hz := hb.size
  have h1 := (ho.below hb).set k (.slice A3 r.length c3)
  rw [Nat.zero_add] at h1
  refine ⟨hs.set k (.slice A3 r.length c3), h1.more hz, by rw [List.length_set, List.length_set]; exact hat.1, fun i hi => ?_⟩
  have hi' : i < rs.length := by rw [List.length_set] at hi; exact hi
  have hkeep : ∀ (p : Addr), p.block ≠ gO → (w4.setCell ⟨gO, k, none⟩ (.slice A3 r.length c3)).cell? p = w4.cell? p := fun p hp => World.cell?_of_block (RowKit.Below.heap_setCell _ _ _ _ hp)
  have hkeepI : ∀ (B : Nat) (A : Option Addr) (xs : List Value), Own w4 0 B A xs → (∀ b o, A = some ⟨b, o, none⟩ → xs ≠ [] → b ≠ gO) → Own (w4.setCell ⟨gO, k, none⟩ (.slice A3 r.length c3)) 0 B A xs := fun B A xs h hn => by
    rcases h with h | ⟨b, o, rfl, h0, hlt, hcc, _⟩
    · exact .inl h
    · by_cases hx : xs = []
      · exact .inl hx
      · exact .inr ⟨b, o, rfl, h0, hlt, fun j u hu => by rw [hkeep _ (hn b o rfl hx)]; exact hcc j u hu, fun h => by omega⟩
  by_cases e : i = k
  · subst e
    refine ⟨A3, c3, ?_, ?_, ?_⟩
    · rw [List.getElem?_set, if_pos rfl, if_pos (by rw [hat.1]; exact hi')]
      simp
    · simpa using hc
    · rw [List.getElem_set_self]
      exact hkeepI _ _ _ hr (fun b o h _ => hne b o h)
  · obtain ⟨R, c, g1, g2, g3⟩ := hat.2 i hi'
    refine ⟨R, c, ?_, ?_, ?_⟩
    · rw [List.getElem?_set, if_neg (fun h => e h.symm), List.getElem_set_ne (fun h => e h.symm)]; exact g1
    · rw [List.getElem_set_ne (fun h => e h.symm)]; exact g2
    · rw [List.getElem_set_ne (fun h => e h.symm)]
      refine hkeepI _ _ _ (((g3.below (hb.mono (by omega))).more (by omega)).row) (fun b o h hx => ?_)
      obtain ⟨b', o', h', hlt, _⟩ := g3.open (List.length_pos_iff.2 hx)
      rw [h] at h'
      simp only [Option.some.injEq, Addr.mk.injEq, and_true] at h'
      omega
end Go.Proofs.Ytldbefmiabgkhab
