/- spec.OddsOf, impl.OddsOf. No condition. -/
import Derived.Test.YtjklnknlifpidaaN10
namespace Go.Proofs.Ytjklnknlifpidaa
open Go.RowKit

def oddsV (n : Int) (rs : List (List Int)) : List Int := if townB n rs then oddsTo n.toNat (rs.map st) else []
theorem oddsV_no {n : Int} {rs : List (List Int)} (h : townB n rs = false) : oddsV n rs = [] := by unfold oddsV; rw [h]; rfl
theorem oddsV_yes {n : Nat} {rs : List (List Int)} (h : townB n rs = true) : oddsV n rs = oddsTo n (rs.map st) := by unfold oddsV; rw [h]; rfl
theorem oddsV_len (n : Int) (rs : List (List Int)) : (oddsV n rs).length ≤ 5 := by
  cases h : townB n rs with
  | false => rw [oddsV_no h]; simp
  | true =>
    obtain ⟨m, rfl, _, hm, _⟩ := townB_parts h
    rw [oddsV_yes h]
    have := oddsTo_len (rs.map st) m
    omega
theorem iRes.none {V : List Int} (hV : V = []) {w w' : World} (hb : Below w.heap.size w w') : iRes w V (.returned (.slice none 0 0)) w' := by
  subst hV
  exact ⟨Option.none, 0, rfl, Nat.le_refl _, .inl rfl, hb⟩
theorem iRes.wide {V : List Int} {w w1 w' : World} {e : Ending} (h : iRes w1 V e w') (hb : Below w.heap.size w w1) : iRes w V e w' := by
  obtain ⟨A, c, h1, h2, h3, h4⟩ := h
  exact ⟨A, c, h1, h2, Own.less h3 (by have := hb.size; omega), hb.trans (h4.mono hb.size)⟩

theorem fresh_fst (ss : List St) : (fresh ss).map Prod.fst = ss := by unfold fresh; rw [List.map_map]; exact List.map_id ss
theorem fresh_len (rs : List (List Int)) : (fresh (rs.map st)).length = rs.length := by simp [fresh]
theorem fresh_lt {n : Nat} {rs : List (List Int)} (hok : rs.all (okS n) = true) : ∀ s ∈ fresh (rs.map st), s.1.1 < n ∧ s.1.2.1 < n := fun s hs => by
  obtain ⟨s', hs', rfl⟩ := List.mem_map.1 hs
  exact street_lt hok s' hs'

set_option maxRecDepth 100000 in
theorem impOddsOf_any (A : Option Addr) (c : Nat) (rs : List (List Int)) (n : Int) (w : World) (hr : Grid w 0 w.heap.size A rs) (hs : ∀ r ∈ rs, r.length ≤ 1000000000) :
    Calls Try.prog 27 #[.int .i64 n, .slice A rs.length c] w (iRes w (oddsV n rs)) := by
  have H := Lib.hid (townOf_all A c rs n w hr hs)
  clear hs hr
  cases h : townB n rs with
  | false =>
    have HF := Lib.hid (oddsV_no h)
    have HT := Lib.hid h
    clear h
    go_enter Try.func27, Try.ntmps27
    go_wp2_with fail
    refine H.out.mono ?_
    rintro e w1 ⟨_, hp⟩
    obtain ⟨rfl, hb⟩ := hp HT.out
    have HB := Lib.hid (iRes.none HF.out hb)
    clear hb hp
    go_wp2
    go_ret
    exact HB.out
  | true =>
    obtain ⟨m, rfl, h1, h2, h3, h4, _⟩ := townB_parts h
    have HF := Lib.hid (oddsV_yes h)
    have HT := Lib.hid h
    have H4 := Lib.hid h4
    clear h h4
    go_enter Try.func27, Try.ntmps27
    go_wp2_with fail
    refine H.out.mono ?_
    rintro e w1 ⟨hp, _⟩
    obtain ⟨A1, c1, bs, rfl, _, ht, hb⟩ := hp HT.out
    have HB := Lib.hid hb
    have ho := oddsIn_any A1 c1 w.heap.size m bs (fresh (rs.map st)) w1 ht (by rw [fresh_len]; exact h3) (fresh_lt H4.out) h2
    rw [fresh_len, fresh_fst] at ho
    have HO := Lib.hid ho
    clear hb hp ht ho
    go_wp2_with fail
    refine HO.out.mono ?_
    intro e w2 hp
    have hp2 := hp.wide HB.out
    rw [← HF.out] at hp2
    obtain ⟨A2, c2, rfl, k2, k3, k4⟩ := hp2
    have HK := Lib.hid (And.intro k2 (And.intro k3 k4))
    clear hp k2 k3 k4
    go_wp2
    go_ret
    exact ⟨A2, c2, rfl, HK.out.1, HK.out.2.1, HK.out.2.2⟩
end Go.Proofs.Ytjklnknlifpidaa
