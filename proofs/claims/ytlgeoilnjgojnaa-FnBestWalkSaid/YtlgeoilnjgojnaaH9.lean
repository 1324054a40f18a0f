/- WalkOf: spec. No condition. -/
import Derived.Test.YtlgeoilnjgojnaaH4
import Derived.Test.YtlgeoilnjgojnaaS1
namespace Go.Proofs.Ytlgeoilnjgojnaa
open Go.RowKit

/-- The way between two places. -/
def btw (a b : Int × Int) (x : Int) : Int := max (a.1 - b.1) (b.1 - a.1) + (if a.2 = b.2 then 0 else x)
theorem btw_bd {a b : Int × Int} {x : Int} (h1 : 0 ≤ a.1 ∧ a.1 ≤ 20) (h2 : 0 ≤ b.1 ∧ b.1 ≤ 20) (hx : 0 ≤ x ∧ x ≤ 20) : 0 ≤ btw a b x ∧ btw a b x ≤ 40 := by
  unfold btw; split <;> omega

def dst (p q s t x : Int) : Int := btw (p, s) (q, t) x

set_option maxRecDepth 100000 in
set_option maxHeartbeats 1000000 in
theorem between_any (b1 o1 c1 b2 o2 c2 : Nat) (p s q t x : Int) (w : World) (h1 : w.cell? ⟨b1, o1, none⟩ = some (.int .i64 p)) (h2 : w.cell? ⟨b1, o1 + 1, none⟩ = some (.int .i64 s)) (h3 : w.cell? ⟨b2, o2, none⟩ = some (.int .i64 q)) (h4 : w.cell? ⟨b2, o2 + 1, none⟩ = some (.int .i64 t))
    (hp : 0 ≤ p ∧ p ≤ 20) (hq : 0 ≤ q ∧ q ≤ 20) (hx : 0 ≤ x ∧ x ≤ 20) :
    Calls Try.prog 46 #[.slice (some ⟨b1, o1, none⟩) 2 c1, .slice (some ⟨b2, o2, none⟩) 2 c2, .int .i64 x] w fun e w' => e = .returned (.int .i64 (dst p q s t x)) ∧ ∃ n, w' = w.drewN n := by
  obtain ⟨hp0, hp1⟩ := hp
  obtain ⟨hq0, hq1⟩ := hq
  obtain ⟨hx0, hx1⟩ := hx
  have e1 : IntKind.i64.wrap (p - q) = p - q := IntWalk.i64_in _ (by omega)
  have e2 : IntKind.i64.wrap (q - p) = q - p := IntWalk.i64_in _ (by omega)
  obtain ⟨m, hm⟩ : ∃ m, (if p - q < q - p then q - p else p - q) = m := ⟨_, rfl⟩
  have hmb : 0 ≤ m ∧ m ≤ 20 := by rw [← hm]; split <;> omega
  obtain ⟨hm0, hm1⟩ := hmb
  have HM := Lib.hid (show max (p - q) (q - p) = m from (max_if _ _).trans hm)
  by_cases hst : s = t
  · have ht : (s != t) = false := by simp [hst]
    have HD := Lib.hid (show dst p q s t x = m by simp only [dst, btw, if_pos hst, HM.out]; omega)
    clear hst
    go_enter Try.func46, Try.ntmps46
    go_wp2
    go_quiet (fail)
    clear e1 e2 hm
    go_simp
    go_wp2
    go_quiet (fail)
    go_simp
    go_wp2
    go_ret
    exact ⟨ret_int HD.out.symm, _, rfl⟩
  · have ht : (s != t) = true := by simpa using hst
    have HD := Lib.hid (show dst p q s t x = m + x by simp only [dst, btw, if_neg hst, HM.out])
    clear hst
    go_enter Try.func46, Try.ntmps46
    go_wp2
    go_quiet (fail)
    clear e1 e2 hm
    go_simp
    go_wp2
    go_quiet (fail)
    go_simp
    go_wp2
    go_ret
    exact ⟨ret_int HD.out.symm, _, rfl⟩

/-- The house of a number. -/
def hAt (rs : List (List Int)) (z : Int) : Int × Int := hp (rs.getD z.toNat [])
/-- How far one has walked, and where one is. -/
def wlk (rs : List (List Int)) (x : Int) (zs : List Int) : Int × (Int × Int) := zs.foldl (fun a z => (a.1 + btw a.2 (hAt rs z) x, hAt rs z)) (0, (0, 0))
def walkTot (rs : List (List Int)) (x : Int) (zs : List Int) : Int := (wlk rs x zs).1 + btw (wlk rs x zs).2 (0, 0) x
def walkB (rs : List (List Int)) (zs : List Int) (x : Int) : Bool := (housesB rs && inR x 0 20) && (decide (zs.length = rs.length) && rowB 9 zs)
def walkV (rs : List (List Int)) (zs : List Int) (x : Int) : Int := if walkB rs zs x = true then walkTot rs x zs else -1
theorem walkV_yes {rs : List (List Int)} {zs : List Int} {x : Int} (h : walkB rs zs x = true) : walkV rs zs x = walkTot rs x zs := by rw [walkV, if_pos h]
theorem walkV_no {rs : List (List Int)} {zs : List Int} {x : Int} (h : walkB rs zs x = false) : walkV rs zs x = -1 := by rw [walkV, if_neg (by rw [h]; simp)]
theorem wlk_take {rs : List (List Int)} {x : Int} {zs : List Int} {k : Nat} (hk : k < zs.length) {a : Int} {h : Int × Int} (he : wlk rs x (zs.take k) = (a, h)) : wlk rs x (zs.take (k + 1)) = (a + btw h (hAt rs zs[k]) x, hAt rs zs[k]) := by
  rw [List.take_succ_eq_append_getElem hk]
  unfold wlk at he ⊢
  rw [List.foldl_append, he]; rfl
theorem row_in {m : Nat} {zs : List Int} (h : rowB m zs = true) {k : Nat} (hk : k < zs.length) : ∃ j : Nat, zs[k] = (j : Int) ∧ j < zs.length := by
  have h2 : (List.range zs.length).all (okAt zs) = true := by simp only [rowB, Bool.and_eq_true] at h; exact h.2
  have h3 := (okAt_in hk (all_range h2 hk)).1
  exact ⟨zs[k].toNat, by omega, by omega⟩
theorem hAt_of {rs : List (List Int)} {z : Int} {j : Nat} {p s : Int} (hz : z = (j : Int)) (hj : j < rs.length) (h : rs[j] = [p, s]) : hAt rs z = (p, s) := by
  subst hz
  simp [hAt, hp, List.getD, List.getElem?_eq_getElem hj, h]

/-- Where one is, in memory. -/
def NowAt (w : World) (v : Value) (p s : Int) : Prop := ∃ b o c, v = .slice (some ⟨b, o, none⟩) 2 c ∧ w.cell? ⟨b, o, none⟩ = some (.int .i64 p) ∧ w.cell? ⟨b, o + 1, none⟩ = some (.int .i64 s) ∧ b < w.heap.size
theorem NowAt.keep {w w' : World} {v : Value} {p s : Int} (h : NowAt w v p s) (hb : Below w.heap.size w w') : NowAt w' v p s := by
  obtain ⟨b, o, c, rfl, h1, h2, h3⟩ := h
  exact ⟨b, o, c, rfl, (hb.cell (p := ⟨b, o, none⟩) h3).trans h1, (hb.cell (p := ⟨b, o + 1, none⟩) h3).trans h2, Nat.lt_of_lt_of_le h3 hb.size⟩

theorem rowB_six {zs : List Int} (h : zs.length ≤ 6) : rowB 6 zs = rowB 9 zs := by
  simp only [rowB, decide_eq_true h, decide_eq_true (show zs.length ≤ 9 by omega)]
end Go.Proofs.Ytlgeoilnjgojnaa
