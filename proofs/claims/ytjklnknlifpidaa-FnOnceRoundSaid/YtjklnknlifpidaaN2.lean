/- Towns: spec's least ways. No condition. -/
import Derived.Test.YtjklnknlifpidaaN1
namespace Go.Proofs.Ytjklnknlifpidaa
open Go.RowKit

def okS (n : Int) (r : List Int) : Bool := decide (r.length = 3) && (inR (r.getD 0 0) 0 (n - 1) && (inR (r.getD 1 0) 0 (n - 1) && inR (r.getD 2 0) 1 20))
def st (r : List Int) : St := ((r.getD 0 0).toNat, (r.getD 1 0).toNat, (r.getD 2 0).toNat)
theorem three_of {r : List Int} (h : r.length = 3) : ∃ p q s, r = [p, q, s] := by
  rcases r with _ | ⟨p, _ | ⟨q, _ | ⟨s, _ | ⟨x, r⟩⟩⟩⟩
  · simp at h
  · simp at h
  · simp at h
  · exact ⟨p, q, s, rfl⟩
  · simp at h
theorem okS_three (n p q s : Int) : okS n [p, q, s] = (inR p 0 (n - 1) && (inR q 0 (n - 1) && inR s 1 20)) := by simp [okS]
theorem okS_no {n : Int} {r : List Int} (h : ¬ r.length = 3) : okS n r = false := by simp [okS, h]
theorem street_row {n : Nat} {rs : List (List Int)} (h : rs.all (okS n) = true) {j : Nat} (hj : j < rs.length) : ∃ a b l : Nat, rs[j] = [(a : Int), (b : Int), (l : Int)] ∧ a < n ∧ b < n ∧ 1 ≤ l ∧ l ≤ 20 ∧ st rs[j] = (a, b, l) := by
  have h1 := List.all_eq_true.1 h _ (List.getElem_mem hj)
  by_cases h3 : rs[j].length = 3
  · obtain ⟨p, q, s, he⟩ := three_of h3
    rw [he, okS_three] at h1
    simp only [Bool.and_eq_true, inR_iff] at h1
    refine ⟨p.toNat, q.toNat, s.toNat, ?_, by omega, by omega, by omega, by omega, by rw [he]; rfl⟩
    rw [he, Int.toNat_of_nonneg (by omega), Int.toNat_of_nonneg (by omega), Int.toNat_of_nonneg (by omega)]
  · rw [okS_no h3] at h1; cases h1
theorem street_lt {n : Nat} {rs : List (List Int)} (h : rs.all (okS n) = true) : ∀ s ∈ rs.map st, s.1 < n ∧ s.2.1 < n := fun s hs => by
  obtain ⟨r, hr, rfl⟩ := List.mem_map.1 hs
  obtain ⟨j, hj, rfl⟩ := List.getElem_of_mem hr
  obtain ⟨a, b, l, _, h1, h2, _, _, h3⟩ := street_row h hj
  rw [h3]; exact ⟨h1, h2⟩
/-- A street in memory. -/
theorem Grid.street {w : World} {B : Nat} {A : Option Addr} {rs : List (List Int)} (h : Grid w 0 B A rs) {n : Nat} (hv : rs.all (okS n) = true) {k : Nat} (hk : k < rs.length) :
    ∃ (a b l : Nat) (bA oA b' o' c1 : Nat), rs[k] = [(a : Int), (b : Int), (l : Int)] ∧ st rs[k] = (a, b, l) ∧ (a < n ∧ b < n ∧ 1 ≤ l ∧ l ≤ 20) ∧ A = some ⟨bA, oA, none⟩ ∧ w.cell? ⟨bA, oA + k, none⟩ = some (.slice (some ⟨b', o', none⟩) 3 c1) ∧ w.cell? ⟨b', o', none⟩ = some (.int .i64 a) ∧ w.cell? ⟨b', o' + 1, none⟩ = some (.int .i64 b) ∧ w.cell? ⟨b', o' + 2, none⟩ = some (.int .i64 l) ∧ bA < B ∧ b' < B := by
  obtain ⟨a, b, l, he, h1, h2, h3, h4, h5⟩ := street_row hv hk
  obtain ⟨bA, oA, R, c1, hA, hlt, hcell, _, ho⟩ := h.open hk
  rw [he] at hcell ho
  obtain ⟨b', o', rfl, hb', hc'⟩ := ho.open (by simp)
  have q0 := ints_at hc' (show 0 < [(a : Int), (b : Int), (l : Int)].length by simp)
  have q1 := ints_at hc' (show 1 < [(a : Int), (b : Int), (l : Int)].length by simp)
  have q2 := ints_at hc' (show 2 < [(a : Int), (b : Int), (l : Int)].length by simp)
  simp only [List.getElem_cons_zero, List.getElem_cons_succ, Nat.add_zero] at q0 q1 q2
  exact ⟨a, b, l, bA, oA, b', o', c1, he, h5, ⟨h1, h2, h3, h4⟩, hA, hcell, q0, q1, q2, hlt, hb'⟩

theorem cell_keep {B : Nat} {w w' : World} {b off : Nat} {v : Value} (q : Below B w w') (hb : b < B) (h : w.cell? ⟨b, off, none⟩ = some v) : w'.cell? ⟨b, off, none⟩ = some v := by
  rw [q.cell (p := ⟨b, off, none⟩) hb]; exact h
theorem tab_more (k : Nat) (f : Nat → Int) : tab (k + 1) f = tab k f ++ [f k] := by simp [tab, List.range_succ]
def rowsTo (n i : Nat) (D : Nat → Nat → Int) : List (List Int) := (List.range i).map fun j => tab n (D j)
theorem rowsTo_more (n i : Nat) (D : Nat → Nat → Int) : rowsTo n (i + 1) D = rowsTo n i D ++ [tab n (D i)] := by simp [rowsTo, List.range_succ]
theorem rowsTo_len (n i : Nat) (D : Nat → Nat → Int) : (rowsTo n i D).length = i := by simp [rowsTo]
def unitD : Nat → Nat → Int := fun i k => if i = k then 0 else -1
theorem below_drewT (w : World) : Below w.heap.size w w.drew := ⟨rfl, rfl, rfl, Nat.le_refl _, fun _ _ => rfl⟩
def gRes (w0 : World) (V : List (List Int)) (e : Ending) (w' : World) : Prop := ∃ A' c', e = .returned (.slice A' V.length c') ∧ V.length ≤ c' ∧ MGrid w' w0.heap.size w'.heap.size A' V ∧ Below w0.heap.size w0 w'
theorem own_row_cells {w : World} {base n c : Nat} {A : Option Addr} {xs : List Int} (h : w.ownsRow base 3 1 (.slice A n c) n (xs.map (Value.int .i64))) : OwnInts w base w.heap.size A xs := by
  obtain ⟨A', c', hv, _, ho⟩ := own_of_row h
  simp only [Value.slice.injEq] at hv
  obtain ⟨rfl, _, _⟩ := hv
  exact ho
theorem Fw.less {n m : Nat} {ss : List St} {M : Int} {dn dn' : Nat → Nat → Prop} {D : Nat → Nat → Int} (h : Fw n ss m M dn D) (hd : ∀ i k, i < n → k < n → dn' i k → dn i k) : Fw n ss m M dn' D := fun i k hi hk => by
  obtain ⟨h1, h2, h3, h4, h5, h6⟩ := h i k hi hk
  exact ⟨h1, h2, h3, fun hh => h4 (hd i k hi hk hh), h5, h6⟩
theorem below_drew {B : Nat} {a w : World} (h : Below B a w) : Below B a w.drew := ⟨h.os, h.tape, h.output, h.size, h.block⟩
def bnd (m : Nat) : Int := ((20 * 2 ^ m : Nat) : Int)
theorem bnd_next (m : Nat) : bnd (m + 1) = 2 * bnd m := by unfold bnd; rw [Nat.pow_succ]; push_cast; omega
theorem bnd_le {m : Nat} (h : m ≤ 5) : bnd m ≤ 640 := by
  unfold bnd
  have := Nat.pow_le_pow_right (n := 2) (by omega) h
  omega

set_option maxRecDepth 100000 in
set_option maxHeartbeats 16000000 in
theorem apart_low (A : Option Addr) (c0 : Nat) (rs : List (List Int)) (n : Nat) (w : World) (hr : Grid w 0 w.heap.size A rs) (hn1 : 1 ≤ n) (hn5 : n ≤ 5) (hl7 : rs.length ≤ 7) (hok : rs.all (okS n) = true) :
    Calls Try.prog 45 #[.int .i64 n, .slice A rs.length c0] w fun e w' => ∃ D, IsDist n (rs.map st) D ∧ gRes w (mat n D) e w' := by
  obtain ⟨i0, hi0, hz0, hz1, hz2⟩ := info_parts Try.infoR
  obtain ⟨i3, hi3, hy0, hy1, hy2⟩ := info_parts Try.info3
  have HOK := Lib.hid hok
  clear hok
  go_enter Try.func45, Try.ntmps45
  go_wp2
  go_loopw [5, 6] (fun v i wr => ∃ (s : Nat) (H : Option Addr) (cH : Nat) (hs : List Value), s ≤ n ∧ i = .int .i64 s ∧ v = .slice H s cH ∧ Hid (Built wr w.heap.size H cH hs (rowsTo n s unitD)) ∧ Below w.heap.size w wr) (fun _ i _ => n - (intOf i).toNat)
  case atStart => exact ⟨0, _, 0, [], by omega, rfl, rfl, Lib.hid (Built.start w _ (Nat.le_refl _)), (Below.refl _ _).alloc (Nat.le_refl _) _⟩
  case round =>
    obtain ⟨s, H, cH, hs, hsN, rfl, rfl, HT, hbr⟩ := hrel
    have HBR := Lib.hid hbr
    have hbz := hbr.size
    clear hbr
    by_cases hlt : s < n
    · have hfirst : (wr.alloc (.cells #[] 3)).ownsRow wr.heap.size 3 1 (.slice (some ⟨wr.heap.size, 0, none⟩) 0 0) 0 [] := World.ownsRow_lit wr #[] 0 (Nat.le_refl _) (by simp [maxLen]) rfl
      have HFI := Lib.hid hfirst
      clear hfirst
      rename World => wA
      go_wp2_with fail
      go_loopw [7, 8] (fun v i wr => ∃ (k : Nat) (R : Option Addr) (cR : Nat), k ≤ n ∧ i = .int .i64 k ∧ v = .slice R k cR ∧ Hid (wr.ownsRow wA.heap.size 3 1 (.slice R k cR) k ((tab k (unitD s)).map (Value.int .i64))) ∧ Below wA.heap.size wA wr) (fun _ i _ => n - (intOf i).toNat)
      case atStart => exact ⟨0, _, 0, by omega, rfl, rfl, Lib.hid HFI.out, (Below.refl _ _).alloc (Nat.le_refl _) _⟩
      case round =>
        obtain ⟨k, R, cR, hk, rfl, rfl, HR, hbr2⟩ := hrel
        have HBR2 := Lib.hid hbr2
        have hbz2 := hbr2.size
        clear hbr2 HFI
        by_cases hlt2 : k < n
        · have hown := HR.out
          rcases Decidable.em (s = k) with hsk | hsk
          case' inl =>
            have hske : ((s : Int) == (k : Int)) = true := by rw [hsk]; simp
            have HU := Lib.hid (show unitD s k = 0 by unfold unitD; simp [hsk])
            clear hsk
            go_wp2_with (first | (at_builtin; refine wpList_push rfl (.tmp 30) (.tmp 32) 24 rfl i3 (.int .i64 0) 8 Try.underlying24 hi3 hy0 hy1 hy2 rfl (by decide) _ _ rfl hown [.int .i64 (0)] rfl rfl (by simp [Value.oneCell']) (by omega) (by omega) hbz2 ?_))
          case' inr =>
            have hske : ((s : Int) == (k : Int)) = false := by simp; omega
            have HU := Lib.hid (show unitD s k = -1 by unfold unitD; simp [hsk])
            clear hsk
            go_wp2_with (first | (at_builtin; refine wpList_push rfl (.tmp 30) (.tmp 32) 24 rfl i3 (.int .i64 0) 8 Try.underlying24 hi3 hy0 hy1 hy2 rfl (by decide) _ _ rfl hown [.int .i64 (-1)] rfl rfl (by simp [Value.oneCell']) (by omega) (by omega) hbz2 ?_))
          all_goals
            intro R' cR' w6 hown6 hg6
            have HW := Lib.hid (And.intro hown6 (HBR2.out.grown hg6 hbz2 (fun i hi => (hown.lt _ hi).1)))
            clear hown hown6 hg6 hske
            go_wp2_with fail
            go_roundw
            case rel => exact ⟨k + 1, R', cR', by omega, by go_num, rfl, Lib.hid (by rw [tab_more, HU.out, List.map_append]; exact HW.out.1), HW.out.2⟩
            case measure => simp [intOf]; omega
        · have hkk : k = n := by omega
          subst hkk
          have hBk := HT.out.keep HBR2.out
          have hownC : wr.ownsRow w.heap.size 24 1 (.slice H s cH) s hs := by have := hBk.1; rwa [rowsTo_len] at this
          have HCAP := Lib.hid (own_cap HR.out)
          have hbzB : w.heap.size ≤ wr.heap.size := Nat.le_trans hbz hbz2
          clear hBk
          go_wp2_with (at_builtin; refine wpList_push_at rfl (.tmp 34) (.tmp 36) 22 rfl i0 (.slice none 0 0) 24 Try.underlying22 hi0 hz0 hz1 hz2 rfl (by decide) _ _ rfl hownC [.slice R k cR] rfl rfl (by simp [Value.oneCell']) (by omega) (by omega) (by omega) ?_)
          intro H' cH' wd hownD hgD hat
          have hrl : (tab k (unitD s)).length = k := tab_length _ _
          have hTs := rowsTo_len k s unitD
          have hbuilt := Built.push (R := R) (cR := cR) (r := tab k (unitD s)) HT.out hbz HBR2.out (own_row_cells HR.out) (by rw [hrl]; exact HCAP.out) (by rw [hTs, hrl]; exact hownD) (by rw [hTs]; exact hgD) (by rcases hat with h | ⟨a, rfl, h⟩; exact .inl h; exact .inr (by simp [h]))
          rw [← rowsTo_more] at hbuilt
          have hbwd : Below w.heap.size w wd := (HBR.out.trans (HBR2.out.mono hbz)).grown hgD hbzB (fun i hi => (hownC.lt _ hi).1)
          have HEND := Lib.hid (And.intro hbuilt hbwd)
          clear hrl hTs hbuilt hbwd hownD hgD hat hownC
          go_wp2_with fail
          go_roundw
          case rel => exact ⟨s + 1, H', cH', _, by omega, by go_num, rfl, Lib.hid HEND.out.1, HEND.out.2⟩
          case measure => simp [intOf]; omega
    · have hsn : s = n := by omega
      subst hsn
      have hown := HT.out.1
      rw [rowsTo_len] at hown
      obtain ⟨g, rfl, hg0, hg1⟩ := own_some hown (by omega)
      obtain ⟨b, f, c, hmat⟩ := MatAt.of (D := unitD) (n := s) HT.out.mgrid (by omega)
      have HMAT := Lib.hid hmat
      have HCAP := Lib.hid (own_cap hown)
      clear hown hmat
      go_wp2_with fail
      go_loopw [10] (fun i wr => ∃ (j : Nat) (D : Nat → Nat → Int), j ≤ rs.length ∧ i = .int .i64 j ∧ Hid (Sx s (rs.map st) j D) ∧ Hid (MatAt wr w.heap.size g 0 s b f c D) ∧ Below w.heap.size w wr) (fun i _ => rs.length - (intOf i).toNat)
      case atStart => exact ⟨0, unitD, by omega, rfl, Lib.hid (Sx.start _ _), HMAT, HBR.out⟩
      case round =>
        obtain ⟨j, D, hj, rfl, HS, HM, hb3⟩ := hrel
        have HB3 := Lib.hid hb3
        have hbz3 := hb3.size
        clear hb3 HMAT HBR HT
        by_cases hlt : j < rs.length
        · obtain ⟨x, y, l, bA, oA, b', o', c1, hej, hst, ⟨hx, hy, hl1, hl2⟩, rfl, g0, g1, g2, g3, hbA, hb'⟩ := (hr.below HB3.out).street HOK.out hlt
          have hsj : (rs.map st)[j]'(by simpa using hlt) = (x, y, l) := by rw [List.getElem_map]; exact hst
          have hsb := (HS.out.1 x y hx hy)
          obtain ⟨d, hd⟩ : ∃ d, D x y = d := ⟨_, rfl⟩
          rw [hd] at hsb
          have hd0 := hsb.1
          have hd1 := hsb.2.1
          obtain ⟨⟨_, hgl, _⟩, hall, _⟩ := HM.out
          obtain ⟨x1, x2, x3, x4, x5, x6, x7⟩ := hall x hx
          obtain ⟨y1, y2, y3, y4, y5, y6, y7⟩ := hall y hy
          have x8 := x6 y hy
          rw [hd] at x8
          have x9 := x7 (f x + y)
          rw [Nat.zero_add] at x1 y1
          have hx0 : (0 : Int) ≤ x := by omega
          have hxn : (x : Int) < s := by omega
          have hy0 : (0 : Int) ≤ y := by omega
          have hyn : (y : Int) < s := by omega
          have HSJ := Lib.hid (And.intro hsj hd)
          have hjI : (j : Int) < rs.length := by omega
          have HALL := Lib.hid hall
          have HYY := Lib.hid (And.intro y1 (And.intro y3 (And.intro y6 y7)))
          clear hej hst hsj hsb hd hall x6 x7 y1 y6 y7 x5 y5 x4 y4
          by_cases hdn : d < 0
          · have hdd : decide (d < 0) = true := decide_eq_true hdn
            go_wp2_with fail
            go_quiet (fail)
            go_simp
            clear hdd
            obtain ⟨W1, hW1⟩ : ∃ W1, wr.drewN nq = W1 := ⟨_, rfl⟩
            have hb1 : Below wr.heap.size wr W1 := by rw [← hW1]; exact below_drewN (Below.refl _ _) _
            have m0 := cell_keep hb1 (by omega) g0
            have m1 := cell_keep hb1 (by omega) g1
            have m2 := cell_keep hb1 (by omega) g2
            have m3 := cell_keep hb1 (by omega) g3
            have n1 := cell_keep hb1 (by omega) x1
            have n8 := cell_keep hb1 (by omega) x8
            have n9 : W1.frozen? ⟨b x, f x + y, none⟩ = false := by rw [hb1.frozen (p := ⟨b x, f x + y, none⟩) x3]; exact x9
            have HB1 := Lib.hid hb1
            have HM1 := Lib.hid (HM.out.keep hb1)
            have hw1z : wr.heap.size ≤ W1.heap.size := hb1.size
            rw [hW1]
            clear hW1 hb1
            go_wp2_with fail
            go_region
            obtain ⟨W2, hW2⟩ : ∃ W2, (W1.setCell ⟨b x, f x + y, none⟩ (.int .i64 l)).drew = W2 := ⟨_, rfl⟩
            have hM2 : MatAt W2 w.heap.size g 0 s b f c (upd D x y l) := by rw [← hW2]; exact (HM1.out.put hx hy).keep (below_drewT _)
            have hb2 : Below w.heap.size w W2 := by rw [← hW2]; exact below_drew (((HB3.out.trans (HB1.out.mono hbz3))).setCell (p := ⟨b x, f x + y, none⟩) x2 _)
            have hbW : Below w.heap.size wr W2 := by rw [← hW2]; exact below_drew ((HB1.out.mono hbz3).setCell (p := ⟨b x, f x + y, none⟩) x2 _)
            have HM2 := Lib.hid hM2
            have HB2 := Lib.hid hb2
            have u0 := cell_keep hbW hbA g0
            have u1 := cell_keep hbW hb' g1
            have u2 := cell_keep hbW hb' g2
            have u3 := cell_keep hbW hb' g3
            obtain ⟨_, hall2, _⟩ := hM2
            obtain ⟨v1, v2, v3, v4, v5, v6, v7⟩ := hall2 y hy
            have v8 := v6 x hx
            have v9 := v7 (f y + x)
            rw [Nat.zero_add] at v1
            rw [hW2]
            clear hW2 hb2 hbW m0 m1 m2 m3 n1 n8 n9 x1 x8 x9 g0 g1 g2 g3 hall2 v6 v7 v4 v5
            go_wp2_with fail
            go_region
            have HFIN := Lib.hid (And.intro (show MatAt (W2.setCell ⟨b y, f y + x, none⟩ (.int .i64 l)).drew w.heap.size g 0 s b f c (upd (upd D x y l) y x l) from (HM2.out.put hy hx).keep (below_drewT _)) (below_drew (HB2.out.setCell (p := ⟨b y, f y + x, none⟩) v2 (.int .i64 l))))
            clear v1 v2 v3 v8 v9 u0 u1 u2 u3
            go_wp2_with fail
            go_roundw
            case rel => exact ⟨j + 1, _, by omega, by go_num, Lib.hid (HS.out.put (by simpa using hlt) HSJ.out.1 hx hy hl1 hl2 (by rw [HSJ.out.2]; exact .inl hdn)), Lib.hid HFIN.out.1, HFIN.out.2⟩
            case measure => simp [intOf]; omega
          · have hdd : decide (d < 0) = false := decide_eq_false hdn
            by_cases hld : (l : Int) < d
            · have hdl : decide ((l : Int) < d) = true := decide_eq_true hld
              go_wp2_with fail
              go_quiet (fail)
              go_simp
              clear hdd hdl
              obtain ⟨W1, hW1⟩ : ∃ W1, wr.drewN nq = W1 := ⟨_, rfl⟩
              have hb1 : Below wr.heap.size wr W1 := by rw [← hW1]; exact below_drewN (Below.refl _ _) _
              have m0 := cell_keep hb1 (by omega) g0
              have m1 := cell_keep hb1 (by omega) g1
              have m2 := cell_keep hb1 (by omega) g2
              have m3 := cell_keep hb1 (by omega) g3
              have n1 := cell_keep hb1 (by omega) x1
              have n8 := cell_keep hb1 (by omega) x8
              have n9 : W1.frozen? ⟨b x, f x + y, none⟩ = false := by rw [hb1.frozen (p := ⟨b x, f x + y, none⟩) x3]; exact x9
              have HB1 := Lib.hid hb1
              have HM1 := Lib.hid (HM.out.keep hb1)
              have hw1z : wr.heap.size ≤ W1.heap.size := hb1.size
              rw [hW1]
              clear hW1 hb1
              go_wp2_with fail
              go_region
              obtain ⟨W2, hW2⟩ : ∃ W2, (W1.setCell ⟨b x, f x + y, none⟩ (.int .i64 l)).drew = W2 := ⟨_, rfl⟩
              have hM2 : MatAt W2 w.heap.size g 0 s b f c (upd D x y l) := by rw [← hW2]; exact (HM1.out.put hx hy).keep (below_drewT _)
              have hb2 : Below w.heap.size w W2 := by rw [← hW2]; exact below_drew (((HB3.out.trans (HB1.out.mono hbz3))).setCell (p := ⟨b x, f x + y, none⟩) x2 _)
              have hbW : Below w.heap.size wr W2 := by rw [← hW2]; exact below_drew ((HB1.out.mono hbz3).setCell (p := ⟨b x, f x + y, none⟩) x2 _)
              have HM2 := Lib.hid hM2
              have HB2 := Lib.hid hb2
              have u0 := cell_keep hbW hbA g0
              have u1 := cell_keep hbW hb' g1
              have u2 := cell_keep hbW hb' g2
              have u3 := cell_keep hbW hb' g3
              obtain ⟨_, hall2, _⟩ := hM2
              obtain ⟨v1, v2, v3, v4, v5, v6, v7⟩ := hall2 y hy
              have v8 := v6 x hx
              have v9 := v7 (f y + x)
              rw [Nat.zero_add] at v1
              rw [hW2]
              clear hW2 hb2 hbW m0 m1 m2 m3 n1 n8 n9 x1 x8 x9 g0 g1 g2 g3 hall2 v6 v7 v4 v5
              go_wp2_with fail
              go_region
              have HFIN := Lib.hid (And.intro (show MatAt (W2.setCell ⟨b y, f y + x, none⟩ (.int .i64 l)).drew w.heap.size g 0 s b f c (upd (upd D x y l) y x l) from (HM2.out.put hy hx).keep (below_drewT _)) (below_drew (HB2.out.setCell (p := ⟨b y, f y + x, none⟩) v2 (.int .i64 l))))
              clear v1 v2 v3 v8 v9 u0 u1 u2 u3
              go_wp2_with fail
              go_roundw
              case rel => exact ⟨j + 1, _, by omega, by go_num, Lib.hid (HS.out.put (by simpa using hlt) HSJ.out.1 hx hy hl1 hl2 (by rw [HSJ.out.2]; exact .inr hld)), Lib.hid HFIN.out.1, HFIN.out.2⟩
              case measure => simp [intOf]; omega
            · have hdl : decide ((l : Int) < d) = false := decide_eq_false hld
              go_wp2_with fail
              go_quiet (fail)
              go_simp
              go_wp2_with fail
              go_roundw
              case rel => exact ⟨j + 1, D, by omega, by go_num, Lib.hid (HS.out.stay (by simpa using hlt) HSJ.out.1 (by rw [HSJ.out.2]; omega)), Lib.hid (HM.out.keep (below_drewN (Below.refl _ _) _)), below_drewN HB3.out _⟩
              case measure => simp [intOf]; omega
        · have hjj : j = rs.length := by omega
          have HFW := Lib.hid (show Fw s (rs.map st) 0 (bnd 0) (fun _ _ => False) D from Sx.fw (by rw [List.length_map, ← hjj]; exact HS.out))
          subst hjj
          clear HS
          go_wp2_with fail
          go_loopw [12] (fun i wr => ∃ (m : Nat) (D : Nat → Nat → Int), m ≤ s ∧ i = .int .i64 m ∧ Hid (Fw s (rs.map st) m (bnd m) (fun _ _ => False) D) ∧ Hid (MatAt wr w.heap.size g 0 s b f c D) ∧ Below w.heap.size w wr) (fun i _ => s - (intOf i).toNat)
          case atStart => exact ⟨0, D, by omega, rfl, HFW, HM, HB3.out⟩
          case round =>
            obtain ⟨m, D, hm, rfl, HF, HM, hb4⟩ := hrel
            have HB4 := Lib.hid hb4
            have hbz4 := hb4.size
            have hbd := bnd_le (m := m) (by omega)
            clear hb4 HFW HB3 hbz3
            by_cases hlm : m < s
            · go_wp2_with fail
              go_loopw [13] (fun i wr => ∃ (a : Nat) (D : Nat → Nat → Int), a ≤ s ∧ i = .int .i64 a ∧ Hid (Fw s (rs.map st) m (bnd m) (fun i' _ => i' < a) D) ∧ Hid (MatAt wr w.heap.size g 0 s b f c D) ∧ Below w.heap.size w wr) (fun i _ => s - (intOf i).toNat)
              case atStart => exact ⟨0, D, by omega, rfl, Lib.hid (HF.out.less fun _ _ _ _ h => by omega), HM, HB4.out⟩
              case round =>
                obtain ⟨a, D, ha, rfl, HF, HM, hb5⟩ := hrel
                have HB5 := Lib.hid hb5
                have hbz5 := hb5.size
                clear hb5 HB4 hbz4
                by_cases hla : a < s
                · go_wp2_with fail
                  go_loopw [14] (fun i wr => ∃ (e : Nat) (D : Nat → Nat → Int), e ≤ s ∧ i = .int .i64 e ∧ Hid (Fw s (rs.map st) m (bnd m) (fun i' k' => i' < a ∨ (i' = a ∧ k' < e)) D) ∧ Hid (MatAt wr w.heap.size g 0 s b f c D) ∧ Below w.heap.size w wr) (fun i _ => s - (intOf i).toNat)
                  case atStart => exact ⟨0, D, by omega, rfl, Lib.hid (HF.out.less fun _ _ _ _ h => by omega), HM, HB5.out⟩
                  case round =>
                    obtain ⟨e, D, he, rfl, HF, HM, hb6⟩ := hrel
                    have HB6 := Lib.hid hb6
                    have hbz6 := hb6.size
                    clear hb6 HB5 hbz5
                    by_cases hle : e < s
                    · obtain ⟨⟨_, hgl, _⟩, hall, _⟩ := HM.out
                      obtain ⟨x1, x2, x3, x4, x5, x6, x7⟩ := hall a hla
                      obtain ⟨y1, y2, y3, y4, y5, y6, y7⟩ := hall m hlm
                      have x8 := x6 m hlm
                      have x9 := x6 e hle
                      have xf := x7 (f a + e)
                      have y8 := y6 e hle
                      obtain ⟨pa1, _, _, _, _, pa6⟩ := HF.out a m hla hlm
                      obtain ⟨qa1, _, _, _, _, qa6⟩ := HF.out m e hlm hle
                      obtain ⟨ra1, _, _, _, ra5, _⟩ := HF.out a e hla hle
                      have pa7 := pa6 (.inr rfl)
                      have qa7 := qa6 (.inl rfl)
                      obtain ⟨p, hp⟩ : ∃ p, D a m = p := ⟨_, rfl⟩
                      obtain ⟨q, hq⟩ : ∃ q, D m e = q := ⟨_, rfl⟩
                      obtain ⟨r, hrr⟩ : ∃ r, D a e = r := ⟨_, rfl⟩
                      have HC := Lib.hid (show FwC D m a e ↔ 0 ≤ p ∧ 0 ≤ q ∧ (r < 0 ∨ p + q < r) by unfold FwC; rw [hp, hq, hrr])
                      have HPQ := Lib.hid (And.intro hp (And.intro hq hrr))
                      rw [hp] at x8 pa1 pa7
                      rw [hq] at y8 qa1 qa7
                      rw [hrr] at x9 ra1 ra5
                      rw [Nat.zero_add] at x1 y1
                      have i1 : (0 : Int) ≤ a := by omega
                      have i2 : (a : Int) < s := by omega
                      have i3 : (0 : Int) ≤ m := by omega
                      have i4 : (m : Int) < s := by omega
                      have i5 : (0 : Int) ≤ e := by omega
                      have i6 : (e : Int) < s := by omega
                      have hw : IntKind.i64.wrap (p + q) = p + q := IntWalk.i64_in _ (by omega)
                      have hstep : ∀ i' k', (i' < a ∨ (i' = a ∧ k' < e + 1)) → (i' < a ∨ (i' = a ∧ k' < e)) ∨ (i' = a ∧ k' = e) := fun i' k' h => by omega
                      have HST := Lib.hid hstep
                      clear hall x4 x5 x6 x7 y4 y5 y6 y7 pa6 qa6 hp hq hrr hstep
                      by_cases hp0 : 0 ≤ p
                      · by_cases hq0 : 0 ≤ q
                        · by_cases hr0 : r < 0
                          · have a1 : decide (0 ≤ p) = true := by simp; omega
                            have a2 : decide (0 ≤ q) = true := by simp; omega
                            have a3 : decide (r < 0) = true := by simp; omega
                            go_wp2_with fail
                            go_quiet (fail)
                            go_simp
                            clear a1 a2 a3
                            obtain ⟨W1, hW1⟩ : ∃ W1, wr.drewN nq = W1 := ⟨_, rfl⟩
                            have hb1 : Below wr.heap.size wr W1 := by rw [← hW1]; exact below_drewN (Below.refl _ _) _
                            have m1 := cell_keep hb1 hgl x1
                            have m2 := cell_keep hb1 hgl y1
                            have m3 := cell_keep hb1 x3 x8
                            have m4 := cell_keep hb1 x3 x9
                            have m5 := cell_keep hb1 y3 y8
                            have m6 : W1.frozen? ⟨b a, f a + e, none⟩ = false := by rw [hb1.frozen (p := ⟨b a, f a + e, none⟩) x3]; exact xf
                            have HFIN := Lib.hid (And.intro (show MatAt (W1.setCell ⟨b a, f a + e, none⟩ (.int .i64 (p + q))).drew w.heap.size g 0 s b f c (upd D a e (p + q)) from ((HM.out.keep hb1).put hla hle).keep (below_drewT _)) (below_drew ((HB6.out.trans (hb1.mono hbz6)).setCell (p := ⟨b a, f a + e, none⟩) x2 (.int .i64 (p + q)))))
                            have HPU := Lib.hid (show Fw s (rs.map st) m (bnd m) (fun i' k' => i' < a ∨ (i' = a ∧ k' < e + 1)) (upd D a e (p + q)) by rw [← HPQ.out.1, ← HPQ.out.2.1]; exact HF.out.put hlm hla hle (HC.out.2 (by omega)) HST.out)
                            rw [hW1]
                            clear hW1 hb1 x1 x2 x3 x8 x9 xf y1 y2 y3 y8
                            go_wp2_with fail
                            go_region
                            clear hw m1 m2 m3 m4 m5 m6
                            go_wp2_with fail
                            go_roundw
                            case rel => exact ⟨e + 1, _, by omega, by go_num, Lib.hid HPU.out, Lib.hid HFIN.out.1, HFIN.out.2⟩
                            case measure => simp [intOf]; omega
                          · by_cases hs0 : p + q < r
                            · have a1 : decide (0 ≤ p) = true := by simp; omega
                              have a2 : decide (0 ≤ q) = true := by simp; omega
                              have a3 : decide (r < 0) = false := by simp; omega
                              have a4 : decide (p + q < r) = true := by simp; omega
                              go_wp2_with fail
                              go_quiet (fail)
                              go_simp
                              clear a1 a2 a3 a4
                              obtain ⟨W1, hW1⟩ : ∃ W1, wr.drewN nq = W1 := ⟨_, rfl⟩
                              have hb1 : Below wr.heap.size wr W1 := by rw [← hW1]; exact below_drewN (Below.refl _ _) _
                              have m1 := cell_keep hb1 hgl x1
                              have m2 := cell_keep hb1 hgl y1
                              have m3 := cell_keep hb1 x3 x8
                              have m4 := cell_keep hb1 x3 x9
                              have m5 := cell_keep hb1 y3 y8
                              have m6 : W1.frozen? ⟨b a, f a + e, none⟩ = false := by rw [hb1.frozen (p := ⟨b a, f a + e, none⟩) x3]; exact xf
                              have HFIN := Lib.hid (And.intro (show MatAt (W1.setCell ⟨b a, f a + e, none⟩ (.int .i64 (p + q))).drew w.heap.size g 0 s b f c (upd D a e (p + q)) from ((HM.out.keep hb1).put hla hle).keep (below_drewT _)) (below_drew ((HB6.out.trans (hb1.mono hbz6)).setCell (p := ⟨b a, f a + e, none⟩) x2 (.int .i64 (p + q)))))
                              have HPU := Lib.hid (show Fw s (rs.map st) m (bnd m) (fun i' k' => i' < a ∨ (i' = a ∧ k' < e + 1)) (upd D a e (p + q)) by rw [← HPQ.out.1, ← HPQ.out.2.1]; exact HF.out.put hlm hla hle (HC.out.2 (by omega)) HST.out)
                              rw [hW1]
                              clear hW1 hb1 x1 x2 x3 x8 x9 xf y1 y2 y3 y8
                              go_wp2_with fail
                              go_region
                              clear hw m1 m2 m3 m4 m5 m6
                              go_wp2_with fail
                              go_roundw
                              case rel => exact ⟨e + 1, _, by omega, by go_num, Lib.hid HPU.out, Lib.hid HFIN.out.1, HFIN.out.2⟩
                              case measure => simp [intOf]; omega
                            · have a1 : decide (0 ≤ p) = true := by simp; omega
                              have a2 : decide (0 ≤ q) = true := by simp; omega
                              have a3 : decide (r < 0) = false := by simp; omega
                              have a4 : decide (p + q < r) = false := by simp; omega
                              go_wp2_with fail
                              go_quiet (fail)
                              go_simp
                              clear a1 a2 a3 a4 hw
                              go_wp2_with fail
                              go_roundw
                              case rel => exact ⟨e + 1, D, by omega, by go_num, Lib.hid (HF.out.stay hlm hla hle (fun h => by have := HC.out.1 h; omega) HST.out), Lib.hid (HM.out.keep (below_drewN (Below.refl _ _) _)), below_drewN HB6.out _⟩
                              case measure => simp [intOf]; omega
                        · have a1 : decide (0 ≤ p) = true := by simp; omega
                          have a2 : decide (0 ≤ q) = false := by simp; omega
                          go_wp2_with fail
                          go_quiet (fail)
                          go_simp
                          clear a1 a2 hw
                          go_wp2_with fail
                          go_roundw
                          case rel => exact ⟨e + 1, D, by omega, by go_num, Lib.hid (HF.out.stay hlm hla hle (fun h => by have := HC.out.1 h; omega) HST.out), Lib.hid (HM.out.keep (below_drewN (Below.refl _ _) _)), below_drewN HB6.out _⟩
                          case measure => simp [intOf]; omega
                      · have a1 : decide (0 ≤ p) = false := by simp; omega
                        go_wp2_with fail
                        go_quiet (fail)
                        go_simp
                        clear a1 hw
                        go_wp2_with fail
                        go_roundw
                        case rel => exact ⟨e + 1, D, by omega, by go_num, Lib.hid (HF.out.stay hlm hla hle (fun h => by have := HC.out.1 h; omega) HST.out), Lib.hid (HM.out.keep (below_drewN (Below.refl _ _) _)), below_drewN HB6.out _⟩
                        case measure => simp [intOf]; omega
                    · have hee : e = s := by omega
                      subst hee
                      go_wp2_with fail
                      go_roundw
                      case rel => exact ⟨a + 1, D, by omega, by go_num, Lib.hid (HF.out.less fun _ _ _ h2 h => by omega), HM, HB6.out⟩
                      case measure => simp [intOf]; omega
                · have haa : a = s := by omega
                  subst haa
                  have HN := Lib.hid (show Fw a (rs.map st) (m + 1) (bnd (m + 1)) (fun _ _ => False) D by rw [bnd_next]; exact HF.out.next (fun i k hi _ => hi))
                  go_wp2_with fail
                  go_roundw
                  case rel => exact ⟨m + 1, D, by omega, by go_num, HN, HM, HB5.out⟩
                  case measure => simp [intOf]; omega
            · have hmm : m = s := by omega
              subst hmm
              have HD := Lib.hid HF.out.done
              have HG := Lib.hid HM.out.mgrid
              go_wp2_with fail
              go_ret
              exact ⟨D, HD.out, some ⟨g, 0, none⟩, cH, by rw [mat_len]; rfl, by rw [mat_len]; exact HCAP.out, HG.out, HB4.out⟩
end Go.Proofs.Ytjklnknlifpidaa
