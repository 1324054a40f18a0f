/- Calls that are tried: impl.CallsTried. No condition. -/
import Derived.Test.YtonnffilcmlodaaVx1
import Derived.Test.YtonnffilcmlodaaVg
namespace Go.Proofs.Ytonnffilcmlodaa
open Go.RowKit

set_option maxRecDepth 100000 in
theorem notAll_any (bp : Nat) (x all : Int) (w : World) (hbp : w.cell? ⟨bp, 0, none⟩ = some (.int .i64 all)) :
    Calls Try.prog 64 #[.int .i64 x, .pointer (some ⟨bp, 0, none⟩)] w fun e w' => e = .returned (.bool (x != all)) ∧ w' = w := by
  go_enter Try.func64, Try.ntmps64
  go_wp2
  go_ret
  exact ⟨rfl, rfl⟩

set_option maxRecDepth 100000 in
set_option maxHeartbeats 2000000 in
theorem indexNot_any (bp : Nat) (B : Option Addr) (cB : Nat) (all : Int) (V : List Int) (BB : Nat) (w : World) (hbp : w.cell? ⟨bp, 0, none⟩ = some (.int .i64 all)) (hV : Ints w BB B V) (hl : V.length ≤ 1000) :
    Calls Try.prog 66 #[.slice B V.length cB, .func (Fn.func 64) #[] #[.pointer (some ⟨bp, 0, none⟩)]] w fun e w' => (∃ i : Int, e = .returned (.int .i64 i) ∧ decide (0 ≤ i) = !V.all (fun z => z == all)) ∧ w = w' := by
  go_enter Try.func66, Try.ntmps66
  go_wp2
  go_loop [8] (fun i => ∃ k : Nat, k ≤ V.length ∧ i = .int .i64 k ∧ Hid ((V.take k).all (fun z => z == all) = true)) (fun i => V.length - (intOf i).toNat)
  case atStart => exact ⟨0, by omega, rfl, Lib.hid (by simp)⟩
  case round =>
    obtain ⟨k, hk, rfl, HN⟩ := hrel
    by_cases hlt : k < V.length
    · obtain ⟨b, o, rfl, hb, hc⟩ := hV.open (by simp; omega)
      have hcell := ints_at hc hlt
      have HT := Lib.hid (all_take (p := fun z : Int => z == all) hlt)
      have HNO := Lib.hid (fun h => all_no (p := fun z : Int => z == all) hlt h)
      have hkI : (k : Int) < V.length := by omega
      obtain ⟨z, hz⟩ : ∃ z, V[k] = z := ⟨_, rfl⟩
      rw [hz] at hcell HT HNO
      have HC := Lib.hid (notAll_any bp z all w hbp)
      clear hc hz
      by_cases hzn : z = all
      · have hb1 : (z != all) = false := by simp [hzn]
        rw [hb1] at HC
        have HNN := Lib.hid (show (V.take (k + 1)).all (fun z => z == all) = true by rw [HT.out, HN.out]; simp [hzn])
        clear hzn hb1
        go_wp2_with (go_at_call 64; (with_reducible refine HC.out.mono ?_); rintro e w' ⟨rfl, rfl⟩)
        go_round
        case rel => exact ⟨k + 1, by omega, by go_num, HNN⟩
        case measure => simp [intOf]; omega
      · have hb1 : (z != all) = true := by simp [hzn]
        rw [hb1] at HC
        have HF := Lib.hid (show decide ((0 : Int) ≤ (k : Int)) = !V.all (fun z => z == all) by rw [HNO.out (by simp [hzn]), decide_eq_true (by omega)]; rfl)
        clear hzn hb1
        go_wp2_with (go_at_call 64; (with_reducible refine HC.out.mono ?_); rintro e w' ⟨rfl, rfl⟩)
        go_ret
        exact ⟨⟨_, rfl, HF.out⟩, rfl⟩
    · have hkn : k = V.length := by omega
      subst hkn
      have HF := Lib.hid (show decide ((0 : Int) ≤ -1) = !V.all (fun z => z == all) by have := HN.out; rw [List.take_length] at this; rw [this]; rfl)
      go_wp2
      go_ret
      exact ⟨⟨-1, rfl, HF.out⟩, rfl⟩
set_option maxRecDepth 100000 in
theorem containsNot_any (bp : Nat) (B : Option Addr) (cB : Nat) (all : Int) (V : List Int) (BB : Nat) (w : World) (hbp : w.cell? ⟨bp, 0, none⟩ = some (.int .i64 all)) (hV : Ints w BB B V) (hl : V.length ≤ 1000) :
    Calls Try.prog 63 #[.slice B V.length cB, .func (Fn.func 64) #[] #[.pointer (some ⟨bp, 0, none⟩)]] w fun e w' => e = .returned (.bool (!V.all (fun z => z == all))) ∧ w = w' := by
  have HI := Lib.hid (indexNot_any bp B cB all V BB w hbp hV hl)
  go_enter Try.func63, Try.ntmps63
  go_wp2_with (go_at_call 66; refine HI.out.mono ?_; rintro e w' ⟨⟨i, rfl, hi⟩, rfl⟩; have HII := Lib.hid hi; clear hi)
  go_ret
  exact ⟨ret_bool HII.out, rfl⟩

set_option maxRecDepth 100000 in
set_option maxHeartbeats 2000000 in
theorem allKnow_any (A : Option Addr) (c : Nat) (r : List Int) (w : World) (hr : Ints w w.heap.size A r) (h7 : r.length ≤ 7) :
    Calls Try.prog 54 #[.slice A r.length c] w fun e w' => e = .returned (.bool (allB r)) ∧ Below w.heap.size w w' := by
  have e1 := shlC (show r.length < 63 by omega)
  have hpw : 2 ^ r.length ≤ 2 ^ 7 := Nat.pow_le_pow_right (by omega) h7
  have hp1 := Nat.two_pow_pos r.length
  have HAN := Lib.hid (show allN r.length = (2 : Int) ^ r.length - 1 by unfold allN; rw [Int.ofNat_sub (by omega)]; simp)
  obtain ⟨P, hP⟩ : ∃ P : Int, (2 : Int) ^ r.length = P := ⟨_, rfl⟩
  have hPb : 1 ≤ P ∧ P ≤ 128 := by
    have : (2 : Int) ^ r.length = ((2 ^ r.length : Nat) : Int) := by simp
    omega
  obtain ⟨hP1, hP2⟩ := hPb
  rw [hP] at HAN e1
  have hsub : IntKind.i64.wrap (P - 1) = P - 1 := IntWalk.i64_in _ (by omega)
  have hb1 : Below w.heap.size w (w.alloc (.cells #[.int .i64 (P - 1)] 3)) := (Below.refl _ _).alloc (Nat.le_refl _) _
  have hbp : (w.alloc (.cells #[.int .i64 (P - 1)] 3)).cell? ⟨w.heap.size, 0, none⟩ = some (.int .i64 (P - 1)) := by
    rw [World.cell?_alloc_at _ _ _ _ rfl]; rfl
  have HC := Lib.hid (containsNot_any w.heap.size A c (P - 1) r _ _ hbp ((hr.below hb1).more hb1.size) (by omega))
  have HV := Lib.hid (show allB r = r.all (fun z => z == P - 1) by unfold allB; rw [HAN.out])
  have HB1 := Lib.hid hb1
  rw [HV.out]
  obtain ⟨q, hq⟩ : ∃ q, r.all (fun z => z == P - 1) = q := ⟨_, rfl⟩
  rw [hq] at HC ⊢
  have hP' := Lib.hid hP
  clear hpw hp1 hb1 hbp hq HAN hr
  go_enter Try.func54, Try.ntmps54
  go_wp2_with (go_at_call 63; refine HC.out.mono ?_; rintro e w' ⟨rfl, rfl⟩)
  go_ret
  exact ⟨by simp, HB1.out⟩

set_option maxRecDepth 100000 in
set_option maxHeartbeats 4000000 in
theorem indexAll_any (A : Option Addr) (c0 n : Nat) (rs : List (List Int)) (w : World) (hr : Grid w 0 w.heap.size A rs) (hl : rs.length ≤ 1000000) (hall : ∀ r ∈ rs, Sets n r) (h7 : n ≤ 7) :
    Calls Try.prog 62 #[.slice A rs.length c0, .func (Fn.func 54) #[] #[]] w fun e w' => (∃ i : Int, e = .returned (.int .i64 i) ∧ decide (0 ≤ i) = rs.any allB) ∧ Below w.heap.size w w' := by
  have HA := Lib.hid hall
  have HR := Lib.hid hr
  clear hall hr
  go_enter Try.func62, Try.ntmps62
  go_wp2
  go_loopw [8] (fun i wr => ∃ k : Nat, k ≤ rs.length ∧ i = .int .i64 k ∧ Hid ((rs.take k).any allB = false) ∧ Below w.heap.size w wr) (fun i _ => rs.length - (intOf i).toNat)
  case atStart => exact ⟨0, by omega, rfl, Lib.hid (by simp), Below.refl _ _⟩
  case round =>
    obtain ⟨k, hk, rfl, HN, hbr⟩ := hrel
    have HBR := Lib.hid hbr
    have hbz := hbr.size
    by_cases hlt : k < rs.length
    · obtain ⟨b, o, R, cR, rfl, hb, hcell, hcR, hrow⟩ := ((HR.out.below hbr).more hbz).open hlt
      have hrk := HA.out _ (List.getElem_mem hlt)
      have HT := Lib.hid (show (rs.take (k + 1)).any allB = ((rs.take k).any allB || allB rs[k]) by rw [List.take_succ_eq_append_getElem hlt, List.any_append]; simp)
      have HM := Lib.hid (fun (h : allB rs[k] = true) => show rs.any allB = true from List.any_eq_true.2 ⟨rs[k], List.getElem_mem hlt, h⟩)
      obtain ⟨r, hre⟩ : ∃ r, rs[k] = r := ⟨_, rfl⟩
      rw [hre] at hcell hrow HT HM hrk
      have HK := Lib.hid (allKnow_any R cR r wr hrow (by have := hrk.1; omega))
      have hln := hrk.1
      have hl1 : r.length ≤ 1000 := by omega
      have hkI : (k : Int) < rs.length := by omega
      have hk0 : (0 : Int) ≤ (k : Int) := by omega
      obtain ⟨q, hq⟩ : ∃ q, allB r = q := ⟨_, rfl⟩
      rw [hq] at HK HT HM
      clear hre hq hrk hln hrow hbr hcR
      cases q with
      | true =>
        have HF := Lib.hid (show decide ((0 : Int) ≤ (k : Int)) = rs.any allB by rw [decide_eq_true hk0, HM.out rfl])
        go_wp2_with (go_at_call 54; refine HK.out.mono ?_; rintro e w' ⟨rfl, hb5⟩)
        go_ret
        exact ⟨⟨_, rfl, HF.out⟩, HBR.out.trans (hb5.mono hbz)⟩
      | false =>
        have HNN := Lib.hid (show (rs.take (k + 1)).any allB = false by rw [HT.out, HN.out]; rfl)
        go_wp2_with (go_at_call 54; refine HK.out.mono ?_; rintro e w' ⟨rfl, hb5⟩; have HB5 := Lib.hid hb5; clear hb5)
        go_roundw
        case rel => exact ⟨k + 1, by omega, by go_num, HNN, HBR.out.trans (HB5.out.mono hbz)⟩
        case measure => simp [intOf]; omega
    · have hkn : k = rs.length := by omega
      have HF := Lib.hid (show decide ((0 : Int) ≤ (-1 : Int)) = rs.any allB by
        have := HN.out
        rw [hkn, List.take_length] at this
        rw [this]; rfl)
      clear hkn HN hbr
      go_wp2
      go_ret
      exact ⟨⟨-1, rfl, HF.out⟩, HBR.out⟩
set_option maxRecDepth 100000 in
theorem containsAll_any (A : Option Addr) (c0 n : Nat) (rs : List (List Int)) (w : World) (hr : Grid w 0 w.heap.size A rs) (hl : rs.length ≤ 1000000) (hall : ∀ r ∈ rs, Sets n r) (h7 : n ≤ 7) :
    Calls Try.prog 53 #[.slice A rs.length c0, .func (Fn.func 54) #[] #[]] w fun e w' => e = .returned (.bool (rs.any allB)) ∧ Below w.heap.size w w' := by
  have HI := Lib.hid (indexAll_any A c0 n rs w hr hl hall h7)
  clear hall hr
  go_enter Try.func53, Try.ntmps53
  go_wp2_with (go_at_call 62; refine HI.out.mono ?_; rintro e w' ⟨⟨i, rfl, hi⟩, hb⟩; have HII := Lib.hid hi; have HB := Lib.hid hb; clear hi hb)
  go_ret
  exact ⟨ret_bool HII.out, HB.out⟩

/-- The answer of CallsTried. -/
def triI (n : Int) : Int := if inR n 1 4 then (fewC n.toNat : Int) else -1
theorem triI_no {n : Int} (h : inR n 1 4 = false) : triI n = -1 := by rw [triI, if_neg (by simp [h])]
theorem triI_yes {n : Nat} (h : inR n 1 4 = true) : triI n = (fewC n : Int) := by rw [triI, if_pos h]; rfl

set_option maxRecDepth 100000 in
set_option maxHeartbeats 4000000 in
theorem impTriedC_any (n : Int) (w : World) :
    Calls Try.prog 30 #[.int .i64 n] w fun e w' => e = .returned (.int .i64 (triI n)) ∧ Below w.heap.size w w' := by
  by_cases h : inR n 1 4 = true
  · obtain ⟨m, rfl⟩ : ∃ m : Nat, n = m := ⟨n.toNat, by have := inR_iff.1 h; omega⟩
    have hb := inR_iff.1 h
    have h1 : 1 ≤ m := by omega
    have h4 : m ≤ 4 := by omega
    have HF := Lib.hid (triI_yes h)
    rw [HF.out]
    obtain ⟨f1, f2, f3⟩ := lvI_facts ⟨m, by omega⟩ h1
    have HT1 := Lib.hid (fun t (ht : t < fewC m) => show (lvI m t).any allB = false from f1 ⟨t, by have : fewC m ≤ 4 := (by rcases (show m = 1 ∨ m = 2 ∨ m = 3 ∨ m = 4 by omega) with rfl | rfl | rfl | rfl <;> decide); omega⟩ ht)
    have HT2 := Lib.hid (show (lvI m (fewC m)).any allB = true from f2)
    have hf4 : fewC m ≤ 4 := by rcases (show m = 1 ∨ m = 2 ∨ m = 3 ∨ m = 4 by omega) with rfl | rfl | rfl | rfl <;> decide
    have HT3 := Lib.hid (fun t (ht : t ≤ fewC m) => show (lvI m t).length ≤ 1296 from f3 ⟨t, by omega⟩ ht)
    have HSE := Lib.hid (fun t => lvI_sets m t)
    have HON := Lib.hid (fun X => ownNews_any m X (by omega) h1)
    obtain ⟨T, hT⟩ : ∃ T, fewC m = T := ⟨_, rfl⟩
    rw [hT] at HT1 HT2 HT3 hf4 ⊢
    have hd1 : decide ((m : Int) < 1) = false := decide_eq_false (by omega)
    have hd2 : decide ((4 : Int) < (m : Int)) = false := decide_eq_false (by omega)
    have hd3 : decide (4 < m) = false := decide_eq_false (by omega)
    have hd4 : decide (m < 1) = false := decide_eq_false (by omega)
    clear h hb f1 f2 f3 hT
    go_enter Try.func30, Try.ntmps30
    go_wp2_with fail
    refine (HON.out _).mono ?_
    rintro e w1 ⟨c1, g1, rfl, ho1, hb1⟩
    have hg1 := (ho1.lt g1 rfl).1
    have hln := (own0_sets m).1
    have hcap := own_cap ho1
    have hri : OwnInts w1 w.heap.size w1.heap.size (some ⟨g1, 0, none⟩) (own0 m) := own_of_rowS (by decide) ho1
    have hfi := Built.first hri (show (own0 m).length ≤ c1 by rw [hln]; exact hcap) hb1.size
    rw [hln] at hfi
    have HST := Lib.hid (show Built (w1.alloc (.cells #[.slice (some ⟨g1, 0, none⟩) m c1] 28)) w.heap.size (some ⟨w1.heap.size, 0, none⟩) 1 [.slice (some ⟨g1, 0, none⟩) m c1] (lvI m 0) from hfi)
    have HB1 := Lib.hid (hb1.alloc hb1.size (.cells #[.slice (some ⟨g1, 0, none⟩) m c1] 28))
    clear ho1 hb1 hri hfi hln hcap hd1 hd2 hd3 hd4
    go_wp2
    go_loopw [3, 4] (fun i v wr => ∃ (t : Nat) (H : Option Addr) (c : Nat) (hs : List Value), t ≤ T ∧ i = .int .i64 t ∧ v = .slice H (lvI m t).length c ∧ Grid wr 0 wr.heap.size H (lvI m t) ∧ Below w.heap.size w wr) (fun i _ _ => T - (intOf i).toNat)
    case atStart => exact ⟨0, _, _, [], by omega, rfl, rfl, HST.out.mgrid.row, HB1.out⟩
    case round =>
      obtain ⟨t, H, c, hs, ht, rfl, rfl, hgr, hbr⟩ := hrel
      clear HST HB1
      have HBR := Lib.hid hbr
      have hbz := hbr.size
      have hl1 := HT3.out t ht
      have HCA := Lib.hid (containsAll_any H c m (lvI m t) wr hgr (by omega) (HSE.out t) (by omega))
      have HG := Lib.hid hgr
      clear hgr hbr
      by_cases hlt : t < T
      · rw [HT1.out t hlt] at HCA
        have hl2 := HT3.out (t + 1) (by omega)
        have HBE := Lib.hid (fun X (hX : Below wr.heap.size wr X) => behind_any H c m (lvI m t) X ((HG.out.below hX).more hX.size) h1 (by omega) (HSE.out t) (by omega) (by have : (behindL (lvI m t)).length ≤ 1296 := hl2; omega))
        have HLV := Lib.hid (show behindL (lvI m t) = lvI m (t + 1) from rfl)
        rw [HLV.out] at HBE
        clear hl2
        go_wp2_with fail
        refine HCA.out.mono ?_
        rintro e w2 ⟨rfl, hb2⟩
        have HB2 := Lib.hid hb2
        clear hb2
        go_wp2_with fail
        refine (HBE.out _ HB2.out).mono ?_
        rintro e w3 ⟨H3, c3, hs3, rfl, hbu3, hb3⟩
        have HF3 := Lib.hid (And.intro hbu3.mgrid.row (HBR.out.trans ((HB2.out.trans (hb3.mono HB2.out.size)).mono hbz)))
        clear hbu3 hb3
        go_wp2
        go_roundw
        case rel => exact ⟨t + 1, H3, c3, hs3, by omega, by go_num, rfl, HF3.out.1, HF3.out.2⟩
        case measure => simp [intOf]; omega
      · have hte : t = T := by omega
        subst hte
        rw [HT2.out] at HCA
        go_wp2_with fail
        refine HCA.out.mono ?_
        rintro e w2 ⟨rfl, hb2⟩
        go_wp2
        go_ret
        exact ⟨rfl, HBR.out.trans (hb2.mono hbz)⟩
  · have h' : inR n 1 4 = false := by simpa using h
    have HF := Lib.hid (triI_no h')
    rw [HF.out]
    by_cases hn1 : n < 1
    · have hd1 : decide (n < 1) = true := decide_eq_true hn1
      clear h h'
      go_enter Try.func30, Try.ntmps30
      go_wp2
      go_ret
      exact ⟨rfl, Below.refl _ _⟩
    · have hd1 : decide (n < 1) = false := decide_eq_false hn1
      have hd2 : decide (4 < n) = true := decide_eq_true (by simp [inR] at h'; omega)
      clear h h'
      go_enter Try.func30, Try.ntmps30
      go_wp2
      go_ret
      exact ⟨rfl, Below.refl _ _⟩
end Go.Proofs.Ytonnffilcmlodaa
