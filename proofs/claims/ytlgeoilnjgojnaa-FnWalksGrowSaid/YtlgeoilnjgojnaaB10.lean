/- BestWalk, spec. No condition. -/
import Derived.Test.YtlgeoilnjgojnaaB9
import Derived.Test.YtlgeoilnjgojnaaH9
import Derived.Test.YtlgeoilnjgojnaaBm
import Derived.Deep.RegionHeld3
namespace Go.Proofs.Ytlgeoilnjgojnaa
open Go.RowKit

theorem ownsRow_keep {w w' : World} {base : Nat} {e : TypeId} {size n : Nat} {v : Value} {xs : List Value} (h : w.ownsRow base e size v n xs) (hb : Below w.heap.size w w') : w'.ownsRow base e size v n xs := by
  refine h.kept (row := none) (grown_of_below hb) ?_
  by_cases hn : v.ownBlock = none
  · exact .inl hn
  · exact .inr hn
theorem own_row_cells {w : World} {base n c : Nat} {A : Option Addr} {xs : List Int} (h : w.ownsRow base 3 1 (.slice A n c) n (xs.map (Value.int .i64))) : OwnInts w base w.heap.size A xs := by
  obtain ⟨A', c', hv, _, ho⟩ := own_of_row h
  simp only [Value.slice.injEq] at hv
  obtain ⟨rfl, _, _⟩ := hv
  exact ho
theorem below_drew {B : Nat} {a w : World} (h : Below B a w) : Below B a w.drew := ⟨h.os, h.tape, h.output, h.size, h.block⟩
theorem getD_last (r : List Int) (y : Int) (i : Nat) (h : r.length = i) : (r ++ [y]).getD i 0 = y := by subst h; simp [List.getD]
theorem getD_first (r : List Int) (y : Int) (i j : Nat) (h : r.length = i) (hj : j < i) : (r ++ [y]).getD j 0 = r.getD j 0 := by subst h; simp [List.getD, List.getElem?_append_left hj]

set_option maxRecDepth 100000 in
set_option maxHeartbeats 8000000 in
theorem specBest_yes (A : Option Addr) (c : Nat) (rs : List (List Int)) (x : Int) (w : World) (hr : Grid w 0 w.heap.size A rs) (hl : rs.length ≤ 1000000000) (hs : ∀ r ∈ rs, r.length ≤ 1000000000) (hB : housesB rs = true) (hC : inR x 0 20 = true) :
    Calls Try.prog 13 #[.slice A rs.length c, .int .i64 x] w fun e w' => e = .returned (.int .i64 (leastV rs x)) ∧ Below w.heap.size w w' := by
  obtain ⟨i0, hi0, hz0, hz1, hz2⟩ := info_parts Try.infoR
  obtain ⟨i3, hi3, hy0, hy1, hy2⟩ := info_parts Try.info3
  have h := validStreet_any A c rs x w hr hl hs
  rw [hB, hC] at h
  have H := Lib.hid h
  have HV := Lib.hid (leastV_yes (show (housesB rs && inR x 0 20) = true by rw [hB, hC]; rfl))
  have HB := Lib.hid hB
  have hx := inR_iff.1 hC
  have hl6 := house_len hB
  have hin : ∀ a ∈ rs.map hp, inP a := fun a ha => by have := house_mem hB ha; obtain ⟨r, hr, rfl⟩ := List.mem_map.1 ha; obtain ⟨k, hk, rfl⟩ := List.getElem_of_mem hr; obtain ⟨p, s, hps, hb⟩ := house_row hB hk; rw [hps]; exact ⟨by simp [hp]; omega, by simp [hp]; omega⟩
  have HIN := Lib.hid hin
  obtain ⟨N, hN⟩ : ∃ N : Nat, 2 ^ rs.length = N := ⟨_, rfl⟩
  have hN64 : N ≤ 64 := by rw [← hN]; exact Nat.le_trans (Nat.pow_le_pow_right (by omega) (show rs.length ≤ 6 by omega)) (by decide)
  have hpw : ∀ (j : Nat) (X : World), j ≤ 6 → Calls Try.prog 45 #[.int .i64 2, .int .i64 j] X fun e w' => e = .returned (.int .i64 ((2 ^ j : Nat) : Int)) ∧ X = w' := fun j X hj => power_any 2 j X (by omega) (Nat.le_trans (Nat.pow_le_pow_right (by omega) hj) (by decide)) (by omega)
  have hpN := fun X => hpw rs.length X (by omega)
  rw [hN] at hpN
  have HPN := Lib.hid hpN
  have HNN := Lib.hid hN
  have HPW := Lib.hid hpw
  clear h hs hB hC hl hin hpN hpw hN
  go_enter Try.func13, Try.ntmps13
  go_wp2_with (go_at_call 44; ((with_reducible refine H.out.mono ?_); rintro e w' ⟨rfl, rfl⟩))
  go_loopw [6, 7] (fun v i wr => ∃ (s : Nat) (H : Option Addr) (cH : Nat) (hs : List Value) (T : List (List Int)), s ≤ N ∧ i = .int .i64 s ∧ v = .slice H s cH ∧ Hid (T.length = s ∧ Built wr w.heap.size H cH hs T ∧ (∀ s', s' < s → goodRow x (rs.map hp) T s' (rs.map hp).length)) ∧ Below w.heap.size w wr) (fun _ i _ => N - (intOf i).toNat)
  case atStart => exact ⟨0, _, 0, [], [], by omega, rfl, rfl, Lib.hid ⟨rfl, Built.start w _ (Nat.le_refl _), fun s' h => by omega⟩, (Below.refl _ _).alloc (Nat.le_refl _) _⟩
  case round =>
    obtain ⟨s, H, cH, hs, T, hsN, rfl, rfl, HT, hbr⟩ := hrel
    have HBR := Lib.hid hbr
    have hbz := hbr.size
    clear hbr
    by_cases hlt : s < N
    · have hfirst : (wr.alloc (.cells #[] 3)).ownsRow wr.heap.size 3 1 (.slice (some ⟨wr.heap.size, 0, none⟩) 0 0) 0 [] := World.ownsRow_lit wr #[] 0 (Nat.le_refl _) (by simp [maxLen]) rfl
      have HFI := Lib.hid hfirst
      obtain ⟨wA, hwA⟩ : ∃ wA, wr = wA := ⟨_, rfl⟩
      have HBRA := Lib.hid (show Below w.heap.size w wA by rw [← hwA]; exact HBR.out)
      have hbzA : w.heap.size ≤ wA.heap.size := by rw [← hwA]; exact hbz
      have HTA := Lib.hid (show Built wA w.heap.size H cH hs T by rw [← hwA]; exact HT.out.2.1)
      clear hfirst
      go_wp2_with (go_at_call 45; ((with_reducible refine (HPN.out _).mono ?_); rintro e w' ⟨rfl, rfl⟩))
      go_loopw [8, 9] (fun v i wr => ∃ (i' : Nat) (R : Option Addr) (cR : Nat) (r : List Int), i' ≤ rs.length ∧ i = .int .i64 i' ∧ v = .slice R i' cR ∧ Hid (r.length = i' ∧ wr.ownsRow wA.heap.size 3 1 (.slice R i' cR) i' (r.map (Value.int .i64)) ∧ (∀ j, j < i' → s.testBit j = true → LeastTo (fun a b => btw a b x) (0, 0) (hL (rs.map hp)) (s - 2 ^ j) (hL (rs.map hp) j) (r.getD j 0) ∧ r.getD j 0 ≤ 40 * ((s : Int) + 1))) ∧ Below wA.heap.size wA wr) (fun _ i _ => rs.length - (intOf i).toNat)
      case atStart => exact ⟨0, _, 0, [], by omega, rfl, rfl, Lib.hid ⟨rfl, by rw [← hwA]; exact HFI.out, fun j hj => by omega⟩, by rw [← hwA]; exact (Below.refl _ _).alloc (Nat.le_refl _) _⟩
      case round =>
        obtain ⟨i', R, cR, r, hi', rfl, rfl, HR, hbr2⟩ := hrel
        have HBR2 := Lib.hid hbr2
        have hbz2 := hbr2.size
        clear hbr2 HFI
        by_cases hlt2 : i' < rs.length
        · obtain ⟨P, hP⟩ : ∃ P : Nat, 2 ^ i' = P := ⟨_, rfl⟩
          have hP0 : 0 < P := by rw [← hP]; exact Nat.two_pow_pos _
          have hP64 : P ≤ 64 := by rw [← hP]; exact Nat.le_trans (Nat.pow_le_pow_right (by omega) (show i' ≤ 6 by omega)) (by decide)
          have hpi := fun X => HPW.out i' X (by omega)
          rw [hP] at hpi
          have HPI := Lib.hid hpi
          have hq : (s : Int).tdiv (P : Int) = ((s / P : Nat) : Int) := rfl
          have hbq := bitQ s i'
          rw [hP] at hbq
          have HPE := Lib.hid hP
          obtain ⟨q, hqe⟩ : ∃ q, s / P = q := ⟨_, rfl⟩
          rw [hqe] at hq hbq
          have hm : (q : Int).tmod 2 = ((q % 2 : Nat) : Int) := rfl
          have hq64 : q ≤ 64 := by rw [← hqe]; exact Nat.le_trans (Nat.div_le_self _ _) (by omega)
          have hp0 : ((P : Int) == 0) = false := beq_eq_false_iff_ne.2 (by omega)
          have e1 : IntKind.i64.wrap (q : Int) = q := IntWalk.i64_in _ (by omega)
          have e2 : IntKind.i64.wrap ((q % 2 : Nat) : Int) = ((q % 2 : Nat) : Int) := IntWalk.i64_in _ (by omega)
          clear hpi hP hqe
          cases hb : s.testBit i' with
          | false =>
            rw [hb] at hbq
            have HBF := Lib.hid hb
            have hown := HR.out.2.1
            clear hb
            go_wp2_with (first | (go_at_call 45; ((with_reducible refine (HPI.out _).mono ?_); rintro e w' ⟨rfl, rfl⟩)) | (at_builtin; refine wpList_push rfl (.tmp 109) (.tmp 111) 31 rfl i3 (.int .i64 0) 8 Try.underlying31 hi3 hy0 hy1 hy2 rfl (by decide) _ _ rfl hown [.int .i64 (-1)] rfl rfl (by simp [Value.oneCell']) (by omega) (by omega) hbz2 ?_))
            intro R' cR' w6 hown6 hg6
            have HW := Lib.hid (And.intro hown6 (HBR2.out.grown hg6 hbz2 (fun i hi => (hown.lt _ hi).1)))
            clear hown hown6 hg6
            go_wp2_with fail
            go_roundw
            case rel =>
              refine ⟨i' + 1, R', cR', r ++ [-1], by omega, by go_num, rfl, Lib.hid ⟨by rw [List.length_append, HR.out.1]; rfl, by rw [List.map_append]; exact HW.out.1, fun j hj hbj => ?_⟩, HW.out.2⟩
              by_cases e : j = i'
              · rw [e, HBF.out] at hbj; cases hbj
              · have e2 : (r ++ [(-1 : Int)]).getD j 0 = r.getD j 0 := by simp [List.getD, List.getElem?_append_left (show j < r.length by have := HR.out.1; omega)]
                rw [e2]
                exact HR.out.2.2 j (by omega) hbj
            case measure => simp [intOf]; omega
          | true =>
            rw [hb] at hbq
            have HBF := Lib.hid hb
            have hpk := pow_le_of_bit hb
            rw [HPE.out] at hpk
            have e3 : IntKind.i64.wrap ((s : Int) - (P : Int)) = ((s - P : Nat) : Int) := by rw [IntWalk.i64_in _ (by omega)]; omega
            obtain ⟨m, hm2⟩ : ∃ m, s - P = m := ⟨_, rfl⟩
            rw [hm2] at e3
            have HM := Lib.hid hm2
            have hms : m < s := by omega
            clear hb hpk hm2
            have hTl : m < T.length := by have := HT.out.1; omega
            have hgood := HT.out.2.2 m hms
            have hrl : T[m].length = rs.length := by
              have h1 := hgood.1
              rw [List.getD, List.getElem?_eq_getElem hTl] at h1
              simpa using h1
            have hcT : ∀ k, (hk : k < rs.length) → T[m][k]'(by rw [hrl]; exact hk) = cellT T m k := fun k hk => by
              have e : T.getD m [] = T[m] := by simp [List.getD, List.getElem?_eq_getElem hTl]
              unfold cellT
              rw [e]
              simp [List.getD, List.getElem?_eq_getElem (show k < T[m].length by rw [hrl]; exact hk)]
            obtain ⟨bH, oH, RT, cT, hHe, hbH, hcH, _, hoT⟩ := HTA.out.mgrid.row.open hTl
            rw [hrl] at hcH
            obtain ⟨bT, oT, rfl, hbT, hcTT⟩ := hoT.open (by simp; omega)
            have hct : ∀ k, k < rs.length → wA.cell? ⟨bT, oT + k, none⟩ = some (.int .i64 (cellT T m k)) := fun k hk => by rw [← hcT k hk]; exact ints_at hcTT (by rw [hrl]; exact hk)
            obtain ⟨p, q', b, o, b', o', c1, hei, ⟨hpp0, hpp1, hqq0, hqq1⟩, hAe, g, g0, g1, hbB, hb'B⟩ := hr.house HB.out hlt2
            have hiI : (i' : Int) < rs.length := by omega
            have hmI : (m : Int) < s := by omega
            have HCT := Lib.hid hct
            have HCH := Lib.hid (And.intro hcH hbH)
            have HLI := Lib.hid (And.intro g (And.intro g0 g1))
            have hLi : hL (rs.map hp) i' = (p, q') := by
              unfold hL
              rw [List.getD, List.getElem?_map, List.getElem?_eq_getElem hlt2, hei]; rfl
            have HLIE := Lib.hid hLi
            have HGOOD := Lib.hid hgood
            have HOWN := Lib.hid HR.out.2.1
            clear hcT hcTT hoT hrl hcH hct g g0 g1 hLi hei hgood
            subst hHe
            subst hAe
            rename World => wB
            rcases Decidable.em (m = 0) with hm0 | hm0
            case' inl =>
              have hme : ((m : Int) == 0) = true := by rw [hm0]; rfl
              have hzB : Below wB.heap.size wB (wB.alloc (.cells #[.int .i64 0, .int .i64 0] 3)) := (Below.refl _ _).alloc (Nat.le_refl _) _
              have hwz : Below w.heap.size w (wB.alloc (.cells #[.int .i64 0, .int .i64 0] 3)) := HBRA.out.trans ((HBR2.out.trans (hzB.mono hbz2)).mono hbzA)
              have hwr : Below w.heap.size w wB := HBRA.out.trans (HBR2.out.mono hbzA)
              have gi := cell_kept hwz hbB HLI.out.1
              have hbt := between_any wB.heap.size 0 2 b' o' c1 0 0 p q' x (wB.alloc (.cells #[.int .i64 0, .int .i64 0] 3)) (by rw [World.cell?_alloc_at _ _ _ _ rfl]; rfl) (by rw [World.cell?_alloc_at _ _ _ _ rfl]; rfl) (cell_kept hwz hb'B HLI.out.2.1) (cell_kept hwz hb'B HLI.out.2.2) ⟨by omega, by omega⟩ ⟨hpp0, hpp1⟩ hx
              have hd := btw_bd (a := (0, 0)) (b := (p, q')) (x := x) ⟨by simp, by simp⟩ ⟨hpp0, hpp1⟩ hx
              obtain ⟨D, hD⟩ : ∃ D, dst 0 p 0 q' x = D := ⟨_, rfl⟩
              rw [hD] at hbt
              have hM0 : MinAt x (rs.map hp) (cellT T m) m (p, q') 0 D := by
                have := minAt_zero (x := x) (L := rs.map hp) (T := cellT T m) (t := (p, q')) hm0 hd.1 hd.2
                rw [show btw (0, 0) (p, q') x = D from hD] at this; exact this
              have HM0 := Lib.hid hM0
              have HBT := Lib.hid hbt
              have HZB := Lib.hid hzB
              clear hbt hd hD hM0 hzB hwz hwr hm0
              go_wp2_with (first | (go_at_call 45; ((with_reducible refine (HPI.out _).mono ?_); rintro e w' ⟨rfl, rfl⟩)))
              refine HBT.out.mono ?_
              rintro e w2 ⟨rfl, n2, hw2⟩
              have HB2 := Lib.hid (show Below wB.heap.size wB w2 by rw [hw2]; exact below_drewN HZB.out n2)
              clear hw2 gi
              go_wp2
            case' inr =>
              have hme : ((m : Int) == 0) = false := beq_eq_false_iff_ne.2 (by omega)
              have HM0 := Lib.hid (minAt_none (x := x) (L := rs.map hp) (T := cellT T m) (t := (p, q')) hm0)
              have HB2 := Lib.hid (Below.refl wB.heap.size wB)
              go_wp2_with (first | (go_at_call 45; ((with_reducible refine (HPI.out _).mono ?_); rintro e w' ⟨rfl, rfl⟩)))
            all_goals
              go_loopw [10, 12] (fun v i wr3 => ∃ (k : Nat) (y : Int), k ≤ rs.length ∧ i = .int .i64 k ∧ v = .int .i64 y ∧ Hid (MinAt x (rs.map hp) (cellT T m) m (p, q') k y) ∧ Below wB.heap.size wB wr3) (fun _ i _ => rs.length - (intOf i).toNat)
              case atStart => exact ⟨0, _, Nat.zero_le _, rfl, rfl, HM0, by first | exact HB2.out | exact Below.refl _ _⟩
              case round =>
                obtain ⟨k, y, hk, rfl, rfl, HMA, hb3⟩ := hrel
                have HB3 := Lib.hid hb3
                have hbz3 := hb3.size
                clear hb3 HM0
                by_cases hlt3 : k < rs.length
                · obtain ⟨P2, hP2⟩ : ∃ P2 : Nat, 2 ^ k = P2 := ⟨_, rfl⟩
                  have hP20 : 0 < P2 := by rw [← hP2]; exact Nat.two_pow_pos _
                  have hP264 : P2 ≤ 64 := by rw [← hP2]; exact Nat.le_trans (Nat.pow_le_pow_right (by omega) (show k ≤ 6 by omega)) (by decide)
                  have hpk := fun X => HPW.out k X (by omega)
                  rw [hP2] at hpk
                  have HPK := Lib.hid hpk
                  have hqk : (m : Int).tdiv (P2 : Int) = ((m / P2 : Nat) : Int) := rfl
                  have hbk := bitQ m k
                  rw [hP2] at hbk
                  obtain ⟨q2, hq2e⟩ : ∃ q2, m / P2 = q2 := ⟨_, rfl⟩
                  rw [hq2e] at hqk hbk
                  have hmk : (q2 : Int).tmod 2 = ((q2 % 2 : Nat) : Int) := rfl
                  have hq264 : q2 ≤ 64 := by rw [← hq2e]; exact Nat.le_trans (Nat.div_le_self _ _) (by omega)
                  have hpk0 : ((P2 : Int) == 0) = false := beq_eq_false_iff_ne.2 (by omega)
                  have hpk00 : ¬ P2 = 0 := by omega
                  have f1 : IntKind.i64.wrap (q2 : Int) = q2 := IntWalk.i64_in _ (by omega)
                  have f2 : IntKind.i64.wrap ((q2 % 2 : Nat) : Int) = ((q2 % 2 : Nat) : Int) := IntWalk.i64_in _ (by omega)
                  clear hpk hP2 hq2e
                  cases hb4 : m.testBit k with
                  | false =>
                    rw [hb4] at hbk
                    have HBF4 := Lib.hid hb4
                    have hbk1 : ¬ q2 % 2 = 1 := fun h => by rw [h] at hbk; cases hbk
                    have hbk2 : ¬ (q2 : Int) % 2 = 1 := by omega
                    have hbk3 : ((q2 : Int) % 2 == 1) = false := beq_eq_false_iff_ne.2 hbk2
                    have hbk4 : decide ((q2 : Int) % 2 = 1) = false := decide_eq_false hbk2
                    have hbk5 : decide (q2 % 2 = 1) = false := decide_eq_false hbk1
                    clear hb4
                    go_wp2_with fail
                    go_quiet ((go_at_call 45; exact Calls.quiet_of ((HPK.out _).mono fun _ _ ⟨h1, h2⟩ => ⟨h1, 0, h2.symm⟩)))
                    go_simp
                    clear f1 f2 e1 e2 e3
                    go_wp2_with fail
                    go_roundw
                    case rel => exact ⟨k + 1, y, by omega, by go_num, rfl, Lib.hid (HMA.out.skip HBF4.out), below_drewN HB3.out _⟩
                    case measure => simp [intOf]; omega
                  | true =>
                    rw [hb4] at hbk
                    have HBF4 := Lib.hid hb4
                    have hm1 : m ≠ 0 := by intro e; rw [e] at hb4; simp at hb4
                    have hbk1 : q2 % 2 = 1 := by
                      rcases Nat.mod_two_eq_zero_or_one q2 with h | h
                      · rw [h] at hbk; cases hbk
                      · exact h
                    have hbk2 : (q2 : Int) % 2 = 1 := by omega
                    have hbk3 : ((q2 : Int) % 2 == 1) = true := beq_iff_eq.2 hbk2
                    obtain ⟨pk, sk, bx, ox, bk', ok', ck, hek, ⟨hk0, hk1, hk2, hk3⟩, hAx, gk, gk0, gk1, hbx, hbk'⟩ := hr.house HB.out hlt3
                    simp only [Option.some.injEq, Addr.mk.injEq, and_true] at hAx
                    obtain ⟨rfl, rfl⟩ := hAx
                    have hLk : (rs.map hp).getD k (0, 0) = (pk, sk) := by
                      rw [List.getD, List.getElem?_map, List.getElem?_eq_getElem hlt3, hek]; rfl
                    have hgk := HGOOD.out.2 k (by simpa using hlt3) hb4
                    have ht0 := hgk.1.nonneg (fun a b => btw_nn hx.1 a b)
                    have ht1 := hgk.2
                    have hwX : Below w.heap.size w wr := HBRA.out.trans ((HBR2.out.trans (HB3.out.mono hbz2)).mono hbzA)
                    have hAX : Below wA.heap.size wA wr := HBR2.out.trans (HB3.out.mono hbz2)
                    have d1 := cell_kept hAX HCH.out.2 HCH.out.1
                    have d2 := cell_kept hAX hbT (HCT.out k hlt3)
                    have d3 := cell_kept hwX hbB gk
                    have d4 := cell_kept hwX hbB HLI.out.1
                    obtain ⟨t, ht⟩ : ∃ t, cellT T m k = t := ⟨_, rfl⟩
                    rw [ht] at d2 ht0 ht1
                    obtain ⟨D, hD⟩ : ∃ D, dst pk p sk q' x = D := ⟨_, rfl⟩
                    have hd := btw_bd (a := (pk, sk)) (b := (p, q')) (x := x) ⟨hk0, hk1⟩ ⟨hpp0, hpp1⟩ hx
                    rw [show btw (pk, sk) (p, q') x = D from hD] at hd
                    obtain ⟨hD0, hD1⟩ := hd
                    have hbt : ∀ X, Below wr.heap.size wr X → Calls Try.prog 46 #[.slice (some ⟨bk', ok', none⟩) 2 ck, .slice (some ⟨b', o', none⟩) 2 c1, .int .i64 x] X fun e w' => e = .returned (.int .i64 D) ∧ ∃ n, w' = X.drewN n := fun X hX => by
                      have hwX2 : Below w.heap.size w X := hwX.trans (hX.mono hwX.size)
                      rw [← hD]
                      exact between_any _ _ _ _ _ _ pk sk p q' x X (cell_kept hwX2 hbk' gk0) (cell_kept hwX2 hbk' gk1) (cell_kept hwX2 hb'B HLI.out.2.1) (cell_kept hwX2 hb'B HLI.out.2.2) ⟨hk0, hk1⟩ ⟨hpp0, hpp1⟩ hx
                    have HBT2 := Lib.hid hbt
                    have hv : t + D = cellT T m k + btw ((rs.map hp).getD k (0, 0)) (p, q') x := by rw [hLk, ht, ← hD]; rfl
                    have HV2 := Lib.hid hv
                    have ht64 : t ≤ 4000 := by omega
                    have HD01 := Lib.hid (And.intro hD0 (And.intro hD1 (And.intro ht0 ht64)))
                    have hkI : (k : Int) < rs.length := by omega
                    have fs : IntKind.i64.wrap (t + D) = t + D := IntWalk.i64_in _ (by omega)
                    have HAX := Lib.hid hAX
                    clear hb4 hek hLk hgk ht1 hwX hAX ht hD hbt hv gk gk0 gk1
                    by_cases hyn : y < 0
                    · have hdy : decide (y < 0) = true := decide_eq_true hyn
                      go_wp2_with fail
                      go_quiet ((go_at_call 45; exact Calls.quiet_of ((HPK.out _).mono fun _ _ ⟨h1, h2⟩ => ⟨h1, 0, h2.symm⟩)))
                      go_simp
                      clear hdy hbk hbk1 hbk2 hbk3
                      obtain ⟨w4, hw4⟩ : ∃ w4, wr.drewN nq = w4 := ⟨_, rfl⟩
                      have hb34 : Below wr.heap.size wr w4 := by rw [← hw4]; exact below_drewN (Below.refl _ _) _
                      have hbt4 : ∀ X, Below w4.heap.size w4 X → Calls Try.prog 46 #[.slice (some ⟨bk', ok', none⟩) 2 ck, .slice (some ⟨b', o', none⟩) 2 c1, .int .i64 x] X fun e w' => e = .returned (.int .i64 D) ∧ ∃ n, w' = X.drewN n := fun X hX => HBT2.out X (hb34.trans (hX.mono hb34.size))
                      have HB4 := Lib.hid hb34
                      have l1 := cell_kept hb34 (Nat.lt_of_lt_of_le HCH.out.2 HAX.out.size) d1
                      have l2 := cell_kept hb34 (Nat.lt_of_lt_of_le hbT HAX.out.size) d2
                      have l3 := cell_kept hb34 (Nat.lt_of_lt_of_le hbB (Nat.le_trans hbzA HAX.out.size)) d3
                      have l4 := cell_kept hb34 (Nat.lt_of_lt_of_le hbB (Nat.le_trans hbzA HAX.out.size)) d4
                      clear HBT2 hb34 d1 d2 d3 d4
                      have HBT2 := Lib.hid hbt4
                      rw [hw4]
                      clear hw4 hbt4
                      go_wp2_with fail
                      go_quiet ((go_at_call 46; exact Calls.quiet_of (HBT2.out _ (below_drewN (Below.refl _ _) _))))
                      go_simp
                      clear f1 f2 e1 e2 e3 fs
                      go_wp2_with fail
                      go_roundw
                      case rel => exact ⟨k + 1, t + D, by omega, by go_num, rfl, Lib.hid (HMA.out.take HBF4.out HV2.out (by omega) (by omega) (.inl hyn)), below_drewN (HB3.out.trans (HB4.out.mono hbz3)) _⟩
                      case measure => simp [intOf]; omega
                    · have hdy : decide (y < 0) = false := decide_eq_false hyn
                      by_cases hlt4 : t + D < y
                      · have hdl : decide (t + D < y) = true := decide_eq_true hlt4
                        go_wp2_with fail
                        go_quiet ((first | (go_at_call 45; exact Calls.quiet_of ((HPK.out _).mono fun _ _ ⟨h1, h2⟩ => ⟨h1, 0, h2.symm⟩)) | (go_at_call 46; exact Calls.quiet_of (HBT2.out _ (below_drewN (Below.refl _ _) _)))))
                        go_simp
                        clear hdy hdl hbk hbk1 hbk2 hbk3
                        obtain ⟨w4, hw4⟩ : ∃ w4, wr.drewN nq = w4 := ⟨_, rfl⟩
                        have hb34 : Below wr.heap.size wr w4 := by rw [← hw4]; exact below_drewN (Below.refl _ _) _
                        have hbt4 : ∀ X, Below w4.heap.size w4 X → Calls Try.prog 46 #[.slice (some ⟨bk', ok', none⟩) 2 ck, .slice (some ⟨b', o', none⟩) 2 c1, .int .i64 x] X fun e w' => e = .returned (.int .i64 D) ∧ ∃ n, w' = X.drewN n := fun X hX => HBT2.out X (hb34.trans (hX.mono hb34.size))
                        have HB4 := Lib.hid hb34
                        have l1 := cell_kept hb34 (Nat.lt_of_lt_of_le HCH.out.2 HAX.out.size) d1
                        have l2 := cell_kept hb34 (Nat.lt_of_lt_of_le hbT HAX.out.size) d2
                        have l3 := cell_kept hb34 (Nat.lt_of_lt_of_le hbB (Nat.le_trans hbzA HAX.out.size)) d3
                        have l4 := cell_kept hb34 (Nat.lt_of_lt_of_le hbB (Nat.le_trans hbzA HAX.out.size)) d4
                        clear HBT2 hb34 d1 d2 d3 d4
                        have HBT2 := Lib.hid hbt4
                        rw [hw4]
                        clear hw4 hbt4
                        go_wp2_with fail
                        go_quiet ((go_at_call 46; exact Calls.quiet_of (HBT2.out _ (below_drewN (Below.refl _ _) _))))
                        go_simp
                        clear f1 f2 e1 e2 e3 fs
                        go_wp2_with fail
                        go_roundw
                        case rel => exact ⟨k + 1, t + D, by omega, by go_num, rfl, Lib.hid (HMA.out.take HBF4.out HV2.out (by omega) (by omega) (.inr hlt4)), below_drewN (HB3.out.trans (HB4.out.mono hbz3)) _⟩
                        case measure => simp [intOf]; omega
                      · have hdl : decide (t + D < y) = false := decide_eq_false hlt4
                        go_wp2_with fail
                        go_quiet ((first | (go_at_call 45; exact Calls.quiet_of ((HPK.out _).mono fun _ _ ⟨h1, h2⟩ => ⟨h1, 0, h2.symm⟩)) | (go_at_call 46; exact Calls.quiet_of (HBT2.out _ (below_drewN (Below.refl _ _) _)))))
                        go_simp
                        clear hdy hdl hbk hbk1 hbk2 hbk3 f1 f2 e1 e2 e3 fs
                        go_wp2_with fail
                        go_roundw
                        case rel => exact ⟨k + 1, y, by omega, by go_num, rfl, Lib.hid (HMA.out.stay HV2.out (by omega) (by omega)), below_drewN HB3.out _⟩
                        case measure => simp [intOf]; omega
                · have hk' : k = rs.length := by omega
                  subst hk'
                  have hm2 : m < 2 ^ (rs.map hp).length := by rw [List.length_map, HNN.out]; omega
                  have hdone := MinAt.done (by rw [List.length_map]; exact HMA.out) hm2
                  have hpost := post_least hx HIN.out (show inP (p, q') from ⟨hpp0, hpp1⟩) hm2 (fun _ => HGOOD.out) hdone
                  have HPOST := Lib.hid hpost
                  have hown3 := ownsRow_keep HOWN.out HB3.out
                  have hbz23 : wA.heap.size ≤ wr.heap.size := Nat.le_trans hbz2 hbz3
                  clear hm2 hdone hpost e1 e2 e3
                  go_wp2_with (at_builtin; refine wpList_push rfl (.tmp 109) (.tmp 111) 31 rfl i3 (.int .i64 0) 8 Try.underlying31 hi3 hy0 hy1 hy2 rfl (by decide) _ _ rfl hown3 [.int .i64 y] rfl rfl (by simp [Value.oneCell']) (by omega) (by omega) hbz23 ?_)
                  intro R' cR' w6 hown6 hg6
                  have HW := Lib.hid (And.intro hown6 ((HBR2.out.trans (HB3.out.mono hbz2)).grown hg6 hbz23 (fun i hi => (hown3.lt _ hi).1)))
                  clear hown3 hown6 hg6
                  go_wp2_with fail
                  go_roundw
                  case rel =>
                    refine ⟨i' + 1, R', cR', r ++ [y], by omega, by go_num, rfl, Lib.hid ⟨by rw [List.length_append, HR.out.1]; rfl, by rw [List.map_append]; exact HW.out.1, fun j hj hbj => ?_⟩, HW.out.2⟩
                    by_cases e : j = i'
                    · rw [e, getD_last r y i' HR.out.1]
                      have h2 := put_bd (v := y) HBF.out (by rw [HPE.out, HM.out]; exact HPOST.out.2.2)
                      refine ⟨?_, h2⟩
                      rw [HPE.out, HM.out, HLIE.out]
                      exact HPOST.out.1
                    · rw [getD_first r y i' j HR.out.1 (by omega)]
                      exact HR.out.2.2 j (by omega) hbj
                  case measure => simp [intOf]; omega
        · have hii : i' = rs.length := by omega
          subst hii
          have hBk := HTA.out.keep HBR2.out
          have hownC : wr.ownsRow w.heap.size 31 1 (.slice H s cH) s hs := by have := hBk.1; rwa [HT.out.1] at this
          have HBK := Lib.hid hBk
          have HCAP := Lib.hid (own_cap HR.out.2.1)
          have hbzB : w.heap.size ≤ wr.heap.size := Nat.le_trans hbzA hbz2
          clear hBk
          go_wp2_with (at_builtin; refine wpList_push_at rfl (.tmp 113) (.tmp 115) 22 rfl i0 (.slice none 0 0) 24 Try.underlying22 hi0 hz0 hz1 hz2 rfl (by decide) _ _ rfl hownC [.slice R rs.length cR] rfl rfl (by simp [Value.oneCell']) (by omega) (by omega) (by omega) ?_)
          intro H' cH' wd hownD hgD hat
          have hrl := HR.out.1
          have hTs := HT.out.1
          have hbuilt := Built.push (R := R) (cR := cR) (r := r) HTA.out hbzA HBR2.out (own_row_cells HR.out.2.1) (by rw [hrl]; exact HCAP.out) (by rw [hTs, hrl]; exact hownD) (by rw [hTs]; exact hgD) (by rcases hat with h | ⟨a, rfl, h⟩; exact .inl h; exact .inr (by simp [h]))
          have hbwd : Below w.heap.size w wd := (HBRA.out.trans (HBR2.out.mono hbzA)).grown hgD hbzB (fun i hi => (hownC.lt _ hi).1)
          have hgoods : ∀ s', s' < s + 1 → goodRow x (rs.map hp) (T ++ [r]) s' (rs.map hp).length := fun s' hs' => by
            by_cases e : s' = s
            · have h1 := goodRow_new (x := x) (L := rs.map hp) (rs := T) (r := r) (m := (rs.map hp).length) (by simpa using hrl) (fun j hj hb => by rw [hTs] at hb ⊢; exact HR.out.2.2 j (by simpa using hj) hb)
              rw [hTs] at h1
              rw [e]; exact h1
            · exact goodRow_push (HT.out.2.2 s' (by omega)) (by omega)
          have HEND := Lib.hid (And.intro (show (T ++ [r]).length = s + 1 by simp [hTs]) (And.intro hbuilt (And.intro hgoods hbwd)))
          clear hrl hTs hbuilt hbwd hgoods hownD hgD hat hownC
          go_wp2_with fail
          go_roundw
          case rel => exact ⟨s + 1, H', cH', _, T ++ [r], by omega, by go_num, rfl, Lib.hid ⟨HEND.out.1, HEND.out.2.1, HEND.out.2.2.1⟩, HEND.out.2.2.2⟩
          case measure => simp [intOf]; omega
    · have hsN' : s = N := by omega
      subst hsN'
      by_cases hn0 : rs.length = 0
      · have hne : ((rs.length : Int) == 0) = true := by rw [hn0]; rfl
        have HF := Lib.hid (show leastV rs x = 0 by rw [HV.out, List.eq_nil_of_length_eq_zero hn0]; simp [farH, sideH])
        clear hn0
        go_wp2_with (go_at_call 45; ((with_reducible refine (HPN.out _).mono ?_); rintro e w' ⟨rfl, rfl⟩))
        go_ret
        exact ⟨ret_int HF.out.symm, HBR.out⟩
      · have hne : ((rs.length : Int) == 0) = false := beq_eq_false_iff_ne.2 (by omega)
        have hN2 : 2 ≤ s := by rw [← HNN.out]; exact Nat.le_trans (show 2 ≤ 2 ^ 1 by decide) (Nat.pow_le_pow_right (by omega) (by omega))
        obtain ⟨m, hm⟩ : ∃ m, s - 1 = m := ⟨_, rfl⟩
        have e1 : IntKind.i64.wrap ((s : Int) - 1) = (m : Int) := by rw [IntWalk.i64_in _ (by omega)]; omega
        have hms : m < s := by omega
        have hTl : m < T.length := by have := HT.out.1; omega
        have hgood := HT.out.2.2 m hms
        have hrl : T[m].length = rs.length := by
          have h1 := hgood.1
          rw [List.getD, List.getElem?_eq_getElem hTl] at h1
          simpa using h1
        have hcT : ∀ k, (hk : k < rs.length) → T[m][k]'(by rw [hrl]; exact hk) = cellT T m k := fun k hk => by
          have e : T.getD m [] = T[m] := by simp [List.getD, List.getElem?_eq_getElem hTl]
          unfold cellT
          rw [e]
          simp [List.getD, List.getElem?_eq_getElem (show k < T[m].length by rw [hrl]; exact hk)]
        obtain ⟨bH, oH, RT, cT, hHe, hbH, hcH, _, hoT⟩ := HT.out.2.1.mgrid.row.open hTl
        rw [hrl] at hcH
        obtain ⟨bT, oT, rfl, hbT, hcTT⟩ := hoT.open (by simp; omega)
        have hct : ∀ k, k < rs.length → wr.cell? ⟨bT, oT + k, none⟩ = some (.int .i64 (cellT T m k)) := fun k hk => by rw [← hcT k hk]; exact ints_at hcTT (by rw [hrl]; exact hk)
        have HCT := Lib.hid hct
        have HCH := Lib.hid (And.intro hcH hbH)
        have HGOOD := Lib.hid hgood
        have hmI : (m : Int) < s := by omega
        have hm0 : m ≠ 0 := by omega
        have hbits : ∀ k, k < rs.length → m.testBit k = true := fun k hk => by rw [← hm, ← HNN.out, Nat.testBit_two_pow_sub_one]; simpa using hk
        have HBITS := Lib.hid hbits
        have HM0 := Lib.hid (minAt_none (x := x) (L := rs.map hp) (T := cellT T m) (t := (0, 0)) hm0)
        have HM := Lib.hid hm
        clear hcT hcTT hoT hrl hcH hct hgood hbits hm
        subst hHe
        rename World => wB
        go_wp2_with (go_at_call 45; ((with_reducible refine (HPN.out _).mono ?_); rintro e w' ⟨rfl, rfl⟩))
        go_loopw [13, 14] (fun v i wr3 => ∃ (k : Nat) (y : Int), k ≤ rs.length ∧ i = .int .i64 k ∧ v = .int .i64 y ∧ Hid (MinAt x (rs.map hp) (cellT T m) m (0, 0) k y) ∧ Below wB.heap.size wB wr3) (fun _ i _ => rs.length - (intOf i).toNat)
        case atStart => exact ⟨0, _, Nat.zero_le _, rfl, rfl, HM0, Below.refl _ _⟩
        case round =>
          obtain ⟨k, y, hk, rfl, rfl, HMA, hb3⟩ := hrel
          have HB3 := Lib.hid hb3
          have hbz3 := hb3.size
          clear hb3 HM0
          by_cases hlt3 : k < rs.length
          · obtain ⟨pk, sk, b, o, bk', ok', ck, hek, ⟨hk0, hk1, hk2, hk3⟩, hAx, gk, gk0, gk1, hbx, hbk'⟩ := hr.house HB.out hlt3
            have hLk : (rs.map hp).getD k (0, 0) = (pk, sk) := by
              rw [List.getD, List.getElem?_map, List.getElem?_eq_getElem hlt3, hek]; rfl
            have hgk := HGOOD.out.2 k (by simpa using hlt3) (HBITS.out k hlt3)
            have ht0 := hgk.1.nonneg (fun a b => btw_nn hx.1 a b)
            have ht1 := hgk.2
            have hwX : Below w.heap.size w wr := HBR.out.trans (HB3.out.mono hbz)
            have d1 := cell_kept HB3.out HCH.out.2 HCH.out.1
            have d2 := cell_kept HB3.out hbT (HCT.out k hlt3)
            have d3 := cell_kept hwX hbx gk
            obtain ⟨t, ht⟩ : ∃ t, cellT T m k = t := ⟨_, rfl⟩
            rw [ht] at d2 ht0 ht1
            obtain ⟨D, hD⟩ : ∃ D, dst pk 0 sk 0 x = D := ⟨_, rfl⟩
            have hd := btw_bd (a := (pk, sk)) (b := (0, 0)) (x := x) ⟨hk0, hk1⟩ ⟨by simp, by simp⟩ hx
            rw [show btw (pk, sk) (0, 0) x = D from hD] at hd
            obtain ⟨hD0, hD1⟩ := hd
            have hzB : Below wr.heap.size wr (wr.alloc (.cells #[.int .i64 0, .int .i64 0] 3)) := (Below.refl _ _).alloc (Nat.le_refl _) _
            have l1 := cell_kept hzB (Nat.lt_of_lt_of_le HCH.out.2 hbz3) d1
            have l2 := cell_kept hzB (Nat.lt_of_lt_of_le hbT hbz3) d2
            have l3 := cell_kept hzB (Nat.lt_of_lt_of_le hbx (Nat.le_trans hbz hbz3)) d3
            have hbt : ∀ X, X.heap[wr.heap.size]? = some (.cells #[.int .i64 0, .int .i64 0] 3 (0, 0)) → Below wr.heap.size wr X → Calls Try.prog 46 #[.slice (some ⟨bk', ok', none⟩) 2 ck, .slice (some ⟨wr.heap.size, 0, none⟩) 2 2, .int .i64 x] X fun e w' => e = .returned (.int .i64 D) ∧ ∃ n, w' = X.drewN n := fun X hz hX => by
              have hwX2 : Below w.heap.size w X := hwX.trans (hX.mono hwX.size)
              rw [← hD]
              exact between_any _ _ _ _ _ _ pk sk 0 0 x X (cell_kept hwX2 hbk' gk0) (cell_kept hwX2 hbk' gk1) (by rw [cell_of_row X _ 0 _ _ _ hz]; rfl) (by rw [cell_of_row X _ 1 _ _ _ hz]; rfl) ⟨hk0, hk1⟩ ⟨by omega, by omega⟩ hx
            have HBT2 := Lib.hid hbt
            have hv : t + D = cellT T m k + btw ((rs.map hp).getD k (0, 0)) (0, 0) x := by rw [hLk, ht, ← hD]; rfl
            have HV2 := Lib.hid hv
            have ht64 : t ≤ 4000 := by omega
            have hkI : (k : Int) < rs.length := by omega
            have fs : IntKind.i64.wrap (t + D) = t + D := IntWalk.i64_in _ (by omega)
            have hkeep : ∀ X, Below wr.heap.size wr X → X.cell? ⟨bH, oH + m, none⟩ = some (.slice (some ⟨bT, oT, none⟩) rs.length cT) ∧ X.cell? ⟨bT, oT + k, none⟩ = some (.int .i64 t) ∧ X.cell? ⟨b, o + k, none⟩ = some (.slice (some ⟨bk', ok', none⟩) 2 ck) := fun X hX =>
              ⟨cell_kept hX (Nat.lt_of_lt_of_le HCH.out.2 hbz3) d1, cell_kept hX (Nat.lt_of_lt_of_le hbT hbz3) d2, cell_kept hX (Nat.lt_of_lt_of_le hbx (Nat.le_trans hbz hbz3)) d3⟩
            have HKEEP := Lib.hid hkeep
            have HZB := Lib.hid hzB
            subst hAx
            clear hek hLk hgk ht1 hwX ht hD hbt hv gk gk0 gk1 hzB hkeep
            go_wp2_with fail
            go_region_held3 (fun w' => w'.cell? ⟨bH, oH + m, none⟩ = some (.slice (some ⟨bT, oT, none⟩) rs.length cT) ∧ w'.cell? ⟨bT, oT + k, none⟩ = some (.int .i64 t) ∧ w'.cell? ⟨b, o + k, none⟩ = some (.slice (some ⟨bk', ok', none⟩) 2 ck))
              (exact HKEEP.out _ (by first | exact HZB.out | exact below_drew HZB.out | exact below_drewN HZB.out _ | exact Below.refl _ _ | exact below_drew (Below.refl _ _) | exact below_drewN (Below.refl _ _) _))
              ((first
                | (go_at_call 45; refine (HPN.out _).mono ?_; rintro e w' ⟨rfl, rfl⟩)
                | (go_at_call 46; refine (HBT2.out _ (by exact heap_alloc_new wr _) (by first | exact HZB.out | exact below_drew HZB.out | exact below_drewN HZB.out _ | exact Below.refl _ _ | exact below_drew (Below.refl _ _) | exact below_drewN (Below.refl _ _) _)).mono ?_; rintro e w5 ⟨rfl, n5, rfl⟩)
                | fail))
            all_goals
              go_simp
              clear fs e1
              by_cases hyn : y < 0
              · go_wp2_with fail
                go_roundw
                case rel => exact ⟨k + 1, t + D, by omega, by go_num, rfl, Lib.hid (HMA.out.take (HBITS.out k hlt3) HV2.out (by omega) (by omega) (.inl hyn)), HB3.out.trans ((show Below wr.heap.size wr _ by first | exact HZB.out | exact below_drew HZB.out | exact below_drewN HZB.out _ | exact Below.refl _ _ | exact below_drew (Below.refl _ _) | exact below_drewN (Below.refl _ _) _).mono hbz3)⟩
                case measure => simp [intOf]; omega
              · by_cases hlt4 : t + D < y
                · go_wp2_with fail
                  go_roundw
                  case rel => exact ⟨k + 1, t + D, by omega, by go_num, rfl, Lib.hid (HMA.out.take (HBITS.out k hlt3) HV2.out (by omega) (by omega) (.inr hlt4)), HB3.out.trans ((show Below wr.heap.size wr _ by first | exact HZB.out | exact below_drew HZB.out | exact below_drewN HZB.out _ | exact Below.refl _ _ | exact below_drew (Below.refl _ _) | exact below_drewN (Below.refl _ _) _).mono hbz3)⟩
                  case measure => simp [intOf]; omega
                · go_wp2_with fail
                  go_roundw
                  case rel => exact ⟨k + 1, y, by omega, by go_num, rfl, Lib.hid (HMA.out.stay HV2.out (by omega) (by omega)), HB3.out.trans ((show Below wr.heap.size wr _ by first | exact HZB.out | exact below_drew HZB.out | exact below_drewN HZB.out _ | exact Below.refl _ _ | exact below_drew (Below.refl _ _) | exact below_drewN (Below.refl _ _) _).mono hbz3)⟩
                  case measure => simp [intOf]; omega
          · have hk' : k = rs.length := by omega
            subst hk'
            have hm2 : m < 2 ^ (rs.map hp).length := by rw [List.length_map, HNN.out]; omega
            have hdone := MinAt.done (by rw [List.length_map]; exact HMA.out) hm2
            have hpost := post_least hx HIN.out (show inP (0, 0) from ⟨by simp, by simp⟩) hm2 (fun _ => HGOOD.out) hdone
            have hfin := best_of (L := rs.map hp) HB.out hx.1 (fun _ h => h) (fun _ h => .inr h) (v := y) (by rw [List.length_map, HNN.out, HM.out]; exact hpost.1)
            have HF := Lib.hid (show leastV rs x = y by rw [HV.out, hfin])
            have HBB := Lib.hid (HBR.out.trans (HB3.out.mono hbz))
            clear hm2 hdone hpost hfin e1
            go_wp2_with fail
            go_ret
            exact ⟨ret_int HF.out.symm, HBB.out⟩
end Go.Proofs.Ytlgeoilnjgojnaa
