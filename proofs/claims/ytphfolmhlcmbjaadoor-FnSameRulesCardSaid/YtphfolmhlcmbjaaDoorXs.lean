/- The walk of the law FnSameRules. No condition. -/
import Derived.Test.YtphfolmhlcmbjaaDoorXr
import Derived.Test.YtphfolmhlcmbjaaDoorX7
import Derived.BigQuiet
import Derived.Deep.QuietTactic
import Derived.Deep.RegionHeld3
namespace Go.Proofs.YtphfolmhlcmbjaaDoor
open Go.RowKit

def nineM : List ByteArray := [⟨#[]⟩, ⟨#[97]⟩, ⟨#[98]⟩, ⟨#[97, 98]⟩, ⟨#[98, 97]⟩, ⟨#[97, 98, 97]⟩, ⟨#[97, 98, 97, 98]⟩, ⟨#[98, 98, 98, 98]⟩, ⟨#[98, 97, 97, 98]⟩]
theorem nine_word : ∀ m ∈ nineM, wordB m = true := by decide
theorem nine_mark : ∀ m ∈ nineM, m ∈ marksT 15 := by
  have h : ∀ l ∈ [([] : List UInt8), [97], [98], [97, 98], [98, 97], [97, 98, 97], [97, 98, 97, 98], [98, 98, 98, 98], [98, 97, 97, 98]], l ∈ wordsL 15 := by decide +kernel
  have e : nineM = [([] : List UInt8), [97], [98], [97, 98], [98, 97], [97, 98, 97], [97, 98, 97, 98], [98, 98, 98, 98], [98, 97, 97, 98]].map ofL := rfl
  intro m hm
  rw [e] at hm
  obtain ⟨l, hl, rfl⟩ := List.mem_map.1 hm
  exact List.mem_map.2 ⟨l, h l hl, rfl⟩
theorem nine_same {rs ss : List (ByteArray × Int)} (h1 : rulesB rs = true) (h2 : rulesB ss = true) (h : sameV rs ss = true) {m : ByteArray} (hm : m ∈ nineM) : boxOfV rs m = boxOfV ss m := by
  unfold boxOfV
  rw [h1, h2, nine_word m hm]
  simp only [Bool.and_self, if_true]
  exact sameV_iff.1 h m (nine_mark m hm)

set_option maxRecDepth 100000 in
set_option maxHeartbeats 8000000 in
theorem sameRules_law (A : Option Addr) (c : Nat) (zs : List Int) (w : World) (hr : Own w 0 w.heap.size A (zs.map (Value.int .u8))) (hx : zs.length ≤ c ∧ c ≤ maxLen ∧ ∀ z ∈ zs, (Lit.int .u8 z).wf = true) :
    Calls Tryd.prog 5 #[.slice A zs.length c] w fun e w' => e = .returned (.bool true) ∧ Below w.heap.size w w' := by
  have hl : zs.length ≤ 9223372036854775807 := by have := hx.1; have := hx.2.1; unfold maxLen at this; omega
  have HX := Lib.hid hx
  clear hx
  by_cases h20 : zs.length ≤ 1048576
  · go_enter Tryd.func5, Tryd.ntmps5
    go_wp2_with fail
    refine (drawSameRules_any _ _ _ _ hr HX.out).mono ?_
    rintro e w1 ⟨A1, c1, rs, B1, d1, ss, rfl, h8, h8s, hsr, hss, oa, ob, hb1⟩
    have HM := Lib.hid hsr.le
    have HM2 := Lib.hid hss.le
    have HSY := Lib.hid (sameV_symm rs ss)
    have HSR := Lib.hid (show sameRulesV rs ss = (rulesB rs && rulesB ss && sameV rs ss) from rfl)
    have HN := Lib.hid (fun h1 h2 h (m : ByteArray) hm => nine_same (rs := rs) (ss := ss) (m := m) h1 h2 h hm)
    have HC1 := Lib.hid (fun Y h1 h2 => impSameRules_any A1 B1 c1 d1 rs ss Y h1 h2 (by omega) (by omega) HM.out HM2.out)
    have HC2 := Lib.hid (fun Y h1 h2 => specSameRules_any A1 B1 c1 d1 rs ss Y h1 h2 (by omega) (by omega) HM.out HM2.out)
    have HC3 := Lib.hid (fun Y h1 h2 => impSameRules_any B1 A1 d1 c1 ss rs Y h1 h2 (by omega) (by omega) HM2.out HM.out)
    have HC4 := Lib.hid (fun Y h1 => impSameRules_any A1 A1 c1 c1 rs rs Y h1 h1 (by omega) (by omega) HM.out HM.out)
    obtain ⟨q, hq⟩ : ∃ q, sameRulesV rs ss = q := ⟨_, rfl⟩
    have HQ := Lib.hid hq
    rw [hq] at HC1 HC2 HSR
    have hqq : (q != q) = false := by simp
    have hqe : (q == q) = true := by simp
    clear hsr hss hq
    go_wp2_with fail
    refine (HC1.out _ oa ob).mono ?_
    rintro e w2 ⟨rfl, hb2⟩
    have oa2 := oa.past hb2
    have ob2 := ob.past hb2
    have hb12 := hb1.trans (hb2.mono hb1.size)
    go_wp2_with fail
    refine (HC2.out _ oa2 ob2).mono ?_
    rintro e w3 ⟨rfl, hb3⟩
    have oa3 := oa2.past hb3
    have ob3 := ob2.past hb3
    have HB13 := Lib.hid (hb12.trans (hb3.mono hb12.size))
    have hz13 := HB13.out.size
    have hva := impValidRules_any A1 c1 rs w3 oa3 (fun r h => Nat.le_trans (HM.out r h) (by omega))
    have HVB := Lib.hid (fun Y hY => impValidRules_any B1 d1 ss Y hY (fun r h => Nat.le_trans (HM2.out r h) (by omega)))
    obtain ⟨p1, hp1⟩ : ∃ p, rulesB rs = p := ⟨_, rfl⟩
    have HP1 := Lib.hid hp1
    rw [hp1] at hva
    have HVA := Lib.hid hva
    have HO3 := Lib.hid (And.intro oa3 ob3)
    clear oa ob oa2 ob2 oa3 ob3 hb1 hb2 hb3 hb12 hva hp1
    go_wp2_with fail
    refine HVA.out.mono ?_
    rintro e w4 ⟨rfl, hb4⟩
    have oa4 := HO3.out.1.past hb4
    have ob4 := HO3.out.2.past hb4
    have HB14 := Lib.hid (HB13.out.trans (hb4.mono hz13))
    have hz14 := HB14.out.size
    clear hb4
    cases p1 with
    | false =>
      go_wp2_with fail
      refine (HC2.out _ oa4 ob4).mono ?_
      rintro e w5 ⟨rfl, hb5⟩
      have HB15 := Lib.hid (HB14.out.trans (hb5.mono hz14))
      go_wp2
      go_ret
      exact ⟨rfl, HB15.out⟩
    | true =>
      obtain ⟨p2, hp2⟩ : ∃ p, rulesB ss = p := ⟨_, rfl⟩
      have HP2 := Lib.hid hp2
      rw [hp2] at HVB
      clear hp2
      have HO4 := Lib.hid (And.intro oa4 ob4)
      go_wp2_with fail
      refine (HVB.out _ ob4).mono ?_
      rintro e w5 ⟨rfl, hb5⟩
      have oa5 := HO4.out.1.past hb5
      have ob5 := HO4.out.2.past hb5
      have HB15 := Lib.hid (HB14.out.trans (hb5.mono hz14))
      have hz15 := HB15.out.size
      clear hb5 oa4 ob4
      cases p2 with
      | false =>
        go_wp2_with fail
        refine (HC2.out _ oa5 ob5).mono ?_
        rintro e w6 ⟨rfl, hb6⟩
        have HB16 := Lib.hid (HB15.out.trans (hb6.mono hz15))
        go_wp2
        go_ret
        exact ⟨rfl, HB16.out⟩
      | true =>
        have HSV := Lib.hid (show sameV rs ss = q by rw [HSR.out, HP1.out, HP2.out]; rfl)
        have HO5 := Lib.hid (And.intro oa5 ob5)
        have hnine : Own (w5.alloc (.cells #[.string ⟨#[]⟩, .string ⟨#[97]⟩, .string ⟨#[98]⟩, .string ⟨#[97, 98]⟩, .string ⟨#[98, 97]⟩, .string ⟨#[97, 98, 97]⟩, .string ⟨#[97, 98, 97, 98]⟩, .string ⟨#[98, 98, 98, 98]⟩, .string ⟨#[98, 97, 97, 98]⟩] 9)) 0 (w5.heap.size + 1) (some ⟨w5.heap.size, 0, none⟩) (strV nineM) := own_new w5 _ 9
        have HNI := Lib.hid hnine
        have HBA := Lib.hid ((Below.refl w5.heap.size w5).alloc (Nat.le_refl _) (.cells #[.string ⟨#[]⟩, .string ⟨#[97]⟩, .string ⟨#[98]⟩, .string ⟨#[97, 98]⟩, .string ⟨#[98, 97]⟩, .string ⟨#[97, 98, 97]⟩, .string ⟨#[97, 98, 97, 98]⟩, .string ⟨#[98, 98, 98, 98]⟩, .string ⟨#[98, 97, 97, 98]⟩] 9))
        clear oa5 ob5 hnine
        obtain ⟨V, hV⟩ : ∃ V, w5.alloc (.cells #[.string ⟨#[]⟩, .string ⟨#[97]⟩, .string ⟨#[98]⟩, .string ⟨#[97, 98]⟩, .string ⟨#[98, 97]⟩, .string ⟨#[97, 98, 97]⟩, .string ⟨#[97, 98, 97, 98]⟩, .string ⟨#[98, 98, 98, 98]⟩, .string ⟨#[98, 97, 97, 98]⟩] 9) = V := ⟨_, rfl⟩
        have HVS := Lib.hid (show V.heap.size = w5.heap.size + 1 by rw [← hV, World.size_alloc])
        rw [hV] at HNI HBA
        go_wp2
        clear hV
        go_loopw [7] (fun i wr => ∃ k : Nat, k ≤ 9 ∧ i = .int .i64 k ∧ Below V.heap.size V wr) (fun i _ => 9 - (intOf i).toNat)
        case atStart => exact ⟨0, by omega, rfl, Below.refl _ _⟩
        case round =>
          obtain ⟨k, hk, rfl, hbw⟩ := hrel
          have HBW := Lib.hid hbw
          have hbz := hbw.size
          obtain ⟨W, hW⟩ : ∃ W : World, W = wr := ⟨_, rfl⟩
          subst hW
          have hb5W : Below w5.heap.size w5 W := HBA.out.trans (hbw.mono HBA.out.size)
          have HBF := Lib.hid (HB15.out.trans (hb5W.mono hz15))
          have HOW := Lib.hid (And.intro (HO5.out.1.past hb5W) (HO5.out.2.past hb5W))
          have hwz := HBF.out.size
          by_cases hlt : k < 9
          · cases q with
            | false =>
              have hkI : (k : Int) < 9 := by omega
              clear hbw hb5W
              go_wp2
              go_quiet (fail)
              go_simp
              go_wp2
              go_roundw
              case rel => exact ⟨k + 1, by omega, by go_num, below_drewN HBW.out _⟩
              case measure => simp [intOf]; omega
            | true =>
              have hnine := HNI.out.below (hbw.mono (by have := HVS.out; omega))
              obtain ⟨b, o, e, hb, hcc⟩ := hnine.open (by rw [strV_len]; simp [nineM])
              simp only [Option.some.injEq, Addr.mk.injEq, and_true] at e
              obtain ⟨rfl, rfl⟩ := e
              have hcell := strs_at hcc (show k < nineM.length by simpa [nineM] using hlt)
              have hmem := List.getElem_mem (show k < nineM.length by simpa [nineM] using hlt)
              obtain ⟨m, hm⟩ : ∃ m, nineM[k]'(by simpa [nineM] using hlt) = m := ⟨_, rfl⟩
              rw [hm] at hcell hmem
              have hms := nine_word m hmem
              have hm4 : m.size ≤ 4 := by simp only [wordB, Bool.and_eq_true, decide_eq_true_eq] at hms; exact hms.2
              have hsame := HN.out HP1.out HP2.out HSV.out m hmem
              simp only [Nat.zero_add] at hcell
              obtain ⟨x, hx⟩ : ∃ x, boxOfV rs m = x := ⟨_, rfl⟩
              have hx2 : boxOfV ss m = x := by rw [← hsame, hx]
              have HQ1 := Lib.hid (show ∀ X, Below W.heap.size W X → Calls Tryd.prog 17 #[.slice A1 rs.length c1, .string m] X fun e w' => e = .returned (.int .i64 x) ∧ Below X.heap.size X w' from fun X hX => by
                have := impBoxOf_any A1 c1 rs m X (HOW.out.1.past hX) (by omega) (by omega) HM.out
                rwa [hx] at this)
              have HQ2 := Lib.hid (show ∀ X, Below W.heap.size W X → Calls Tryd.prog 17 #[.slice B1 ss.length d1, .string m] X fun e w' => e = .returned (.int .i64 x) ∧ Below X.heap.size X w' from fun X hX => by
                have := impBoxOf_any B1 d1 ss m X (HOW.out.2.past hX) (by omega) (by omega) HM2.out
                rwa [hx2] at this)
              have q4 : Below W.heap.size W W.drew := ⟨rfl, rfl, rfl, Nat.le_refl _, fun _ _ => rfl⟩
              have HC := Lib.hid hcell
              have hbW : w5.heap.size < W.heap.size := by have := HVS.out; omega
              have hxx : (x != x) = false := by simp
              have hkI : (k : Int) < 9 := by omega
              have hk0 : (0 : Int) ≤ (k : Int) := by omega
              clear hcc hm hmem hms hsame hx hx2 hnine hbw hb5W hcell hb
              go_wp2
              go_region_held3 (fun w' => w'.cell? ⟨w5.heap.size, k, none⟩ = some (.string m))
                (first | exact cell_stay q6 hbW HC.out | exact cell_stay q5 hbW HC.out | exact cell_stay q4 hbW HC.out)
                ((first
                    | (go_at_call 17; ((with_reducible refine (HQ1.out _ q5).mono ?_); rintro e wy ⟨rfl, by6⟩); have q6 : Below W.heap.size W wy := q5.trans (by6.mono q5.size))
                    | (go_at_call 17; ((with_reducible refine (HQ2.out _ q5).mono ?_); rintro e wy ⟨rfl, by6⟩); have q6 : Below W.heap.size W wy := q5.trans (by6.mono q5.size))
                    | (go_at_call 17; ((with_reducible refine (HQ1.out _ q4).mono ?_); rintro e wx ⟨rfl, bx5⟩); have q5 : Below W.heap.size W wx := q4.trans (bx5.mono q4.size))
                    | (go_at_call 17; ((with_reducible refine (HQ2.out _ q4).mono ?_); rintro e wx ⟨rfl, bx5⟩); have q5 : Below W.heap.size W wx := q4.trans (bx5.mono q4.size))))
              all_goals
                have HQ6 := Lib.hid q6
                clear q4 q5 q6 bx5 by6
                go_simp
                go_wp2
                go_roundw
                case rel => exact ⟨k + 1, by omega, by go_num, HBW.out.trans (HQ6.out.mono hbz)⟩
                case measure => simp [intOf]; omega
          · have hk9 : k = 9 := by omega
            subst hk9
            have hsym : sameRulesV ss rs = q := by rw [sameRulesV, HP1.out, HP2.out, ← HSY.out, HSV.out]; rfl
            have hself : sameRulesV rs rs = true := by rw [sameRulesV, HP1.out, sameV_refl]; rfl
            rw [hsym] at HC3
            rw [hself] at HC4
            clear hsym hself hbw hb5W
            go_wp2_with fail
            refine (HC3.out _ HOW.out.2 HOW.out.1).mono ?_
            rintro e w7 ⟨rfl, hb7⟩
            have oa7 := HOW.out.1.past hb7
            have HB17 := Lib.hid (HBF.out.trans (hb7.mono hwz))
            have hz17 := HB17.out.size
            clear hb7
            go_wp2_with fail
            refine (HC4.out _ oa7).mono ?_
            rintro e w8 ⟨rfl, hb8⟩
            have HB18 := Lib.hid (HB17.out.trans (hb8.mono hz17))
            clear hb8
            go_wp2
            go_ret
            exact ⟨rfl, HB18.out⟩
  · go_enter Tryd.func5, Tryd.ntmps5
    go_wp2
    go_ret
    exact ⟨rfl, Below.refl _ _⟩
end Go.Proofs.YtphfolmhlcmbjaaDoor
