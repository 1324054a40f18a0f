/- Valid houses: contracts of spec. No condition. -/
import Derived.Test.YtlgeoilnjgojnaaG5
import Derived.Test.YtlgeoilnjgojnaaA1
import Derived.Test.YtlgeoilnjgojnaaS0
namespace Go.Proofs.Ytlgeoilnjgojnaa
open Go.RowKit

theorem all_take {α : Type} {zs : List α} {p : α → Bool} {k : Nat} (hk : k < zs.length) : (zs.take (k + 1)).all p = ((zs.take k).all p && p zs[k]) := by
  rw [List.take_succ_eq_append_getElem hk, List.all_append]; simp only [List.all_cons, List.all_nil, Bool.and_true]
theorem all_no {α : Type} {zs : List α} {p : α → Bool} {k : Nat} (hk : k < zs.length) (h : p zs[k] = false) : zs.all p = false := by
  rw [List.all_eq_false]; exact ⟨zs[k], List.getElem_mem hk, by simp [h]⟩
theorem two_of {r : List Int} (h : r.length = 2) : ∃ p s, r = [p, s] := by
  match r, h with
  | [p, s], _ => exact ⟨p, s, rfl⟩

/-- A row is a house. -/
def okH (r : List Int) : Bool := decide (r.length = 2) && (inR (r.getD 0 0) 0 20 && inR (r.getD 1 0) 0 1)
def housesB (rs : List (List Int)) : Bool := decide (rs.length ≤ 6) && rs.all okH
theorem okH_two (p s : Int) : okH [p, s] = (inR p 0 20 && inR s 0 1) := by simp [okH]
theorem okH_no {r : List Int} (h : ¬ r.length = 2) : okH r = false := by simp [okH, h]
theorem houses_no {rs : List (List Int)} {k : Nat} (hk : k < rs.length) (h : okH rs[k] = false) : housesB rs = false := by simp [housesB, all_no hk h]
theorem houses_all {rs : List (List Int)} (h : rs.all okH = true) : housesB rs = decide (rs.length ≤ 6) := by simp [housesB, h]
theorem inR_iff {n lo hi : Int} : inR n lo hi = true ↔ lo ≤ n ∧ n ≤ hi := by simp [inR]

set_option maxRecDepth 100000 in
set_option maxHeartbeats 2000000 in
theorem validHouses_low (A : Option Addr) (c : Nat) (rs : List (List Int)) (w : World) (hr : Grid w 0 w.heap.size A rs) (hl : rs.length ≤ 1000000000) (hs : ∀ r ∈ rs, r.length ≤ 1000000000) :
    Calls Try.prog 90 #[.slice A rs.length c] w fun e w' => e = .returned (.bool (housesB rs)) ∧ w = w' := by
  have HS := Lib.hid hs
  clear hs
  go_enter Try.func90, Try.ntmps90
  go_wp2
  go_loop [3] (fun i => ∃ k : Nat, k ≤ rs.length ∧ i = .int .i64 k ∧ (rs.take k).all okH = true) (fun i => rs.length - (intOf i).toNat)
  case atStart => exact ⟨0, by omega, rfl, by simp⟩
  case round =>
    obtain ⟨k, hk, rfl, hall⟩ := hrel
    have HA := Lib.hid hall
    clear hall
    by_cases hlt : k < rs.length
    · obtain ⟨b, o, R, c1, rfl, hb, hcell, hc1, ho⟩ := hr.open hlt
      have HT := Lib.hid (all_take (p := okH) hlt)
      have HN := Lib.hid (houses_no hlt)
      have hsz := HS.out _ (List.getElem_mem hlt)
      obtain ⟨r, hre⟩ : ∃ r, rs[k] = r := ⟨_, rfl⟩
      rw [hre] at hcell ho hsz
      have HRE := Lib.hid hre
      have HLT := Lib.hid hlt
      clear hre hc1
      by_cases h2 : r.length = 2
      · obtain ⟨p, s, rfl⟩ := two_of h2
        clear h2 hsz
        obtain ⟨b', o', rfl, hb', hc'⟩ := ho.open (by simp)
        have q0 := ints_at hc' (show 0 < [p, s].length by simp)
        have q1 := ints_at hc' (show 1 < [p, s].length by simp)
        simp only [List.getElem_cons_zero, List.getElem_cons_succ, Nat.add_zero] at q0 q1
        have hle2 : ([p, s] : List Int).length = 2 := rfl
        rw [hle2] at hcell
        clear hc' ho hle2
        by_cases i0 : inR p 0 20 = true
        · have HI0 := Lib.hid (show ∀ X, Calls Try.prog 79 #[.int .i64 p, .int .i64 0, .int .i64 20] X fun e w' => e = .returned (.bool true) ∧ X = w' from fun X => by have := inRange_any p 0 20 X; rw [i0] at this; exact this)
          by_cases i1 : inR s 0 1 = true
          · have HI1 := Lib.hid (show ∀ X, Calls Try.prog 79 #[.int .i64 s, .int .i64 0, .int .i64 1] X fun e w' => e = .returned (.bool true) ∧ X = w' from fun X => by have := inRange_any s 0 1 X; rw [i1] at this; exact this)
            have HOK := Lib.hid (show okH [p, s] = true by rw [okH_two, i0, i1]; rfl)
            clear i0 i1
            go_wp2_with (go_at_call 79; first | ((with_reducible refine (HI0.out _).mono ?_); rintro e w' ⟨rfl, rfl⟩) | ((with_reducible refine (HI1.out _).mono ?_); rintro e w' ⟨rfl, rfl⟩))
            go_round
            case rel => exact ⟨k + 1, by have := HLT.out; omega, by go_num, by rw [HT.out, HA.out, HRE.out, HOK.out]; rfl⟩
            case measure => have := HLT.out; simp [intOf]; omega
          · have i1' : inR s 0 1 = false := by simpa using i1
            have HI1 := Lib.hid (show ∀ X, Calls Try.prog 79 #[.int .i64 s, .int .i64 0, .int .i64 1] X fun e w' => e = .returned (.bool false) ∧ X = w' from fun X => by have := inRange_any s 0 1 X; rw [i1'] at this; exact this)
            have HF := Lib.hid (HN.out (by rw [HRE.out, okH_two, i1']; simp))
            clear i0 i1 i1'
            go_wp2_with (go_at_call 79; first | ((with_reducible refine (HI0.out _).mono ?_); rintro e w' ⟨rfl, rfl⟩) | ((with_reducible refine (HI1.out _).mono ?_); rintro e w' ⟨rfl, rfl⟩))
            go_ret
            exact ⟨ret_bool HF.out.symm, rfl⟩
        · have i0' : inR p 0 20 = false := by simpa using i0
          have HI0 := Lib.hid (show ∀ X, Calls Try.prog 79 #[.int .i64 p, .int .i64 0, .int .i64 20] X fun e w' => e = .returned (.bool false) ∧ X = w' from fun X => by have := inRange_any p 0 20 X; rw [i0'] at this; exact this)
          have HF := Lib.hid (HN.out (by rw [HRE.out, okH_two, i0']; simp))
          clear i0 i0'
          go_wp2_with (go_at_call 79; ((with_reducible refine (HI0.out _).mono ?_); rintro e w' ⟨rfl, rfl⟩))
          go_ret
          exact ⟨ret_bool HF.out.symm, rfl⟩
      · have ht : ((r.length : Int) != 2) = true := by simp; omega
        have HF := Lib.hid (HN.out (by rw [HRE.out]; exact okH_no h2))
        clear h2 ho
        go_wp2
        go_ret
        exact ⟨ret_bool HF.out.symm, rfl⟩
    · have hk' : k = rs.length := by omega
      subst hk'
      have HB := Lib.hid (show housesB rs = decide (rs.length ≤ 6) from houses_all (by have := HA.out; rwa [List.take_length] at this))
      by_cases h6 : rs.length ≤ 6
      · go_wp2
        go_ret
        refine ⟨ret_bool ?_, rfl⟩
        rw [HB.out]; simp; omega
      · go_wp2
        go_ret
        refine ⟨ret_bool ?_, rfl⟩
        rw [HB.out]; simp; omega
end Go.Proofs.Ytlgeoilnjgojnaa
