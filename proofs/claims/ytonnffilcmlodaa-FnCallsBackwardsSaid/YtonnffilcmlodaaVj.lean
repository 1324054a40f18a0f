/- Calls for all: the walks. No condition. -/
import Derived.Test.YtonnffilcmlodaaVi
namespace Go.Proofs.Ytonnffilcmlodaa
open Go.RowKit

set_option maxRecDepth 100000 in
set_option maxHeartbeats 4000000 in
theorem specCallsFor1 (n : Nat) (w : World) (hn : n = 1) : Calls Try.prog 27 #[.int .i64 (n : Int)] w (CfRes w (cfL n)) := by
  subst hn
  have HI := Lib.hid (fun X => show Calls Try.prog 52 #[.int .i64 1, .int .i64 1, .int .i64 7] X fun e w' => e = .returned (.bool true) ∧ X = w' from by have := inRange_any 1 1 7 X; rw [inR_iff.2 (by omega)] at this; exact this)
  have HF := Lib.hid (show CfRes w (cfL 1) (.returned (.slice (some ⟨w.heap.size, 0, none⟩) 0 0)) (w.alloc (.cells #[] 28)) from ⟨_, 0, [], rfl, Built.start w w.heap.size (Nat.le_refl _), (Below.refl _ _).alloc (Nat.le_refl _) _⟩)
  go_enter Try.func27, Try.ntmps27
  go_wp2_with (go_at_call 52; (with_reducible refine (HI.out _).mono ?_); rintro e w' ⟨rfl, rfl⟩)
  go_loopw [4, 5] (fun v i wr => v = .slice (some ⟨w.heap.size, 0, none⟩) 0 0 ∧ i = .int .i64 0 ∧ wr = w.alloc (.cells #[] 28)) (fun _ _ _ => 0)
  case atStart => exact ⟨rfl, rfl, rfl⟩
  case round =>
    obtain ⟨rfl, rfl, rfl⟩ := hrel
    go_wp2
    go_loopw [4, 6] (fun v i wr => v = .slice (some ⟨w.heap.size, 0, none⟩) 0 0 ∧ i = .int .i64 1 ∧ wr = w.alloc (.cells #[] 28)) (fun _ _ _ => 0)
    case atStart => exact ⟨rfl, rfl, rfl⟩
    case round =>
      obtain ⟨rfl, rfl, rfl⟩ := hrel
      go_wp2
      go_ret
      exact HF.out


set_option maxRecDepth 100000 in
set_option maxHeartbeats 4000000 in
theorem specCallsForB (n : Nat) (w : World) (hn : n = 2) : Calls Try.prog 27 #[.int .i64 (n : Int)] w (CfRes w (cfL n)) := by
  subst hn
  obtain ⟨i0, hi0, hz0, hz1, hz2⟩ := info_parts Try.infoR
  have HI := Lib.hid (fun X => show Calls Try.prog 52 #[.int .i64 2, .int .i64 1, .int .i64 7] X fun e w' => e = .returned (.bool true) ∧ X = w' from by have := inRange_any 2 1 7 X; rw [inR_iff.2 (by omega)] at this; exact this)
  have hbel0 : Below w.heap.size w (w.alloc (.cells #[] 28)) := (Below.refl _ _).alloc (Nat.le_refl _) _
  have HBU := Lib.hid (Built.start w w.heap.size (Nat.le_refl _))
  have HB0 := Lib.hid hbel0
  have hz : w.heap.size ≤ (w.alloc (.cells #[] 28)).heap.size := by simp
  obtain ⟨W, hW⟩ : ∃ W, w.alloc (.cells #[] 28) = W := ⟨_, rfl⟩
  rw [hW] at HBU HB0 hz
  clear hbel0
  go_enter Try.func27, Try.ntmps27
  go_wp2_with (go_at_call 52; (with_reducible refine (HI.out _).mono ?_); rintro e w' ⟨rfl, rfl⟩)
  clear hW
  go_loopw [4, 5] (fun v i wr => v = .slice (some ⟨w.heap.size, 0, none⟩) 0 0 ∧ i = .int .i64 1 ∧ wr = W) (fun _ _ _ => 0)
  case atStart => exact ⟨rfl, rfl, rfl⟩
  case round =>
    obtain ⟨rfl, rfl, rfl⟩ := hrel
    have hpo := pair_own wr 0 1
    have hbel : Below wr.heap.size wr (wr.alloc (.cells #[.int .i64 0, .int .i64 1] 3)) := (Below.refl _ _).alloc (Nat.le_refl _) _
    have hown5 := (HBU.out.keep hbel).1
    have H4 := Lib.hid (And.intro HBU.out (And.intro hbel hpo))
    clear hpo hbel
    go_wp2_with (at_builtin; refine wpList_push_in rfl (.tmp 29) (.tmp 31) 23 rfl i0 (.slice none 0 0) 24 Try.underlying23 hi0 hz0 hz1 hz2 rfl (by decide) _ _ rfl hown5 [.slice (some ⟨wr.heap.size, 0, none⟩) 2 2] rfl _ (World.size_alloc _ _).symm rfl (by simp [Value.oneCell']) (by simp) (by omega) (by simp; omega) ?_)
    intro H2 c2 w6 hown6 hg6 hat6
    have hb6 := H4.out.1.push hz H4.out.2.1 (r := [0, 1]) H4.out.2.2 (by simp) hown6 hg6 (hat6.imp (fun ⟨a, h1, h2⟩ => by rw [h1]; simp [h2]) (fun ⟨a, h1, h2⟩ => by rw [h1]; simp [h2]))
    have HF := Lib.hid (show CfRes w (cfL 2) (.returned (.slice H2 1 c2)) w6 from ⟨H2, c2, _, rfl, hb6, (HB0.out.trans (H4.out.2.1.mono hz)).grown hg6 (Nat.le_trans hz H4.out.2.1.size) (fun i hi => (hown5.lt _ hi).1)⟩)
    clear hown5 hown6 hg6 hat6 hb6
    go_wp2
    go_loopw [4, 6] (fun v i wr => v = .slice H2 1 c2 ∧ i = .int .i64 2 ∧ wr = w6) (fun _ _ _ => 0)
    case atStart => exact ⟨rfl, rfl, rfl⟩
    case round =>
      obtain ⟨rfl, rfl, rfl⟩ := hrel
      go_wp2
      go_ret
      exact HF.out


set_option maxRecDepth 100000 in
set_option maxHeartbeats 4000000 in
theorem specCallsFor3 (n : Nat) (w : World) (h1 : 3 ≤ n) (h2 : n ≤ 3) : Calls Try.prog 27 #[.int .i64 (n : Int)] w (CfRes w (cfL n)) := by
  obtain ⟨i0, hi0, hz0, hz1, hz2⟩ := info_parts Try.infoR
  have HCN := Lib.hid (show coreN n = 2 by unfold coreN; rcases (show n = 2 ∨ n = 3 by omega) with rfl | rfl <;> rfl)
  have HYY := Lib.hid (show cfL n = downL n (n - 2) ++ coreL 2 ++ upR 2 (n - 2) by unfold cfL; rw [HCN.out])
  have HI := Lib.hid (fun X => show Calls Try.prog 52 #[.int .i64 (n : Int), .int .i64 1, .int .i64 7] X fun e w' => e = .returned (.bool true) ∧ X = w' from by have := inRange_any (n : Int) 1 7 X; rw [inR_iff.2 (by omega)] at this; exact this)
  have HST := Lib.hid (And.intro (Built.start w w.heap.size (Nat.le_refl _)) (show Below w.heap.size w (w.alloc (.cells #[] 28)) from (Below.refl _ _).alloc (Nat.le_refl _) _))
  have hmin : min (n : Int) 2 = 2 := by omega
  have hd4 : decide ((4 : Int) ≤ (n : Int)) = false := decide_eq_false (by omega)
  have hd4n : decide (4 ≤ n) = false := decide_eq_false (by omega)
  have hn1 : IntKind.i64.wrap ((n : Int) - 1) = ((n - 1 : Nat) : Int) := by rw [show (n : Int) - 1 = ((n - 1 : Nat) : Int) by omega]; exact IntWalk.i64_in _ (by omega)
  have hn2 : (n : Int) - 1 = ((n - 1 : Nat) : Int) := by omega
  go_enter Try.func27, Try.ntmps27
  go_wp2_with (go_at_call 52; (with_reducible refine (HI.out _).mono ?_); rintro e w' ⟨rfl, rfl⟩)
  clear hmin hd4 hd4n hn1 hn2
  go_loopw [4, 5] (fun v i wr => ∃ (j : Nat) (H : Option Addr) (c : Nat) (hs : List Value), j ≤ n - 2 ∧ i = .int .i64 ((n - 1 - j : Nat) : Int) ∧ v = .slice H (downL n j).length c ∧ Built wr w.heap.size H c hs (downL n j) ∧ Below w.heap.size w wr) (fun _ i _ => (intOf i).toNat)
  case atStart => exact ⟨0, _, _, _, by omega, by go_num, rfl, HST.out.1, HST.out.2⟩
  case round =>
    obtain ⟨j, H, c, hs, hj, rfl, rfl, hbu, hbr⟩ := hrel
    clear HST
    have HBR := Lib.hid hbr
    have hbz := hbr.size
    have HSU := Lib.hid (downL_succ n j)
    have HLN := Lib.hid (downL_len n j)
    have hlj : (downL n j).length ≤ 7 := by rw [downL_len]; omega
    obtain ⟨L, hL⟩ : ∃ L, downL n j = L := ⟨_, rfl⟩
    rw [hL] at hbu HSU HLN hlj ⊢
    have HLE := Lib.hid hL
    clear hL hbr
    by_cases hlt : j < n - 2
    · obtain ⟨i, hi⟩ : ∃ i : Nat, n - 1 - j = i := ⟨_, rfl⟩
      have HI := Lib.hid (show n - 1 - (j + 1) + 1 = i by omega)
      rw [hi] at HSU ⊢
      have hki : (2 : Int) ≤ (i : Int) := by omega
      have hdk : decide ((2 : Int) ≤ (i : Int)) = true := decide_eq_true hki
      have hi7 : i ≤ 7 := by omega
      have hi1 : 1 ≤ i := by omega
      have hpo := pair_own wr (i : Int) 0
      have hbel : Below wr.heap.size wr (wr.alloc (.cells #[.int .i64 (i : Int), .int .i64 0] 3)) := (Below.refl _ _).alloc (Nat.le_refl _) _
      have hown5 := (hbu.keep hbel).1
      have H4 := Lib.hid (And.intro hbu (And.intro hbel hpo))
      have HLT := Lib.hid hlt
      clear hbu hi hpo hbel hlt hki
      go_wp2_with (at_builtin; refine wpList_push_in rfl (.tmp 22) (.tmp 25) 23 rfl i0 (.slice none 0 0) 24 Try.underlying23 hi0 hz0 hz1 hz2 rfl (by decide) _ _ rfl hown5 [.slice (some ⟨wr.heap.size, 0, none⟩) 2 2] rfl _ (World.size_alloc _ _).symm rfl (by simp [Value.oneCell']) (by omega) (by omega) (by simp; omega) ?_)
      intro H' c' w6 hown6 hg6 hat6
      have hb6 := H4.out.1.push hbz H4.out.2.1 (r := [(i : Int), 0]) H4.out.2.2 (by simp) hown6 hg6 (hat6.imp id (fun ⟨a, h1, h2⟩ => by rw [h1]; simp [h2]))
      have HF := Lib.hid (And.intro hb6 ((HBR.out.trans (H4.out.2.1.mono hbz)).grown hg6 (Nat.le_trans hbz H4.out.2.1.size) (fun i hi => (hown5.lt _ hi).1)))
      clear hown5 hown6 hg6 hat6 hb6
      go_wp2
      go_roundw
      case rel => exact ⟨j + 1, H', c', _, by have := HI.out; have := HLT.out; omega, by rw [show n - 1 - (j + 1) = i - 1 by have := HI.out; omega]; go_num, by rw [HSU.out, List.length_append]; rfl, by rw [HSU.out]; exact HF.out.1, HF.out.2⟩
      case measure => simp [intOf]; omega
    · have hje : j = n - 2 := by omega
      have hik : n - 1 - j = 2 - 1 := by omega
      rw [hik]
      have hki : ¬ ((2 : Int) ≤ ((2 - 1 : Nat) : Int)) := by omega
      have hdk : decide ((2 : Int) ≤ ((2 - 1 : Nat) : Int)) = false := decide_eq_false hki
      have HDL := Lib.hid (show L = downL n (n - 2) by rw [← HLE.out, hje])
      obtain ⟨kp, hkp⟩ : ∃ kp : Nat, 2 - 1 = kp := ⟨_, rfl⟩
      have hkp7 : kp ≤ 7 := by omega
      rw [hkp] at hki hdk ⊢
      obtain ⟨W, hW⟩ : ∃ W, wr = W := ⟨_, rfl⟩
      subst hW
      have HBU := Lib.hid hbu
      clear hik hje hkp HLN hbu
      have hbz2 := hbz
      have hpo := pair_own wr 0 1
      have hbel : Below wr.heap.size wr (wr.alloc (.cells #[.int .i64 0, .int .i64 1] 3)) := (Below.refl _ _).alloc (Nat.le_refl _) _
      have hown5 := (HBU.out.keep hbel).1
      have H4 := Lib.hid (And.intro HBU.out (And.intro hbel hpo))
      clear hpo hbel
      go_wp2_with (at_builtin; refine wpList_push_in rfl (.tmp 29) (.tmp 31) 23 rfl i0 (.slice none 0 0) 24 Try.underlying23 hi0 hz0 hz1 hz2 rfl (by decide) _ _ rfl hown5 [.slice (some ⟨wr.heap.size, 0, none⟩) 2 2] rfl _ (World.size_alloc _ _).symm rfl (by simp [Value.oneCell']) (by omega) (by omega) (by simp; omega) ?_)
      intro H2 c2 w6 hown6 hg6 hat6
      have hb6 := H4.out.1.push hbz H4.out.2.1 (r := [0, 1]) H4.out.2.2 (by simp) hown6 hg6 (hat6.imp id (fun ⟨a, h1, h2⟩ => by rw [h1]; simp [h2]))
      have HBW := Lib.hid ((HBR.out.trans (H4.out.2.1.mono hbz)).grown hg6 (Nat.le_trans hbz H4.out.2.1.size) (fun i hi => (hown5.lt _ hi).1))
      obtain ⟨Y, hY⟩ : ∃ Y, L ++ [[0, 1]] = Y := ⟨_, rfl⟩
      have HLY := Lib.hid (show L.length + 1 = Y.length by rw [← hY, List.length_append]; rfl)
      rw [hY] at hb6
      have HB := Lib.hid hb6
      have HY := Lib.hid (show Y = downL n (n - 2) ++ coreL 2 by rw [← hY, HDL.out]; rfl)
      have hYl : Y.length ≤ 7 := by rw [HY.out, List.length_append, downL_len]; simp [coreL]; omega
      rw [HLY.out]
      clear hY HBU HDL HLE hdk hki hown5 hown6 hg6 hat6 hb6 H4
      go_wp2
      go_loopw [4, 6] (fun v i wr => ∃ (j : Nat) (H : Option Addr) (c : Nat) (hs : List Value), j ≤ n - 2 ∧ i = .int .i64 ((2 + j : Nat) : Int) ∧ v = .slice H (Y ++ upR 2 j).length c ∧ Built wr w.heap.size H c hs (Y ++ upR 2 j) ∧ Below w.heap.size w wr) (fun _ i _ => (n : Nat) - (intOf i).toNat)
      case atStart => exact ⟨0, _, _, _, by omega, by go_num, by rw [show upR 2 0 = [] from rfl, List.append_nil], by rw [show upR 2 0 = [] from rfl, List.append_nil]; exact HB.out, HBW.out⟩
      case round =>
        obtain ⟨j, H, c, hs, hj, rfl, rfl, hbu, hbr⟩ := hrel
        clear HB HBW
        have HBR := Lib.hid hbr
        have hbz := hbr.size
        have HSU := Lib.hid (show Y ++ upR 2 (j + 1) = (Y ++ upR 2 j) ++ [[0, ((2 + j : Nat) : Int)]] by rw [upR_succ, List.append_assoc])
        have hlj : (Y ++ upR 2 j).length ≤ 20 := by rw [List.length_append, upR_len]; omega
        obtain ⟨L, hL⟩ : ∃ L, Y ++ upR 2 j = L := ⟨_, rfl⟩
        rw [hL] at hbu HSU hlj ⊢
        have HLE := Lib.hid hL
        clear hL hbr
        obtain ⟨i, hi⟩ : ∃ i : Nat, 2 + j = i := ⟨_, rfl⟩
        have HI := Lib.hid (show 2 + (j + 1) = i + 1 by omega)
        rw [hi] at HSU ⊢
        by_cases hlt : j < n - 2
        · have hin : (i : Int) < (n : Int) := by omega
          have hi7 : i ≤ 7 := by omega
          have hpo := pair_own wr 0 (i : Int)
          have hbel : Below wr.heap.size wr (wr.alloc (.cells #[.int .i64 0, .int .i64 (i : Int)] 3)) := (Below.refl _ _).alloc (Nat.le_refl _) _
          have hown5 := (hbu.keep hbel).1
          have H4 := Lib.hid (And.intro hbu (And.intro hbel hpo))
          have HLT := Lib.hid hlt
          clear hbu hi hpo hbel hlt
          go_wp2_with (at_builtin; refine wpList_push_in rfl (.tmp 48) (.tmp 51) 23 rfl i0 (.slice none 0 0) 24 Try.underlying23 hi0 hz0 hz1 hz2 rfl (by decide) _ _ rfl hown5 [.slice (some ⟨wr.heap.size, 0, none⟩) 2 2] rfl _ (World.size_alloc _ _).symm rfl (by simp [Value.oneCell']) (by omega) (by omega) (by simp; omega) ?_)
          intro H' c' w6 hown6 hg6 hat6
          have hb6 := H4.out.1.push hbz H4.out.2.1 (r := [0, (i : Int)]) H4.out.2.2 (by simp) hown6 hg6 (hat6.imp id (fun ⟨a, h1, h2⟩ => by rw [h1]; simp [h2]))
          have HF := Lib.hid (And.intro hb6 ((HBR.out.trans (H4.out.2.1.mono hbz)).grown hg6 (Nat.le_trans hbz H4.out.2.1.size) (fun i hi => (hown5.lt _ hi).1)))
          clear hown5 hown6 hg6 hat6 hb6
          go_wp2
          go_roundw
          case rel => exact ⟨j + 1, H', c', _, by have := HI.out; have := HLT.out; omega, by rw [HI.out]; go_num, by rw [HSU.out, List.length_append]; rfl, by rw [HSU.out]; exact HF.out.1, HF.out.2⟩
          case measure => simp [intOf]; omega
        · have hje : j = n - 2 := by omega
          have hin : ¬ (i : Int) < (n : Int) := by omega
          have HF := Lib.hid (show CfRes w (cfL n) (.returned (.slice H L.length c)) wr by
            have e1 : L = cfL n := by rw [← HLE.out, hje, HY.out, HYY.out]
            rw [← e1]; exact ⟨H, c, hs, rfl, hbu, HBR.out⟩)
          clear hbu hi hje
          go_wp2
          go_ret
          exact HF.out

set_option maxRecDepth 100000 in
set_option maxHeartbeats 4000000 in
theorem specCallsFor4 (n : Nat) (w : World) (h1 : 4 ≤ n) (h2 : n ≤ 7) : Calls Try.prog 27 #[.int .i64 (n : Int)] w (CfRes w (cfL n)) := by
  obtain ⟨i0, hi0, hz0, hz1, hz2⟩ := info_parts Try.infoR
  have HCN := Lib.hid (show coreN n = 4 by unfold coreN; rw [if_neg (by omega), if_neg (by omega)])
  have HYY := Lib.hid (show cfL n = downL n (n - 4) ++ coreL 4 ++ upR 4 (n - 4) by unfold cfL; rw [HCN.out])
  have HI := Lib.hid (fun X => show Calls Try.prog 52 #[.int .i64 (n : Int), .int .i64 1, .int .i64 7] X fun e w' => e = .returned (.bool true) ∧ X = w' from by have := inRange_any (n : Int) 1 7 X; rw [inR_iff.2 (by omega)] at this; exact this)
  have HST := Lib.hid (And.intro (Built.start w w.heap.size (Nat.le_refl _)) (show Below w.heap.size w (w.alloc (.cells #[] 28)) from (Below.refl _ _).alloc (Nat.le_refl _) _))
  have hmin : min (n : Int) 2 = 2 := by omega
  have hd4 : decide ((4 : Int) ≤ (n : Int)) = true := decide_eq_true (by omega)
  have hd4n : decide (4 ≤ n) = true := decide_eq_true (by omega)
  have hn1 : IntKind.i64.wrap ((n : Int) - 1) = ((n - 1 : Nat) : Int) := by rw [show (n : Int) - 1 = ((n - 1 : Nat) : Int) by omega]; exact IntWalk.i64_in _ (by omega)
  have hn2 : (n : Int) - 1 = ((n - 1 : Nat) : Int) := by omega
  go_enter Try.func27, Try.ntmps27
  go_wp2_with (go_at_call 52; (with_reducible refine (HI.out _).mono ?_); rintro e w' ⟨rfl, rfl⟩)
  clear hmin hd4 hd4n hn1 hn2
  go_loopw [4, 5] (fun v i wr => ∃ (j : Nat) (H : Option Addr) (c : Nat) (hs : List Value), j ≤ n - 4 ∧ i = .int .i64 ((n - 1 - j : Nat) : Int) ∧ v = .slice H (downL n j).length c ∧ Built wr w.heap.size H c hs (downL n j) ∧ Below w.heap.size w wr) (fun _ i _ => (intOf i).toNat)
  case atStart => exact ⟨0, _, _, _, by omega, by go_num, rfl, HST.out.1, HST.out.2⟩
  case round =>
    obtain ⟨j, H, c, hs, hj, rfl, rfl, hbu, hbr⟩ := hrel
    clear HST
    have HBR := Lib.hid hbr
    have hbz := hbr.size
    have HSU := Lib.hid (downL_succ n j)
    have HLN := Lib.hid (downL_len n j)
    have hlj : (downL n j).length ≤ 7 := by rw [downL_len]; omega
    obtain ⟨L, hL⟩ : ∃ L, downL n j = L := ⟨_, rfl⟩
    rw [hL] at hbu HSU HLN hlj ⊢
    have HLE := Lib.hid hL
    clear hL hbr
    by_cases hlt : j < n - 4
    · obtain ⟨i, hi⟩ : ∃ i : Nat, n - 1 - j = i := ⟨_, rfl⟩
      have HI := Lib.hid (show n - 1 - (j + 1) + 1 = i by omega)
      rw [hi] at HSU ⊢
      have hki : (4 : Int) ≤ (i : Int) := by omega
      have hdk : decide ((4 : Int) ≤ (i : Int)) = true := decide_eq_true hki
      have hi7 : i ≤ 7 := by omega
      have hi1 : 1 ≤ i := by omega
      have hpo := pair_own wr (i : Int) 0
      have hbel : Below wr.heap.size wr (wr.alloc (.cells #[.int .i64 (i : Int), .int .i64 0] 3)) := (Below.refl _ _).alloc (Nat.le_refl _) _
      have hown5 := (hbu.keep hbel).1
      have H4 := Lib.hid (And.intro hbu (And.intro hbel hpo))
      have HLT := Lib.hid hlt
      clear hbu hi hpo hbel hlt hki
      go_wp2_with (at_builtin; refine wpList_push_in rfl (.tmp 22) (.tmp 25) 23 rfl i0 (.slice none 0 0) 24 Try.underlying23 hi0 hz0 hz1 hz2 rfl (by decide) _ _ rfl hown5 [.slice (some ⟨wr.heap.size, 0, none⟩) 2 2] rfl _ (World.size_alloc _ _).symm rfl (by simp [Value.oneCell']) (by omega) (by omega) (by simp; omega) ?_)
      intro H' c' w6 hown6 hg6 hat6
      have hb6 := H4.out.1.push hbz H4.out.2.1 (r := [(i : Int), 0]) H4.out.2.2 (by simp) hown6 hg6 (hat6.imp id (fun ⟨a, h1, h2⟩ => by rw [h1]; simp [h2]))
      have HF := Lib.hid (And.intro hb6 ((HBR.out.trans (H4.out.2.1.mono hbz)).grown hg6 (Nat.le_trans hbz H4.out.2.1.size) (fun i hi => (hown5.lt _ hi).1)))
      clear hown5 hown6 hg6 hat6 hb6
      go_wp2
      go_roundw
      case rel => exact ⟨j + 1, H', c', _, by have := HI.out; have := HLT.out; omega, by rw [show n - 1 - (j + 1) = i - 1 by have := HI.out; omega]; go_num, by rw [HSU.out, List.length_append]; rfl, by rw [HSU.out]; exact HF.out.1, HF.out.2⟩
      case measure => simp [intOf]; omega
    · have hje : j = n - 4 := by omega
      have hik : n - 1 - j = 4 - 1 := by omega
      rw [hik]
      have hki : ¬ ((4 : Int) ≤ ((4 - 1 : Nat) : Int)) := by omega
      have hdk : decide ((4 : Int) ≤ ((4 - 1 : Nat) : Int)) = false := decide_eq_false hki
      have HDL := Lib.hid (show L = downL n (n - 4) by rw [← HLE.out, hje])
      obtain ⟨kp, hkp⟩ : ∃ kp : Nat, 4 - 1 = kp := ⟨_, rfl⟩
      have hkp7 : kp ≤ 7 := by omega
      rw [hkp] at hki hdk ⊢
      obtain ⟨W, hW⟩ : ∃ W, wr = W := ⟨_, rfl⟩
      subst hW
      have HBU := Lib.hid hbu
      clear hik hje hkp HLN hbu
      have hbz2 := hbz
      obtain ⟨f1, f2, f3, f4⟩ := core4_facts wr
      have hown5 := (HBU.out.keep f1).1
      have H4 := Lib.hid (And.intro f1 (And.intro f2 f3))
      have HSRC := Lib.hid f4
      have hX : (((((wr.alloc (.cells #[.int .i64 0, .int .i64 1] 3)).alloc (.cells #[.int .i64 2, .int .i64 3] 3)).alloc (.cells #[.int .i64 0, .int .i64 2] 3)).alloc (.cells #[.int .i64 1, .int .i64 3] 3)).alloc (.cells #[.slice (some ⟨wr.heap.size, 0, none⟩) 2 2, .slice (some ⟨wr.heap.size + 1, 0, none⟩) 2 2, .slice (some ⟨wr.heap.size + 1 + 1, 0, none⟩) 2 2, .slice (some ⟨wr.heap.size + 1 + 1 + 1, 0, none⟩) 2 2] 28)).heap.size ≥ w.heap.size := Nat.le_trans hbz f1.size
      clear f1 f2 f3 f4
      go_wp2_with (at_builtin; refine wpList_extend_at rfl (.tmp 35) (.tmp 40) 23 rfl i0 (.slice none 0 0) 24 Try.underlying23 hi0 hz0 hz1 hz2 rfl (by decide) _ _ rfl hown5 _ 4 4 _ [.slice (some ⟨wr.heap.size, 0, none⟩) 2 2, .slice (some ⟨wr.heap.size + 1, 0, none⟩) 2 2, .slice (some ⟨wr.heap.size + 1 + 1, 0, none⟩) 2 2, .slice (some ⟨wr.heap.size + 1 + 1 + 1, 0, none⟩) 2 2] rfl rfl HSRC.out (by simp [Value.oneCell']) (by omega) (by omega) hX ?_)
      intro H2 c2 w6 hown6 hg6 hat6
      have hb6 := Built.pushAll HBU.out hbz H4.out.1 H4.out.2.1 H4.out.2.2 hown6 hg6 (hat6.imp id (fun h => by first | exact ⟨_, h, Nat.le_refl _⟩ | (obtain ⟨a, e1, e2⟩ := h; exact ⟨a.block, by rw [e1]; rfl, by rw [e2]; simp⟩)))
      have HBW := Lib.hid ((HBR.out.trans (H4.out.1.mono hbz)).grown hg6 hX (fun i hi => (hown5.lt _ hi).1))
      obtain ⟨Y, hY⟩ : ∃ Y, L ++ coreL 4 = Y := ⟨_, rfl⟩
      have HLY := Lib.hid (show L.length + 4 = Y.length by rw [← hY, List.length_append]; rfl)
      rw [hY] at hb6
      have HB := Lib.hid hb6
      have HY := Lib.hid (show Y = downL n (n - 4) ++ coreL 4 by rw [← hY, HDL.out])
      have hYl : Y.length ≤ 7 := by rw [HY.out, List.length_append, downL_len]; simp [coreL]; omega
      rw [HLY.out]
      clear hY HBU HDL HLE hdk hki hown5 hown6 hg6 hat6 hb6 H4 HSRC hX
      go_wp2
      go_loopw [4, 6] (fun v i wr => ∃ (j : Nat) (H : Option Addr) (c : Nat) (hs : List Value), j ≤ n - 4 ∧ i = .int .i64 ((4 + j : Nat) : Int) ∧ v = .slice H (Y ++ upR 4 j).length c ∧ Built wr w.heap.size H c hs (Y ++ upR 4 j) ∧ Below w.heap.size w wr) (fun _ i _ => (n : Nat) - (intOf i).toNat)
      case atStart => exact ⟨0, _, _, _, by omega, by go_num, by rw [show upR 4 0 = [] from rfl, List.append_nil], by rw [show upR 4 0 = [] from rfl, List.append_nil]; exact HB.out, HBW.out⟩
      case round =>
        obtain ⟨j, H, c, hs, hj, rfl, rfl, hbu, hbr⟩ := hrel
        clear HB HBW
        have HBR := Lib.hid hbr
        have hbz := hbr.size
        have HSU := Lib.hid (show Y ++ upR 4 (j + 1) = (Y ++ upR 4 j) ++ [[0, ((4 + j : Nat) : Int)]] by rw [upR_succ, List.append_assoc])
        have hlj : (Y ++ upR 4 j).length ≤ 20 := by rw [List.length_append, upR_len]; omega
        obtain ⟨L, hL⟩ : ∃ L, Y ++ upR 4 j = L := ⟨_, rfl⟩
        rw [hL] at hbu HSU hlj ⊢
        have HLE := Lib.hid hL
        clear hL hbr
        obtain ⟨i, hi⟩ : ∃ i : Nat, 4 + j = i := ⟨_, rfl⟩
        have HI := Lib.hid (show 4 + (j + 1) = i + 1 by omega)
        rw [hi] at HSU ⊢
        by_cases hlt : j < n - 4
        · have hin : (i : Int) < (n : Int) := by omega
          have hi7 : i ≤ 7 := by omega
          have hpo := pair_own wr 0 (i : Int)
          have hbel : Below wr.heap.size wr (wr.alloc (.cells #[.int .i64 0, .int .i64 (i : Int)] 3)) := (Below.refl _ _).alloc (Nat.le_refl _) _
          have hown5 := (hbu.keep hbel).1
          have H4 := Lib.hid (And.intro hbu (And.intro hbel hpo))
          have HLT := Lib.hid hlt
          clear hbu hi hpo hbel hlt
          go_wp2_with (at_builtin; refine wpList_push_in rfl (.tmp 48) (.tmp 51) 23 rfl i0 (.slice none 0 0) 24 Try.underlying23 hi0 hz0 hz1 hz2 rfl (by decide) _ _ rfl hown5 [.slice (some ⟨wr.heap.size, 0, none⟩) 2 2] rfl _ (World.size_alloc _ _).symm rfl (by simp [Value.oneCell']) (by omega) (by omega) (by simp; omega) ?_)
          intro H' c' w6 hown6 hg6 hat6
          have hb6 := H4.out.1.push hbz H4.out.2.1 (r := [0, (i : Int)]) H4.out.2.2 (by simp) hown6 hg6 (hat6.imp id (fun ⟨a, h1, h2⟩ => by rw [h1]; simp [h2]))
          have HF := Lib.hid (And.intro hb6 ((HBR.out.trans (H4.out.2.1.mono hbz)).grown hg6 (Nat.le_trans hbz H4.out.2.1.size) (fun i hi => (hown5.lt _ hi).1)))
          clear hown5 hown6 hg6 hat6 hb6
          go_wp2
          go_roundw
          case rel => exact ⟨j + 1, H', c', _, by have := HI.out; have := HLT.out; omega, by rw [HI.out]; go_num, by rw [HSU.out, List.length_append]; rfl, by rw [HSU.out]; exact HF.out.1, HF.out.2⟩
          case measure => simp [intOf]; omega
        · have hje : j = n - 4 := by omega
          have hin : ¬ (i : Int) < (n : Int) := by omega
          have HF := Lib.hid (show CfRes w (cfL n) (.returned (.slice H L.length c)) wr by
            have e1 : L = cfL n := by rw [← HLE.out, hje, HY.out, HYY.out]
            rw [← e1]; exact ⟨H, c, hs, rfl, hbu, HBR.out⟩)
          clear hbu hi hje
          go_wp2
          go_ret
          exact HF.out

theorem specCallsFor2 (n : Nat) (w : World) (h1 : 2 ≤ n) (h2 : n ≤ 3) : Calls Try.prog 27 #[.int .i64 (n : Int)] w (CfRes w (cfL n)) := by
  by_cases h : n = 2
  · exact specCallsForB n w h
  · exact specCallsFor3 n w (by omega) h2
set_option maxRecDepth 100000 in
theorem coreOf1 (n : Nat) (w : World) (h : n = 1) : Calls Try.prog 50 #[.int .i64 (n : Int)] w fun e w' => e = .returned (.int .i64 1) ∧ w = w' := by
  subst h
  go_enter Try.func50, Try.ntmps50
  go_wp2
  go_ret
  exact ⟨rfl, rfl⟩
set_option maxRecDepth 100000 in
theorem coreOf2 (n : Nat) (w : World) (h1 : 2 ≤ n) (h2 : n ≤ 3) : Calls Try.prog 50 #[.int .i64 (n : Int)] w fun e w' => e = .returned (.int .i64 2) ∧ w = w' := by
  rcases (show n = 2 ∨ n = 3 by omega) with rfl | rfl
  all_goals
    go_enter Try.func50, Try.ntmps50
    go_wp2
    go_ret
    exact ⟨rfl, rfl⟩
set_option maxRecDepth 100000 in
theorem coreOf4 (n : Nat) (w : World) (h1 : 4 ≤ n) (h2 : n ≤ 7) : Calls Try.prog 50 #[.int .i64 (n : Int)] w fun e w' => e = .returned (.int .i64 4) ∧ w = w' := by
  rcases (show n = 4 ∨ n = 5 ∨ n = 6 ∨ n = 7 by omega) with rfl | rfl | rfl | rfl
  all_goals
    go_enter Try.func50, Try.ntmps50
    go_wp2
    go_ret
    exact ⟨rfl, rfl⟩
/-- What coreCalls answers. -/
def CoRes (w : World) (rs : List (List Int)) (e : Ending) (w' : World) : Prop := ∃ B d gs, e = .returned (.slice B rs.length d) ∧ Below w.heap.size w w' ∧ GridAt w' (w.heap.size + 1) w'.heap.size gs rs ∧ GridApart none gs rs ∧ Own w' 0 w'.heap.size B gs ∧ ∀ u ∈ gs, u.oneCell' = true
set_option maxRecDepth 100000 in
theorem coreCalls1 (w : World) : Calls Try.prog 51 #[.int .i64 1] w (CoRes w (coreL 1)) := by
  go_enter Try.func51, Try.ntmps51
  go_wp2
  go_ret
  exact ⟨none, 0, [], rfl, Below.refl _ _, ⟨rfl, fun i hi => by simp [coreL] at hi⟩, ⟨fun i j hi => by simp [coreL] at hi, fun i hi => by simp [coreL] at hi⟩, .inl rfl, fun u hu => by simp at hu⟩
set_option maxRecDepth 100000 in
theorem coreCalls2 (w : World) : Calls Try.prog 51 #[.int .i64 2] w (CoRes w (coreL 2)) := by
  have H := Lib.hid (core2_facts w)
  go_enter Try.func51, Try.ntmps51
  go_wp2
  go_ret
  exact ⟨_, _, _, rfl, H.out.1, H.out.2.1, H.out.2.2.1, H.out.2.2.2, by simp [Value.oneCell']⟩
set_option maxRecDepth 100000 in
theorem coreCalls4 (w : World) : Calls Try.prog 51 #[.int .i64 4] w (CoRes w (coreL 4)) := by
  have H := Lib.hid (core4_facts w)
  go_enter Try.func51, Try.ntmps51
  go_wp2
  go_ret
  exact ⟨_, _, _, rfl, H.out.1, H.out.2.1, H.out.2.2.1, H.out.2.2.2, by simp [Value.oneCell']⟩


set_option maxRecDepth 100000 in
set_option maxHeartbeats 4000000 in
theorem impCallsFor1 (n : Nat) (w : World) (hn : n = 1) : Calls Try.prog 25 #[.int .i64 (n : Int)] w (CfRes w (cfL n)) := by
  obtain ⟨i0, hi0, hz0, hz1, hz2⟩ := info_parts Try.infoR
  have h1 : 1 ≤ n := by omega
  have h2 : n ≤ 1 := by omega
  have HNN := Lib.hid hn
  have HCN := Lib.hid (show coreN n = 1 by unfold coreN; rw [if_pos (by omega)]; exact HNN.out)
  have HYY := Lib.hid (show cfL n = downL n (n - 1) ++ coreL 1 ++ upR 1 (n - 1) by unfold cfL; rw [HCN.out])
  clear hn
  have HI := Lib.hid (fun X => show Calls Try.prog 43 #[.int .i64 (n : Int)] X fun e w' => e = .returned (.bool true) ∧ X = w' from by have := canCall_any (n : Int) X; rw [inR_iff.2 (by omega)] at this; exact this)
  have HCO := Lib.hid (fun X => coreOf1 n X HNN.out)
  have HST := Lib.hid (And.intro (Built.nil w w.heap.size) (Below.refl w.heap.size w))
  have hn1 : IntKind.i64.wrap ((n : Int) - 1) = ((n - 1 : Nat) : Int) := by rw [show (n : Int) - 1 = ((n - 1 : Nat) : Int) by omega]; exact IntWalk.i64_in _ (by omega)
  have hn2 : (n : Int) - 1 = ((n - 1 : Nat) : Int) := by omega
  go_enter Try.func25, Try.ntmps25
  go_wp2_with (first | (go_at_call 43; (with_reducible refine (HI.out _).mono ?_); rintro e w' ⟨rfl, rfl⟩) | (go_at_call 50; (with_reducible refine (HCO.out _).mono ?_); rintro e w' ⟨rfl, rfl⟩))
  clear hn1 hn2
  go_loopw [4, 5] (fun v i wr => ∃ (j : Nat) (H : Option Addr) (c : Nat) (hs : List Value), j ≤ n - 1 ∧ i = .int .i64 ((n - 1 - j : Nat) : Int) ∧ v = .slice H (downL n j).length c ∧ Built wr w.heap.size H c hs (downL n j) ∧ Below w.heap.size w wr) (fun _ i _ => (intOf i).toNat)
  case atStart => exact ⟨0, _, _, _, by omega, by go_num, rfl, HST.out.1, HST.out.2⟩
  case round =>
    obtain ⟨j, H, c, hs, hj, rfl, rfl, hbu, hbr⟩ := hrel
    clear HST
    have HBR := Lib.hid hbr
    have hbz := hbr.size
    have HSU := Lib.hid (downL_succ n j)
    have HLN := Lib.hid (downL_len n j)
    have hlj : (downL n j).length ≤ 7 := by rw [downL_len]; omega
    obtain ⟨L, hL⟩ : ∃ L, downL n j = L := ⟨_, rfl⟩
    rw [hL] at hbu HSU HLN hlj ⊢
    have HLE := Lib.hid hL
    clear hL hbr
    by_cases hlt : j < n - 1
    · obtain ⟨i, hi⟩ : ∃ i : Nat, n - 1 - j = i := ⟨_, rfl⟩
      have HI := Lib.hid (show n - 1 - (j + 1) + 1 = i by omega)
      rw [hi] at HSU ⊢
      have hki : (1 : Int) ≤ (i : Int) := by omega
      have hdk : decide ((1 : Int) ≤ (i : Int)) = true := decide_eq_true hki
      have hi7 : i ≤ 7 := by omega
      have hi1 : 1 ≤ i := by omega
      have hpo := pair_own wr (i : Int) 0
      have hbel : Below wr.heap.size wr (wr.alloc (.cells #[.int .i64 (i : Int), .int .i64 0] 3)) := (Below.refl _ _).alloc (Nat.le_refl _) _
      have hown5 := (hbu.keep hbel).1
      have H4 := Lib.hid (And.intro hbu (And.intro hbel hpo))
      have HLT := Lib.hid hlt
      clear hbu hi hpo hbel hlt hki
      go_wp2_with (at_builtin; refine wpList_push_in rfl (.tmp 19) (.tmp 22) 23 rfl i0 (.slice none 0 0) 24 Try.underlying23 hi0 hz0 hz1 hz2 rfl (by decide) _ _ rfl hown5 [.slice (some ⟨wr.heap.size, 0, none⟩) 2 2] rfl _ (World.size_alloc _ _).symm rfl (by simp [Value.oneCell']) (by omega) (by omega) (by simp; omega) ?_)
      intro H' c' w6 hown6 hg6 hat6
      have hb6 := H4.out.1.push hbz H4.out.2.1 (r := [(i : Int), 0]) H4.out.2.2 (by simp) hown6 hg6 (hat6.imp id (fun ⟨a, h1, h2⟩ => by rw [h1]; simp [h2]))
      have HF := Lib.hid (And.intro hb6 ((HBR.out.trans (H4.out.2.1.mono hbz)).grown hg6 (Nat.le_trans hbz H4.out.2.1.size) (fun i hi => (hown5.lt _ hi).1)))
      clear hown5 hown6 hg6 hat6 hb6
      go_wp2
      go_roundw
      case rel => exact ⟨j + 1, H', c', _, by have := HI.out; have := HLT.out; omega, by rw [show n - 1 - (j + 1) = i - 1 by have := HI.out; omega]; go_num, by rw [HSU.out, List.length_append]; rfl, by rw [HSU.out]; exact HF.out.1, HF.out.2⟩
      case measure => simp [intOf]; omega
    · have hje : j = n - 1 := by omega
      have hik : n - 1 - j = 1 - 1 := by omega
      rw [hik]
      have hki : ¬ ((1 : Int) ≤ ((1 - 1 : Nat) : Int)) := by omega
      have hdk : decide ((1 : Int) ≤ ((1 - 1 : Nat) : Int)) = false := decide_eq_false hki
      have HDL := Lib.hid (show L = downL n (n - 1) by rw [← HLE.out, hje])
      obtain ⟨kp, hkp⟩ : ∃ kp : Nat, 1 - 1 = kp := ⟨_, rfl⟩
      have hkp7 : kp ≤ 7 := by omega
      rw [hkp] at hki hdk ⊢
      obtain ⟨W, hW⟩ : ∃ W, wr = W := ⟨_, rfl⟩
      subst hW
      have HBU := Lib.hid hbu
      clear hik hje hkp HLN hbu
      have hbz2 := hbz
      go_wp2_with fail
      refine (coreCalls1 wr).mono ?_
      rintro e w5 ⟨B, d, gs, rfl, f1, f2, f3, f4, f5⟩
      have hown5 := (HBU.out.keep f1).1
      have H4 := Lib.hid (And.intro f1 (And.intro f2 f3))
      have HSRC := Lib.hid f4
      have HG1 := Lib.hid f5
      have hX : w.heap.size ≤ w5.heap.size := Nat.le_trans hbz f1.size
      have hcl : (coreL 1).length ≤ 4 := by decide
      have hgl : gs.length = (coreL 1).length * 1 := by rw [f2.1, Nat.mul_one]
      clear f1 f2 f3 f4 f5
      go_wp2_with (at_builtin; refine wpList_extend_at rfl (.tmp 24) (.tmp 26) 23 rfl i0 (.slice none 0 0) 24 Try.underlying23 hi0 hz0 hz1 hz2 rfl (by decide) _ _ rfl hown5 B (coreL 1).length d _ gs rfl hgl HSRC.out HG1.out (by omega) (by omega) hX ?_)
      intro H2 c2 w6 hown6 hg6 hat6
      have hb6 := Built.pushAll HBU.out hbz H4.out.1 H4.out.2.1 H4.out.2.2 hown6 hg6 (hat6.imp id (fun h => by first | exact ⟨_, h, Nat.le_refl _⟩ | (obtain ⟨a, e1, e2⟩ := h; exact ⟨a.block, by rw [e1]; rfl, by rw [e2]; simp⟩)))
      have HBW := Lib.hid ((HBR.out.trans (H4.out.1.mono hbz)).grown hg6 hX (fun i hi => (hown5.lt _ hi).1))
      obtain ⟨Y, hY⟩ : ∃ Y, L ++ coreL 1 = Y := ⟨_, rfl⟩
      have HLY := Lib.hid (show L.length + (coreL 1).length = Y.length by rw [← hY, List.length_append])
      rw [hY] at hb6
      have HB := Lib.hid hb6
      have HY := Lib.hid (show Y = downL n (n - 1) ++ coreL 1 by rw [← hY, HDL.out])
      have hYl : Y.length ≤ 7 := by rw [HY.out, List.length_append, downL_len]; simp [coreL]; omega
      rw [HLY.out]
      clear hY HBU HDL HLE hdk hki hown5 hown6 hg6 hat6 hb6 H4 HSRC HG1 hX hgl hcl
      go_wp2
      go_loopw [4, 6] (fun v i wr => ∃ (j : Nat) (H : Option Addr) (c : Nat) (hs : List Value), j ≤ n - 1 ∧ i = .int .i64 ((1 + j : Nat) : Int) ∧ v = .slice H (Y ++ upR 1 j).length c ∧ Built wr w.heap.size H c hs (Y ++ upR 1 j) ∧ Below w.heap.size w wr) (fun _ i _ => (n : Nat) - (intOf i).toNat)
      case atStart => exact ⟨0, _, _, _, by omega, by go_num, by rw [show upR 1 0 = [] from rfl, List.append_nil], by rw [show upR 1 0 = [] from rfl, List.append_nil]; exact HB.out, HBW.out⟩
      case round =>
        obtain ⟨j, H, c, hs, hj, rfl, rfl, hbu, hbr⟩ := hrel
        clear HB HBW
        have HBR := Lib.hid hbr
        have hbz := hbr.size
        have HSU := Lib.hid (show Y ++ upR 1 (j + 1) = (Y ++ upR 1 j) ++ [[0, ((1 + j : Nat) : Int)]] by rw [upR_succ, List.append_assoc])
        have hlj : (Y ++ upR 1 j).length ≤ 20 := by rw [List.length_append, upR_len]; omega
        obtain ⟨L, hL⟩ : ∃ L, Y ++ upR 1 j = L := ⟨_, rfl⟩
        rw [hL] at hbu HSU hlj ⊢
        have HLE := Lib.hid hL
        clear hL hbr
        obtain ⟨i, hi⟩ : ∃ i : Nat, 1 + j = i := ⟨_, rfl⟩
        have HI := Lib.hid (show 1 + (j + 1) = i + 1 by omega)
        rw [hi] at HSU ⊢
        by_cases hlt : j < n - 1
        · have hin : (i : Int) < (n : Int) := by omega
          have hi7 : i ≤ 7 := by omega
          have hpo := pair_own wr 0 (i : Int)
          have hbel : Below wr.heap.size wr (wr.alloc (.cells #[.int .i64 0, .int .i64 (i : Int)] 3)) := (Below.refl _ _).alloc (Nat.le_refl _) _
          have hown5 := (hbu.keep hbel).1
          have H4 := Lib.hid (And.intro hbu (And.intro hbel hpo))
          have HLT := Lib.hid hlt
          clear hbu hi hpo hbel hlt
          go_wp2_with (at_builtin; refine wpList_push_in rfl (.tmp 34) (.tmp 37) 23 rfl i0 (.slice none 0 0) 24 Try.underlying23 hi0 hz0 hz1 hz2 rfl (by decide) _ _ rfl hown5 [.slice (some ⟨wr.heap.size, 0, none⟩) 2 2] rfl _ (World.size_alloc _ _).symm rfl (by simp [Value.oneCell']) (by omega) (by omega) (by simp; omega) ?_)
          intro H' c' w6 hown6 hg6 hat6
          have hb6 := H4.out.1.push hbz H4.out.2.1 (r := [0, (i : Int)]) H4.out.2.2 (by simp) hown6 hg6 (hat6.imp id (fun ⟨a, h1, h2⟩ => by rw [h1]; simp [h2]))
          have HF := Lib.hid (And.intro hb6 ((HBR.out.trans (H4.out.2.1.mono hbz)).grown hg6 (Nat.le_trans hbz H4.out.2.1.size) (fun i hi => (hown5.lt _ hi).1)))
          clear hown5 hown6 hg6 hat6 hb6
          go_wp2
          go_roundw
          case rel => exact ⟨j + 1, H', c', _, by have := HI.out; have := HLT.out; omega, by rw [HI.out]; go_num, by rw [HSU.out, List.length_append]; rfl, by rw [HSU.out]; exact HF.out.1, HF.out.2⟩
          case measure => simp [intOf]; omega
        · have hje : j = n - 1 := by omega
          have hin : ¬ (i : Int) < (n : Int) := by omega
          have HF := Lib.hid (show CfRes w (cfL n) (.returned (.slice H L.length c)) wr by
            have e1 : L = cfL n := by rw [← HLE.out, hje, HY.out, HYY.out]
            rw [← e1]; exact ⟨H, c, hs, rfl, hbu, HBR.out⟩)
          clear hbu hi hje
          go_wp2
          go_ret
          exact HF.out

set_option maxRecDepth 100000 in
set_option maxHeartbeats 4000000 in
theorem impCallsFor2 (n : Nat) (w : World) (h1 : 2 ≤ n) (h2 : n ≤ 3) : Calls Try.prog 25 #[.int .i64 (n : Int)] w (CfRes w (cfL n)) := by
  obtain ⟨i0, hi0, hz0, hz1, hz2⟩ := info_parts Try.infoR
  have HCN := Lib.hid (show coreN n = 2 by unfold coreN; rcases (show n = 2 ∨ n = 3 by omega) with rfl | rfl <;> rfl)
  have HYY := Lib.hid (show cfL n = downL n (n - 2) ++ coreL 2 ++ upR 2 (n - 2) by unfold cfL; rw [HCN.out])
  have HI := Lib.hid (fun X => show Calls Try.prog 43 #[.int .i64 (n : Int)] X fun e w' => e = .returned (.bool true) ∧ X = w' from by have := canCall_any (n : Int) X; rw [inR_iff.2 (by omega)] at this; exact this)
  have HCO := Lib.hid (fun X => coreOf2 n X h1 h2)
  have HST := Lib.hid (And.intro (Built.nil w w.heap.size) (Below.refl w.heap.size w))
  have hn1 : IntKind.i64.wrap ((n : Int) - 1) = ((n - 1 : Nat) : Int) := by rw [show (n : Int) - 1 = ((n - 1 : Nat) : Int) by omega]; exact IntWalk.i64_in _ (by omega)
  have hn2 : (n : Int) - 1 = ((n - 1 : Nat) : Int) := by omega
  go_enter Try.func25, Try.ntmps25
  go_wp2_with (first | (go_at_call 43; (with_reducible refine (HI.out _).mono ?_); rintro e w' ⟨rfl, rfl⟩) | (go_at_call 50; (with_reducible refine (HCO.out _).mono ?_); rintro e w' ⟨rfl, rfl⟩))
  clear hn1 hn2
  go_loopw [4, 5] (fun v i wr => ∃ (j : Nat) (H : Option Addr) (c : Nat) (hs : List Value), j ≤ n - 2 ∧ i = .int .i64 ((n - 1 - j : Nat) : Int) ∧ v = .slice H (downL n j).length c ∧ Built wr w.heap.size H c hs (downL n j) ∧ Below w.heap.size w wr) (fun _ i _ => (intOf i).toNat)
  case atStart => exact ⟨0, _, _, _, by omega, by go_num, rfl, HST.out.1, HST.out.2⟩
  case round =>
    obtain ⟨j, H, c, hs, hj, rfl, rfl, hbu, hbr⟩ := hrel
    clear HST
    have HBR := Lib.hid hbr
    have hbz := hbr.size
    have HSU := Lib.hid (downL_succ n j)
    have HLN := Lib.hid (downL_len n j)
    have hlj : (downL n j).length ≤ 7 := by rw [downL_len]; omega
    obtain ⟨L, hL⟩ : ∃ L, downL n j = L := ⟨_, rfl⟩
    rw [hL] at hbu HSU HLN hlj ⊢
    have HLE := Lib.hid hL
    clear hL hbr
    by_cases hlt : j < n - 2
    · obtain ⟨i, hi⟩ : ∃ i : Nat, n - 1 - j = i := ⟨_, rfl⟩
      have HI := Lib.hid (show n - 1 - (j + 1) + 1 = i by omega)
      rw [hi] at HSU ⊢
      have hki : (2 : Int) ≤ (i : Int) := by omega
      have hdk : decide ((2 : Int) ≤ (i : Int)) = true := decide_eq_true hki
      have hi7 : i ≤ 7 := by omega
      have hi1 : 1 ≤ i := by omega
      have hpo := pair_own wr (i : Int) 0
      have hbel : Below wr.heap.size wr (wr.alloc (.cells #[.int .i64 (i : Int), .int .i64 0] 3)) := (Below.refl _ _).alloc (Nat.le_refl _) _
      have hown5 := (hbu.keep hbel).1
      have H4 := Lib.hid (And.intro hbu (And.intro hbel hpo))
      have HLT := Lib.hid hlt
      clear hbu hi hpo hbel hlt hki
      go_wp2_with (at_builtin; refine wpList_push_in rfl (.tmp 19) (.tmp 22) 23 rfl i0 (.slice none 0 0) 24 Try.underlying23 hi0 hz0 hz1 hz2 rfl (by decide) _ _ rfl hown5 [.slice (some ⟨wr.heap.size, 0, none⟩) 2 2] rfl _ (World.size_alloc _ _).symm rfl (by simp [Value.oneCell']) (by omega) (by omega) (by simp; omega) ?_)
      intro H' c' w6 hown6 hg6 hat6
      have hb6 := H4.out.1.push hbz H4.out.2.1 (r := [(i : Int), 0]) H4.out.2.2 (by simp) hown6 hg6 (hat6.imp id (fun ⟨a, h1, h2⟩ => by rw [h1]; simp [h2]))
      have HF := Lib.hid (And.intro hb6 ((HBR.out.trans (H4.out.2.1.mono hbz)).grown hg6 (Nat.le_trans hbz H4.out.2.1.size) (fun i hi => (hown5.lt _ hi).1)))
      clear hown5 hown6 hg6 hat6 hb6
      go_wp2
      go_roundw
      case rel => exact ⟨j + 1, H', c', _, by have := HI.out; have := HLT.out; omega, by rw [show n - 1 - (j + 1) = i - 1 by have := HI.out; omega]; go_num, by rw [HSU.out, List.length_append]; rfl, by rw [HSU.out]; exact HF.out.1, HF.out.2⟩
      case measure => simp [intOf]; omega
    · have hje : j = n - 2 := by omega
      have hik : n - 1 - j = 2 - 1 := by omega
      rw [hik]
      have hki : ¬ ((2 : Int) ≤ ((2 - 1 : Nat) : Int)) := by omega
      have hdk : decide ((2 : Int) ≤ ((2 - 1 : Nat) : Int)) = false := decide_eq_false hki
      have HDL := Lib.hid (show L = downL n (n - 2) by rw [← HLE.out, hje])
      obtain ⟨kp, hkp⟩ : ∃ kp : Nat, 2 - 1 = kp := ⟨_, rfl⟩
      have hkp7 : kp ≤ 7 := by omega
      rw [hkp] at hki hdk ⊢
      obtain ⟨W, hW⟩ : ∃ W, wr = W := ⟨_, rfl⟩
      subst hW
      have HBU := Lib.hid hbu
      clear hik hje hkp HLN hbu
      have hbz2 := hbz
      go_wp2_with fail
      refine (coreCalls2 wr).mono ?_
      rintro e w5 ⟨B, d, gs, rfl, f1, f2, f3, f4, f5⟩
      have hown5 := (HBU.out.keep f1).1
      have H4 := Lib.hid (And.intro f1 (And.intro f2 f3))
      have HSRC := Lib.hid f4
      have HG1 := Lib.hid f5
      have hX : w.heap.size ≤ w5.heap.size := Nat.le_trans hbz f1.size
      have hcl : (coreL 2).length ≤ 4 := by decide
      have hgl : gs.length = (coreL 2).length * 1 := by rw [f2.1, Nat.mul_one]
      clear f1 f2 f3 f4 f5
      go_wp2_with (at_builtin; refine wpList_extend_at rfl (.tmp 24) (.tmp 26) 23 rfl i0 (.slice none 0 0) 24 Try.underlying23 hi0 hz0 hz1 hz2 rfl (by decide) _ _ rfl hown5 B (coreL 2).length d _ gs rfl hgl HSRC.out HG1.out (by omega) (by omega) hX ?_)
      intro H2 c2 w6 hown6 hg6 hat6
      have hb6 := Built.pushAll HBU.out hbz H4.out.1 H4.out.2.1 H4.out.2.2 hown6 hg6 (hat6.imp id (fun h => by first | exact ⟨_, h, Nat.le_refl _⟩ | (obtain ⟨a, e1, e2⟩ := h; exact ⟨a.block, by rw [e1]; rfl, by rw [e2]; simp⟩)))
      have HBW := Lib.hid ((HBR.out.trans (H4.out.1.mono hbz)).grown hg6 hX (fun i hi => (hown5.lt _ hi).1))
      obtain ⟨Y, hY⟩ : ∃ Y, L ++ coreL 2 = Y := ⟨_, rfl⟩
      have HLY := Lib.hid (show L.length + (coreL 2).length = Y.length by rw [← hY, List.length_append])
      rw [hY] at hb6
      have HB := Lib.hid hb6
      have HY := Lib.hid (show Y = downL n (n - 2) ++ coreL 2 by rw [← hY, HDL.out])
      have hYl : Y.length ≤ 7 := by rw [HY.out, List.length_append, downL_len]; simp [coreL]; omega
      rw [HLY.out]
      clear hY HBU HDL HLE hdk hki hown5 hown6 hg6 hat6 hb6 H4 HSRC HG1 hX hgl hcl
      go_wp2
      go_loopw [4, 6] (fun v i wr => ∃ (j : Nat) (H : Option Addr) (c : Nat) (hs : List Value), j ≤ n - 2 ∧ i = .int .i64 ((2 + j : Nat) : Int) ∧ v = .slice H (Y ++ upR 2 j).length c ∧ Built wr w.heap.size H c hs (Y ++ upR 2 j) ∧ Below w.heap.size w wr) (fun _ i _ => (n : Nat) - (intOf i).toNat)
      case atStart => exact ⟨0, _, _, _, by omega, by go_num, by rw [show upR 2 0 = [] from rfl, List.append_nil], by rw [show upR 2 0 = [] from rfl, List.append_nil]; exact HB.out, HBW.out⟩
      case round =>
        obtain ⟨j, H, c, hs, hj, rfl, rfl, hbu, hbr⟩ := hrel
        clear HB HBW
        have HBR := Lib.hid hbr
        have hbz := hbr.size
        have HSU := Lib.hid (show Y ++ upR 2 (j + 1) = (Y ++ upR 2 j) ++ [[0, ((2 + j : Nat) : Int)]] by rw [upR_succ, List.append_assoc])
        have hlj : (Y ++ upR 2 j).length ≤ 20 := by rw [List.length_append, upR_len]; omega
        obtain ⟨L, hL⟩ : ∃ L, Y ++ upR 2 j = L := ⟨_, rfl⟩
        rw [hL] at hbu HSU hlj ⊢
        have HLE := Lib.hid hL
        clear hL hbr
        obtain ⟨i, hi⟩ : ∃ i : Nat, 2 + j = i := ⟨_, rfl⟩
        have HI := Lib.hid (show 2 + (j + 1) = i + 1 by omega)
        rw [hi] at HSU ⊢
        by_cases hlt : j < n - 2
        · have hin : (i : Int) < (n : Int) := by omega
          have hi7 : i ≤ 7 := by omega
          have hpo := pair_own wr 0 (i : Int)
          have hbel : Below wr.heap.size wr (wr.alloc (.cells #[.int .i64 0, .int .i64 (i : Int)] 3)) := (Below.refl _ _).alloc (Nat.le_refl _) _
          have hown5 := (hbu.keep hbel).1
          have H4 := Lib.hid (And.intro hbu (And.intro hbel hpo))
          have HLT := Lib.hid hlt
          clear hbu hi hpo hbel hlt
          go_wp2_with (at_builtin; refine wpList_push_in rfl (.tmp 34) (.tmp 37) 23 rfl i0 (.slice none 0 0) 24 Try.underlying23 hi0 hz0 hz1 hz2 rfl (by decide) _ _ rfl hown5 [.slice (some ⟨wr.heap.size, 0, none⟩) 2 2] rfl _ (World.size_alloc _ _).symm rfl (by simp [Value.oneCell']) (by omega) (by omega) (by simp; omega) ?_)
          intro H' c' w6 hown6 hg6 hat6
          have hb6 := H4.out.1.push hbz H4.out.2.1 (r := [0, (i : Int)]) H4.out.2.2 (by simp) hown6 hg6 (hat6.imp id (fun ⟨a, h1, h2⟩ => by rw [h1]; simp [h2]))
          have HF := Lib.hid (And.intro hb6 ((HBR.out.trans (H4.out.2.1.mono hbz)).grown hg6 (Nat.le_trans hbz H4.out.2.1.size) (fun i hi => (hown5.lt _ hi).1)))
          clear hown5 hown6 hg6 hat6 hb6
          go_wp2
          go_roundw
          case rel => exact ⟨j + 1, H', c', _, by have := HI.out; have := HLT.out; omega, by rw [HI.out]; go_num, by rw [HSU.out, List.length_append]; rfl, by rw [HSU.out]; exact HF.out.1, HF.out.2⟩
          case measure => simp [intOf]; omega
        · have hje : j = n - 2 := by omega
          have hin : ¬ (i : Int) < (n : Int) := by omega
          have HF := Lib.hid (show CfRes w (cfL n) (.returned (.slice H L.length c)) wr by
            have e1 : L = cfL n := by rw [← HLE.out, hje, HY.out, HYY.out]
            rw [← e1]; exact ⟨H, c, hs, rfl, hbu, HBR.out⟩)
          clear hbu hi hje
          go_wp2
          go_ret
          exact HF.out

set_option maxRecDepth 100000 in
set_option maxHeartbeats 4000000 in
theorem impCallsFor4 (n : Nat) (w : World) (h1 : 4 ≤ n) (h2 : n ≤ 7) : Calls Try.prog 25 #[.int .i64 (n : Int)] w (CfRes w (cfL n)) := by
  obtain ⟨i0, hi0, hz0, hz1, hz2⟩ := info_parts Try.infoR
  have HCN := Lib.hid (show coreN n = 4 by unfold coreN; rw [if_neg (by omega), if_neg (by omega)])
  have HYY := Lib.hid (show cfL n = downL n (n - 4) ++ coreL 4 ++ upR 4 (n - 4) by unfold cfL; rw [HCN.out])
  have HI := Lib.hid (fun X => show Calls Try.prog 43 #[.int .i64 (n : Int)] X fun e w' => e = .returned (.bool true) ∧ X = w' from by have := canCall_any (n : Int) X; rw [inR_iff.2 (by omega)] at this; exact this)
  have HCO := Lib.hid (fun X => coreOf4 n X h1 h2)
  have HST := Lib.hid (And.intro (Built.nil w w.heap.size) (Below.refl w.heap.size w))
  have hn1 : IntKind.i64.wrap ((n : Int) - 1) = ((n - 1 : Nat) : Int) := by rw [show (n : Int) - 1 = ((n - 1 : Nat) : Int) by omega]; exact IntWalk.i64_in _ (by omega)
  have hn2 : (n : Int) - 1 = ((n - 1 : Nat) : Int) := by omega
  go_enter Try.func25, Try.ntmps25
  go_wp2_with (first | (go_at_call 43; (with_reducible refine (HI.out _).mono ?_); rintro e w' ⟨rfl, rfl⟩) | (go_at_call 50; (with_reducible refine (HCO.out _).mono ?_); rintro e w' ⟨rfl, rfl⟩))
  clear hn1 hn2
  go_loopw [4, 5] (fun v i wr => ∃ (j : Nat) (H : Option Addr) (c : Nat) (hs : List Value), j ≤ n - 4 ∧ i = .int .i64 ((n - 1 - j : Nat) : Int) ∧ v = .slice H (downL n j).length c ∧ Built wr w.heap.size H c hs (downL n j) ∧ Below w.heap.size w wr) (fun _ i _ => (intOf i).toNat)
  case atStart => exact ⟨0, _, _, _, by omega, by go_num, rfl, HST.out.1, HST.out.2⟩
  case round =>
    obtain ⟨j, H, c, hs, hj, rfl, rfl, hbu, hbr⟩ := hrel
    clear HST
    have HBR := Lib.hid hbr
    have hbz := hbr.size
    have HSU := Lib.hid (downL_succ n j)
    have HLN := Lib.hid (downL_len n j)
    have hlj : (downL n j).length ≤ 7 := by rw [downL_len]; omega
    obtain ⟨L, hL⟩ : ∃ L, downL n j = L := ⟨_, rfl⟩
    rw [hL] at hbu HSU HLN hlj ⊢
    have HLE := Lib.hid hL
    clear hL hbr
    by_cases hlt : j < n - 4
    · obtain ⟨i, hi⟩ : ∃ i : Nat, n - 1 - j = i := ⟨_, rfl⟩
      have HI := Lib.hid (show n - 1 - (j + 1) + 1 = i by omega)
      rw [hi] at HSU ⊢
      have hki : (4 : Int) ≤ (i : Int) := by omega
      have hdk : decide ((4 : Int) ≤ (i : Int)) = true := decide_eq_true hki
      have hi7 : i ≤ 7 := by omega
      have hi1 : 1 ≤ i := by omega
      have hpo := pair_own wr (i : Int) 0
      have hbel : Below wr.heap.size wr (wr.alloc (.cells #[.int .i64 (i : Int), .int .i64 0] 3)) := (Below.refl _ _).alloc (Nat.le_refl _) _
      have hown5 := (hbu.keep hbel).1
      have H4 := Lib.hid (And.intro hbu (And.intro hbel hpo))
      have HLT := Lib.hid hlt
      clear hbu hi hpo hbel hlt hki
      go_wp2_with (at_builtin; refine wpList_push_in rfl (.tmp 19) (.tmp 22) 23 rfl i0 (.slice none 0 0) 24 Try.underlying23 hi0 hz0 hz1 hz2 rfl (by decide) _ _ rfl hown5 [.slice (some ⟨wr.heap.size, 0, none⟩) 2 2] rfl _ (World.size_alloc _ _).symm rfl (by simp [Value.oneCell']) (by omega) (by omega) (by simp; omega) ?_)
      intro H' c' w6 hown6 hg6 hat6
      have hb6 := H4.out.1.push hbz H4.out.2.1 (r := [(i : Int), 0]) H4.out.2.2 (by simp) hown6 hg6 (hat6.imp id (fun ⟨a, h1, h2⟩ => by rw [h1]; simp [h2]))
      have HF := Lib.hid (And.intro hb6 ((HBR.out.trans (H4.out.2.1.mono hbz)).grown hg6 (Nat.le_trans hbz H4.out.2.1.size) (fun i hi => (hown5.lt _ hi).1)))
      clear hown5 hown6 hg6 hat6 hb6
      go_wp2
      go_roundw
      case rel => exact ⟨j + 1, H', c', _, by have := HI.out; have := HLT.out; omega, by rw [show n - 1 - (j + 1) = i - 1 by have := HI.out; omega]; go_num, by rw [HSU.out, List.length_append]; rfl, by rw [HSU.out]; exact HF.out.1, HF.out.2⟩
      case measure => simp [intOf]; omega
    · have hje : j = n - 4 := by omega
      have hik : n - 1 - j = 4 - 1 := by omega
      rw [hik]
      have hki : ¬ ((4 : Int) ≤ ((4 - 1 : Nat) : Int)) := by omega
      have hdk : decide ((4 : Int) ≤ ((4 - 1 : Nat) : Int)) = false := decide_eq_false hki
      have HDL := Lib.hid (show L = downL n (n - 4) by rw [← HLE.out, hje])
      obtain ⟨kp, hkp⟩ : ∃ kp : Nat, 4 - 1 = kp := ⟨_, rfl⟩
      have hkp7 : kp ≤ 7 := by omega
      rw [hkp] at hki hdk ⊢
      obtain ⟨W, hW⟩ : ∃ W, wr = W := ⟨_, rfl⟩
      subst hW
      have HBU := Lib.hid hbu
      clear hik hje hkp HLN hbu
      have hbz2 := hbz
      go_wp2_with fail
      refine (coreCalls4 wr).mono ?_
      rintro e w5 ⟨B, d, gs, rfl, f1, f2, f3, f4, f5⟩
      have hown5 := (HBU.out.keep f1).1
      have H4 := Lib.hid (And.intro f1 (And.intro f2 f3))
      have HSRC := Lib.hid f4
      have HG1 := Lib.hid f5
      have hX : w.heap.size ≤ w5.heap.size := Nat.le_trans hbz f1.size
      have hcl : (coreL 4).length ≤ 4 := by decide
      have hgl : gs.length = (coreL 4).length * 1 := by rw [f2.1, Nat.mul_one]
      clear f1 f2 f3 f4 f5
      go_wp2_with (at_builtin; refine wpList_extend_at rfl (.tmp 24) (.tmp 26) 23 rfl i0 (.slice none 0 0) 24 Try.underlying23 hi0 hz0 hz1 hz2 rfl (by decide) _ _ rfl hown5 B (coreL 4).length d _ gs rfl hgl HSRC.out HG1.out (by omega) (by omega) hX ?_)
      intro H2 c2 w6 hown6 hg6 hat6
      have hb6 := Built.pushAll HBU.out hbz H4.out.1 H4.out.2.1 H4.out.2.2 hown6 hg6 (hat6.imp id (fun h => by first | exact ⟨_, h, Nat.le_refl _⟩ | (obtain ⟨a, e1, e2⟩ := h; exact ⟨a.block, by rw [e1]; rfl, by rw [e2]; simp⟩)))
      have HBW := Lib.hid ((HBR.out.trans (H4.out.1.mono hbz)).grown hg6 hX (fun i hi => (hown5.lt _ hi).1))
      obtain ⟨Y, hY⟩ : ∃ Y, L ++ coreL 4 = Y := ⟨_, rfl⟩
      have HLY := Lib.hid (show L.length + (coreL 4).length = Y.length by rw [← hY, List.length_append])
      rw [hY] at hb6
      have HB := Lib.hid hb6
      have HY := Lib.hid (show Y = downL n (n - 4) ++ coreL 4 by rw [← hY, HDL.out])
      have hYl : Y.length ≤ 7 := by rw [HY.out, List.length_append, downL_len]; simp [coreL]; omega
      rw [HLY.out]
      clear hY HBU HDL HLE hdk hki hown5 hown6 hg6 hat6 hb6 H4 HSRC HG1 hX hgl hcl
      go_wp2
      go_loopw [4, 6] (fun v i wr => ∃ (j : Nat) (H : Option Addr) (c : Nat) (hs : List Value), j ≤ n - 4 ∧ i = .int .i64 ((4 + j : Nat) : Int) ∧ v = .slice H (Y ++ upR 4 j).length c ∧ Built wr w.heap.size H c hs (Y ++ upR 4 j) ∧ Below w.heap.size w wr) (fun _ i _ => (n : Nat) - (intOf i).toNat)
      case atStart => exact ⟨0, _, _, _, by omega, by go_num, by rw [show upR 4 0 = [] from rfl, List.append_nil], by rw [show upR 4 0 = [] from rfl, List.append_nil]; exact HB.out, HBW.out⟩
      case round =>
        obtain ⟨j, H, c, hs, hj, rfl, rfl, hbu, hbr⟩ := hrel
        clear HB HBW
        have HBR := Lib.hid hbr
        have hbz := hbr.size
        have HSU := Lib.hid (show Y ++ upR 4 (j + 1) = (Y ++ upR 4 j) ++ [[0, ((4 + j : Nat) : Int)]] by rw [upR_succ, List.append_assoc])
        have hlj : (Y ++ upR 4 j).length ≤ 20 := by rw [List.length_append, upR_len]; omega
        obtain ⟨L, hL⟩ : ∃ L, Y ++ upR 4 j = L := ⟨_, rfl⟩
        rw [hL] at hbu HSU hlj ⊢
        have HLE := Lib.hid hL
        clear hL hbr
        obtain ⟨i, hi⟩ : ∃ i : Nat, 4 + j = i := ⟨_, rfl⟩
        have HI := Lib.hid (show 4 + (j + 1) = i + 1 by omega)
        rw [hi] at HSU ⊢
        by_cases hlt : j < n - 4
        · have hin : (i : Int) < (n : Int) := by omega
          have hi7 : i ≤ 7 := by omega
          have hpo := pair_own wr 0 (i : Int)
          have hbel : Below wr.heap.size wr (wr.alloc (.cells #[.int .i64 0, .int .i64 (i : Int)] 3)) := (Below.refl _ _).alloc (Nat.le_refl _) _
          have hown5 := (hbu.keep hbel).1
          have H4 := Lib.hid (And.intro hbu (And.intro hbel hpo))
          have HLT := Lib.hid hlt
          clear hbu hi hpo hbel hlt
          go_wp2_with (at_builtin; refine wpList_push_in rfl (.tmp 34) (.tmp 37) 23 rfl i0 (.slice none 0 0) 24 Try.underlying23 hi0 hz0 hz1 hz2 rfl (by decide) _ _ rfl hown5 [.slice (some ⟨wr.heap.size, 0, none⟩) 2 2] rfl _ (World.size_alloc _ _).symm rfl (by simp [Value.oneCell']) (by omega) (by omega) (by simp; omega) ?_)
          intro H' c' w6 hown6 hg6 hat6
          have hb6 := H4.out.1.push hbz H4.out.2.1 (r := [0, (i : Int)]) H4.out.2.2 (by simp) hown6 hg6 (hat6.imp id (fun ⟨a, h1, h2⟩ => by rw [h1]; simp [h2]))
          have HF := Lib.hid (And.intro hb6 ((HBR.out.trans (H4.out.2.1.mono hbz)).grown hg6 (Nat.le_trans hbz H4.out.2.1.size) (fun i hi => (hown5.lt _ hi).1)))
          clear hown5 hown6 hg6 hat6 hb6
          go_wp2
          go_roundw
          case rel => exact ⟨j + 1, H', c', _, by have := HI.out; have := HLT.out; omega, by rw [HI.out]; go_num, by rw [HSU.out, List.length_append]; rfl, by rw [HSU.out]; exact HF.out.1, HF.out.2⟩
          case measure => simp [intOf]; omega
        · have hje : j = n - 4 := by omega
          have hin : ¬ (i : Int) < (n : Int) := by omega
          have HF := Lib.hid (show CfRes w (cfL n) (.returned (.slice H L.length c)) wr by
            have e1 : L = cfL n := by rw [← HLE.out, hje, HY.out, HYY.out]
            rw [← e1]; exact ⟨H, c, hs, rfl, hbu, HBR.out⟩)
          clear hbu hi hje
          go_wp2
          go_ret
          exact HF.out

def cfI (n : Int) : List (List Int) := if inR n 1 7 then cfL n.toNat else []
theorem cfI_no {n : Int} (h : inR n 1 7 = false) : cfI n = [] := by rw [cfI, if_neg (by simp [h])]
theorem cfI_yes {n : Nat} (h : inR n 1 7 = true) : cfI n = cfL n := by rw [cfI, if_pos h]; rfl

set_option maxRecDepth 100000 in
theorem specCallsFor_any (n : Int) (w : World) : Calls Try.prog 27 #[.int .i64 n] w (CfRes w (cfI n)) := by
  by_cases h : inR n 1 7 = true
  · obtain ⟨m, rfl⟩ : ∃ m : Nat, n = m := ⟨n.toNat, by have := inR_iff.1 h; omega⟩
    have hb := inR_iff.1 h
    rw [cfI_yes h]
    by_cases h1 : m = 1
    · exact specCallsFor1 m w h1
    · by_cases h2 : m ≤ 3
      · exact specCallsFor2 m w (by omega) h2
      · exact specCallsFor4 m w (by omega) (by omega)
  · have h' : inR n 1 7 = false := by simpa using h
    have HF := Lib.hid (cfI_no h')
    rw [HF.out]
    have HI := Lib.hid (fun X => by have := inRange_any n 1 7 X; rw [h'] at this; exact this)
    clear h h'
    go_enter Try.func27, Try.ntmps27
    go_wp2_with (go_at_call 52; ((with_reducible refine (HI.out _).mono ?_); rintro e w' ⟨rfl, rfl⟩))
    go_ret
    exact ⟨none, 0, [], rfl, Built.nil _ _, Below.refl _ _⟩

set_option maxRecDepth 100000 in
theorem impCallsFor_any (n : Int) (w : World) : Calls Try.prog 25 #[.int .i64 n] w (CfRes w (cfI n)) := by
  by_cases h : inR n 1 7 = true
  · obtain ⟨m, rfl⟩ : ∃ m : Nat, n = m := ⟨n.toNat, by have := inR_iff.1 h; omega⟩
    have hb := inR_iff.1 h
    rw [cfI_yes h]
    by_cases h1 : m = 1
    · exact impCallsFor1 m w h1
    · by_cases h2 : m ≤ 3
      · exact impCallsFor2 m w (by omega) h2
      · exact impCallsFor4 m w (by omega) (by omega)
  · have h' : inR n 1 7 = false := by simpa using h
    have HF := Lib.hid (cfI_no h')
    rw [HF.out]
    have HI := Lib.hid (fun X => by have := canCall_any n X; rw [h'] at this; exact this)
    clear h h'
    go_enter Try.func25, Try.ntmps25
    go_wp2_with (go_at_call 43; ((with_reducible refine (HI.out _).mono ?_); rintro e w' ⟨rfl, rfl⟩))
    go_ret
    exact ⟨none, 0, [], rfl, Built.nil _ _, Below.refl _ _⟩
end Go.Proofs.Ytonnffilcmlodaa
