/- impl's streets: leadsTo, giveBack, mayBeNext. No condition. -/
import Derived.Test.YtjklnknlifpidaaOr3
import Derived.Test.YtjklnknlifpidaaOr5
import Derived.Test.YtjklnknlifpidaaN7
import Derived.Defers
import Derived.Test.YtjklnknlifpidaaN10
import Derived.Test.YtjklnknlifpidaaN11
import Derived.Test.YtjklnknlifpidaaG6
namespace Go.Proofs.Ytjklnknlifpidaa
open Go.RowKit

theorem heap_put {w : World} {b i : Nat} {cs : Array Value} {T : TypeId} {fr : Nat × Nat} (hb : w.heap[b]? = some (.cells cs T fr)) (v : Value) : (w.setCell ⟨b, i, none⟩ v).heap[b]? = some (.cells (cs.setIfInBounds i v) T fr) := by
  simp [World.setCell, Array.getElem?_modify, hb]
theorem Town.put {w : World} {base : Nat} {A : Option Addr} {bs : List Nat} {ss : List St} {u : Nat → Bool} {k b : Nat} (h : Town w base A bs (sws ss u)) (hk : k < ss.length) (hb : bs[k]? = some b) (v : Bool) :
    Town (w.setCell ⟨b, 3, none⟩ (.bool v)) base A bs (sws ss fun i => if i = k then v else u i) := by
  have hkL : k < (sws ss u).length := by rw [sws_len]; exact hk
  obtain ⟨_, _, b', _, _, _, _, _, e1, _, _, _, p3⟩ := h.street hkL
  have hbb : b' = b := by rw [hb] at e1; exact (Option.some.inj e1).symm
  subst hbb
  obtain ⟨h1, h2, h3, h4⟩ := h
  rw [sws_len] at h1
  have hsz : (w.setCell ⟨b', 3, none⟩ (.bool v)).heap.size = w.heap.size := by simp [World.setCell]
  refine ⟨by rw [sws_len]; exact h1, ?_, h3, fun j hj hl => ?_⟩
  · rcases h2 with h2 | ⟨b0, o, rfl, h5, h6, h7, h8⟩
    · exact .inl h2
    · refine .inr ⟨b0, o, rfl, h5, by rw [hsz]; exact h6, fun j x hx => ?_, fun hc => absurd hc (Nat.lt_irrefl _)⟩
      rw [World.cell?_setCell_other]
      · exact h7 j x hx
      · intro e
        have g := h7 j x hx
        rw [← e, p3] at g
        rw [List.getElem?_map] at hx
        cases hq : bs[j]? with
        | none => rw [hq] at hx; cases hx
        | some y =>
          rw [hq] at hx
          rw [← Option.some.inj g] at hx
          cases Option.some.inj hx
  · have hj2 : j < ss.length := by omega
    obtain ⟨g1, g2⟩ := h4 j hj (by rw [sws_len]; exact hj2)
    refine ⟨g1, ?_⟩
    rw [sws_at hj2] at g2
    rw [sws_at hj2]
    have hkb : k < bs.length := by omega
    have hbk : bs[k] = b' := by rw [List.getElem?_eq_getElem hkb] at hb; exact Option.some.inj hb
    by_cases e : j = k
    · subst e
      rw [hbk] at g2 ⊢
      rw [heap_put g2]
      simp
    · have hne : bs[j] ≠ b' := fun e2 => e ((List.getElem_inj h3).1 (e2.trans hbk.symm))
      rw [Below.heap_setCell _ _ _ _ hne, g2]
      simp only [if_neg e]

set_option maxRecDepth 100000 in
theorem leadsTo_any (b x y l a : Nat) (w : World) (p0 : w.cell? ⟨b, 0, none⟩ = some (.int .i64 (x : Int))) (p1 : w.cell? ⟨b, 1, none⟩ = some (.int .i64 (y : Int))) :
    Calls Try.prog 38 #[.pointer (some ⟨b, 0, none⟩), .int .i64 (a : Int)] w fun e w' => e = .returned (.int .i64 ((oth (x, y, l) a : Nat) : Int)) ∧ w = w' := by
  by_cases h : x = a
  · have HF := Lib.hid (show oth (x, y, l) a = y by unfold oth; rw [if_pos h])
    have ht : ((a : Int) == (x : Int)) = true := by simp; omega
    clear h
    go_enter Try.func38, Try.ntmps38
    go_wp2
    go_ret
    exact ⟨by rw [HF.out]; rfl, rfl⟩
  · have HF := Lib.hid (show oth (x, y, l) a = x by unfold oth; rw [if_neg h])
    have ht : ((a : Int) == (x : Int)) = false := by simp; omega
    clear h
    go_enter Try.func38, Try.ntmps38
    go_wp2
    go_ret
    exact ⟨by rw [HF.out]; rfl, rfl⟩

set_option maxRecDepth 100000 in
theorem giveBack_any (b : Nat) (u : FrameMode) (w : World) (p3 : w.cell? ⟨b, 3, none⟩ = some (.bool true)) (f3 : w.frozen? ⟨b, 3, none⟩ = false) :
    CallsD Try.prog 54 #[.pointer (some ⟨b, 0, none⟩)] u w fun e u' w' => u' = u ∧ (e = .returned (.tuple #[]) ∧ w' = w.setCell ⟨b, 3, none⟩ (.bool false)) := by
  go_enter_d Try.func54, Try.ntmps54
  go_wp2
  go_end0
  exact ⟨rfl, rfl⟩

theorem below_back {w W : World} {b x y l : Nat} (h : w.heap[b]? = some (.cells #[.int .i64 (x : Int), .int .i64 (y : Int), .int .i64 (l : Int), .bool false] 49 (0, 0))) (hb : Below w.heap.size (w.setCell ⟨b, 3, none⟩ (.bool true)) W) :
    Below w.heap.size w (W.setCell ⟨b, 3, none⟩ (.bool false)) := by
  have hsz : (w.setCell ⟨b, 3, none⟩ (.bool true)).heap.size = w.heap.size := by simp [World.setCell]
  have hsz2 : (W.setCell ⟨b, 3, none⟩ (.bool false)).heap.size = W.heap.size := by simp [World.setCell]
  refine ⟨hb.os, hb.tape, hb.output, by rw [hsz2, ← hsz]; exact hb.size, fun k hk => ?_⟩
  by_cases e : k = b
  · subst e
    have h1 := (hb.block k hk).trans (heap_put h (.bool true))
    rw [heap_put h1, h]
    simp
  · rw [Below.heap_setCell _ _ _ _ e, hb.block k hk, Below.heap_setCell _ _ _ _ e]

theorem mayP_iff {ss : List St} {u : Nat → Bool} {k a n : Nat} (hk : k < ss.length) (hu : u k = false) (he : ss[k].1 = a ∨ ss[k].2.1 = a) (hlt : ∀ s ∈ ss, s.1 < n ∧ s.2.1 < n) (ht : oth ss[k] a < n) : MayP ss u k a ↔ ∀ j (h : j < ss.length), walkU u k j = false → reachW (sws ss (walkU u k)) (oth ss[k] a) ss[j].1 = true := by
  rw [← jn_reach hlt ht]
  exact ⟨fun ⟨_, _, _, h⟩ => h, fun h => ⟨hk, hu, he, h⟩⟩

set_option maxRecDepth 100000 in
set_option maxHeartbeats 4000000 in
theorem mayBeNext_any (A : Option Addr) (c base n a k b : Nat) (bs : List Nat) (ss : List St) (u : Nat → Bool) (bb : Bool) (w : World) (ht : Town w base A bs (sws ss u)) (hl : ss.length ≤ 7) (hlt : ∀ s ∈ ss, s.1 < n ∧ s.2.1 < n) (hn : n ≤ 5) (hk : k < ss.length) (hb : bs[k]? = some b) (hbb : bb = true ↔ MayP ss u k a) :
    Calls Try.prog 37 #[.pointer (some ⟨b, 0, none⟩), .slice A ss.length c, .int .i64 (a : Int)] w fun e w' => e = .returned (.bool bb) ∧ Below w.heap.size w w' := by
  have hkL : k < (sws ss u).length := by rw [sws_len]; exact hk
  obtain ⟨b9, o9, b', hA9, h9, h9c, hbz, h9b, e1, p0, p1, p2, p3⟩ := ht.street hkL
  have hbb' : b' = b := by rw [hb] at e1; exact (Option.some.inj e1).symm
  subst hbb'
  rw [sws_at hk] at p0 p1 p3
  have HT := Lib.hid ht
  have HLT := Lib.hid hlt
  have HB := Lib.hid hb
  have HBB := Lib.hid hbb
  have hlk := hlt _ (List.getElem_mem hk)
  have hrow : w.heap[b']? = some (.cells #[.int .i64 (ss[k].1 : Int), .int .i64 (ss[k].2.1 : Int), .int .i64 (ss[k].2.2 : Int), .bool (u k)] 49 (0, 0)) := by
    obtain ⟨h1, _, _, h4⟩ := ht
    rw [sws_len] at h1
    have hkb : k < bs.length := by omega
    have hbk : bs[k] = b' := by rw [List.getElem?_eq_getElem hkb] at hb; exact Option.some.inj hb
    have := (h4 k hkb hkL).2
    rw [sws_at hk, hbk] at this
    exact this
  have f3 : w.frozen? ⟨b', 3, none⟩ = false := frozen_of_row _ _ _ _ _ hrow
  obtain ⟨s, hs⟩ : ∃ s, ss[k] = s := ⟨_, rfl⟩
  rw [hs] at p0 p1 hlk hrow
  obtain ⟨x, y, l⟩ := s
  have HS := Lib.hid hs
  dsimp only at p0 p1 p3 hlk hrow
  have HROW := Lib.hid hrow
  clear hA9 h9c h9 h9b e1 p2 hkL ht hlt hb hs hrow hbb
  cases huk : u k with
  | true =>
    rw [huk] at p3
    have hbf : bb = false := by
      cases bb with
      | false => rfl
      | true =>
        obtain ⟨_, h2, _⟩ := HBB.out.1 rfl
        rw [huk] at h2; cases h2
    subst hbf
    clear huk HBB HROW
    go_enter_defers Try.func37, Try.ntmps37
    go_wp2_with fail
    exact ⟨_, results_tmp rfl _ _ _, rfl, Below.refl _ _⟩
  | false =>
    rw [huk] at p3
    have HUK := Lib.hid huk
    clear huk
    by_cases hax : a = x ∨ a = y
    · have HI := Lib.hid (mayP_iff (n := n) (a := a) hk HUK.out (by rw [HS.out]; rcases hax with h | h; exact .inl h.symm; exact .inr h.symm) HLT.out (by rw [HS.out]; exact oth_lt hlk))
      have htn : oth (x, y, l) a < n := oth_lt hlk
      have hL := leadsTo_any b' x y l a (w.setCell ⟨b', 3, none⟩ (.bool true)) (by rw [World.cell?_setCell_other _ _ _ _ (by simp)]; exact p0) (by rw [World.cell?_setCell_other _ _ _ _ (by simp)]; exact p1)
      obtain ⟨t, htt⟩ : ∃ t, oth (x, y, l) a = t := ⟨_, rfl⟩
      rw [HS.out] at HI
      rw [htt] at HI hL htn
      have HL := Lib.hid hL
      have hTW1 : Town (w.setCell ⟨b', 3, none⟩ (.bool true)) base A bs (sws ss (walkU u k)) := HT.out.put hk HB.out true
      have hrf := reachedFrom_any A c base t bs (sws ss (walkU u k)) _ hTW1 (by rw [sws_len]; exact hl) (fun z hz => by
        obtain ⟨q, hq, rfl⟩ := sws_mem.1 hz
        have := HLT.out _ (List.getElem_mem hq)
        exact ⟨by dsimp only; omega, by dsimp only; omega⟩) (by omega)
      rw [sws_len] at hrf
      have HRF := Lib.hid hrf
      have HTW1 := Lib.hid hTW1
      obtain ⟨R, hR⟩ : ∃ R, reachW (sws ss (walkU u k)) t = R := ⟨_, rfl⟩
      rw [hR] at HRF HI
      have hsz1 : (w.setCell ⟨b', 3, none⟩ (.bool true)).heap.size = w.heap.size := by simp [World.setCell]
      have HSZ1 := Lib.hid hsz1
      clear hL hTW1 hrf hR htt hsz1
      have HBEG := Lib.hid (show (((a : Int) != (x : Int)) = false) ∨ (((a : Int) != (x : Int)) = true ∧ ((a : Int) != (y : Int)) = false) by
        by_cases h : a = x
        · exact .inl (by simp; omega)
        · rcases hax with h2 | h2
          · exact absurd h2 h
          · exact .inr ⟨by simp; omega, by simp; omega⟩)
      clear hax
      rcases HBEG.out with t0 | ⟨t0, t1⟩
      all_goals
        clear HBEG
        go_enter_defers Try.func37, Try.ntmps37
        go_wp2_with fail
        refine HL.out.mono ?_
        rintro e w' ⟨rfl, rfl⟩
        go_wp2_with fail
        refine HRF.out.mono ?_
        rintro e w2 ⟨rfl, hb2⟩
        have hbW := hb2.alloc hb2.size (.cells #[.bool (R 0), .bool (R 1), .bool (R 2), .bool (R 3), .bool (R 4)] 69)
        have HTW := Lib.hid (HTW1.out.keep hbW)
        have hcb := bools_of (r := R) (heap_alloc_new w2 (.cells #[.bool (R 0), .bool (R 1), .bool (R 2), .bool (R 3), .bool (R 4)] 69))
        have HCB := Lib.hid hcb
        rw [HSZ1.out] at hbW
        have HROWF := HROW.out
        rw [HUK.out] at HROWF
        have HFIN := Lib.hid (below_back HROWF hbW)
        have HC3 := Lib.hid (show (w2.alloc (.cells #[.bool (R 0), .bool (R 1), .bool (R 2), .bool (R 3), .bool (R 4)] 69)).cell? ⟨b', 3, none⟩ = some (.bool true) by
          rw [cell_of_row _ _ 3 _ _ _ ((hbW.block b' hbz).trans (heap_put HROWF (.bool true)))]; rfl)
        have HF3 := Lib.hid (show (w2.alloc (.cells #[.bool (R 0), .bool (R 1), .bool (R 2), .bool (R 3), .bool (R 4)] 69)).frozen? ⟨b', 3, none⟩ = false from frozen_of_row _ _ _ _ _ ((hbW.block b' hbz).trans (heap_put HROWF (.bool true))))
        clear hb2 hbW hcb HROWF p0 p1 p3 f3 t0
        go_wp2_with fail
        go_loop [41] (fun i => ∃ j : Nat, j ≤ ss.length ∧ i = .int .i64 j ∧ Hid (∀ q (h : q < ss.length), q < j → walkU u k q = false → R ss[q].1 = true)) (fun i => ss.length - (intOf i).toNat)
        case atStart => exact ⟨0, by omega, rfl, Lib.hid (fun q h h2 => by omega)⟩
        case round =>
          obtain ⟨j, hj, rfl, HN⟩ := hrel
          by_cases hlj : j < ss.length
          · obtain ⟨b0, o, d, rfl, hb0, g0, hd, _, _, g1, g2, g3, g4⟩ := Town.street HTW.out (show j < (sws ss (walkU u k)).length by rw [sws_len]; exact hlj)
            rw [sws_at hlj] at g1 g4
            dsimp only at g1 g4
            have hx5 := (HLT.out _ (List.getElem_mem hlj)).1
            obtain ⟨z, hz⟩ : ∃ z, ss[j].1 = z := ⟨_, rfl⟩
            rw [hz] at g1 hx5
            have HZ := Lib.hid hz
            have hcz := HCB.out z (by omega)
            have hz0 : (0 : Int) ≤ (z : Int) := by omega
            have hz5 : (z : Int) < 5 := by omega
            have hjI : (j : Int) < (ss.length : Int) := by omega
            have hj0 : (0 : Int) ≤ (j : Int) := by omega
            clear g2 g3 hz
            cases huj : walkU u k j with
            | true =>
              rw [huj] at g4
              have HNN := Lib.hid (show ∀ q (h : q < ss.length), q < j + 1 → walkU u k q = false → R ss[q].1 = true from fun q h h2 h3 => by
                by_cases e : q = j
                · subst e; rw [huj] at h3; cases h3
                · exact HN.out q h (by omega) h3)
              clear huj
              go_wp2_with fail
              go_round
              case rel => exact ⟨j + 1, by omega, by go_num, Lib.hid HNN.out⟩
              case measure => simp [intOf]; omega
            | false =>
              rw [huj] at g4
              cases hrz : R z with
              | true =>
                rw [hrz] at hcz
                have HNN := Lib.hid (show ∀ q (h : q < ss.length), q < j + 1 → walkU u k q = false → R ss[q].1 = true from fun q h h2 h3 => by
                  by_cases e : q = j
                  · subst e; rw [HZ.out]; exact hrz
                  · exact HN.out q h (by omega) h3)
                clear huj hrz
                go_wp2_with fail
                go_round
                case rel => exact ⟨j + 1, by omega, by go_num, Lib.hid HNN.out⟩
                case measure => simp [intOf]; omega
              | false =>
                rw [hrz] at hcz
                have HF := Lib.hid (show bb = false by
                  cases bb with
                  | false => rfl
                  | true =>
                    have := HI.out.1 (HBB.out.1 rfl) j hlj huj
                    rw [HZ.out, hrz] at this; cases this)
                clear huj hrz
                go_wp2_with fail
                refine leaves_cons (f := 54) (args := #[.pointer (some ⟨b', 0, none⟩)]) (by simp) (by simp [go_sem]) ?_
                refine (giveBack_any b' .returning _ HC3.out HF3.out).mono ?_
                rintro e u' w'' ⟨rfl, rfl, rfl⟩
                exact ⟨_, results_tmp rfl _ _ _, by rw [HF.out]; rfl, HFIN.out⟩
          · have HT2 := Lib.hid (show bb = true from HBB.out.2 (HI.out.2 fun q h h2 => HN.out q h (by omega) h2))
            have hjI : ¬ ((j : Int) < (ss.length : Int)) := by omega
            have hjn : j = ss.length := by omega
            subst hjn
            go_wp2_with fail
            refine leaves_cons (f := 54) (args := #[.pointer (some ⟨b', 0, none⟩)]) (by simp) (by simp [go_sem]) ?_
            refine (giveBack_any b' .returning _ HC3.out HF3.out).mono ?_
            rintro e u' w'' ⟨rfl, rfl, rfl⟩
            exact ⟨_, results_tmp rfl _ _ _, by rw [HT2.out]; rfl, HFIN.out⟩
    · have hbf : bb = false := by
        cases bb with
        | false => rfl
        | true =>
          obtain ⟨_, _, h3, _⟩ := HBB.out.1 rfl
          rw [HS.out] at h3
          rcases h3 with h3 | h3
          · exact absurd (.inl h3.symm) hax
          · exact absurd (.inr h3.symm) hax
      subst hbf
      have t0 : ((a : Int) != (x : Int)) = true := by simp; omega
      have t1 : ((a : Int) != (y : Int)) = true := by simp; omega
      clear HBB HROW hax
      go_enter_defers Try.func37, Try.ntmps37
      go_wp2_with fail
      exact ⟨_, results_tmp rfl _ _ _, rfl, Below.refl _ _⟩


set_option maxRecDepth 100000 in
theorem mayFn_any (A : Option Addr) (c base n a k b bt ba : Nat) (bs : List Nat) (ss : List St) (u : Nat → Bool) (bb : Bool) (w : World) (ht : Town w base A bs (sws ss u)) (hl : ss.length ≤ 7) (hlt : ∀ s ∈ ss, s.1 < n ∧ s.2.1 < n) (hn : n ≤ 5) (hk : k < ss.length) (hb : bs[k]? = some b) (hbb : bb = true ↔ MayP ss u k a)
    (hbt : w.cell? ⟨bt, 0, none⟩ = some (.slice A ss.length c)) (hba : w.cell? ⟨ba, 0, none⟩ = some (.int .i64 (a : Int))) :
    Calls Try.prog 36 #[.pointer (some ⟨b, 0, none⟩), .pointer (some ⟨bt, 0, none⟩), .pointer (some ⟨ba, 0, none⟩)] w fun e w' => e = .returned (.bool bb) ∧ Below w.heap.size w w' := by
  have H := Lib.hid (mayBeNext_any A c base n a k b bs ss u bb w ht hl hlt hn hk hb hbb)
  clear ht hlt hbb hb
  go_enter Try.func36, Try.ntmps36
  go_wp2_with fail
  refine H.out.mono ?_
  rintro e w' ⟨rfl, hb⟩
  have HB := Lib.hid hb
  clear hb
  go_wp2_with fail
  go_ret
  exact ⟨rfl, HB.out⟩

set_option maxRecDepth 100000 in
set_option maxHeartbeats 2000000 in
theorem indexStreet_any (A : Option Addr) (c base n a x bt ba : Nat) (bs : List Nat) (ss : List St) (u : Nat → Bool) (w : World) (ht : Town w base A bs (sws ss u)) (hl : ss.length ≤ 7) (hlt : ∀ s ∈ ss, s.1 < n ∧ s.2.1 < n) (hn : n ≤ 5) (hx : MayP ss u x a) (hle : ∀ i, i < x → ¬ MayP ss u i a)
    (hbt : w.cell? ⟨bt, 0, none⟩ = some (.slice A ss.length c)) (hbtz : bt < w.heap.size) (hba : w.cell? ⟨ba, 0, none⟩ = some (.int .i64 (a : Int))) (hbaz : ba < w.heap.size) :
    Calls Try.prog 35 #[.slice A ss.length c, .func (Fn.func 36) #[] #[.pointer (some ⟨bt, 0, none⟩), .pointer (some ⟨ba, 0, none⟩)]] w fun e w' => e = .returned (.int .i64 (x : Int)) ∧ Below w.heap.size w w' := by
  have HT := Lib.hid ht
  have HLT := Lib.hid hlt
  have HX := Lib.hid hx
  have HLE := Lib.hid hle
  have hxl : x < ss.length := hx.1
  have HBT := Lib.hid hbt
  have HBA := Lib.hid hba
  clear ht hlt hx hle hbt hba
  go_enter Try.func35, Try.ntmps35
  go_wp2_with fail
  go_loopw [8] (fun i wr => ∃ k : Nat, k ≤ x ∧ i = .int .i64 k ∧ Below w.heap.size w wr) (fun i _ => ss.length - (intOf i).toNat)
  case atStart => exact ⟨0, by omega, rfl, Below.refl _ _⟩
  case round =>
    obtain ⟨k, hk, rfl, hbr⟩ := hrel
    have HBR := Lib.hid hbr
    have hkl : k < ss.length := by omega
    obtain ⟨b0, o, d, hA, hb0, g0, hd, _, e1, _, _, _, _⟩ := Town.street HT.out (show k < (sws ss u).length by rw [sws_len]; exact hkl)
    have q0 := cell_keep hbr hb0 g0
    have hkI : (k : Int) < (ss.length : Int) := by omega
    have hk0 : (0 : Int) ≤ (k : Int) := by omega
    have hC : ∀ bb : Bool, (bb = true ↔ MayP ss u k a) → Calls Try.prog 36 #[.pointer (some ⟨d, 0, none⟩), .pointer (some ⟨bt, 0, none⟩), .pointer (some ⟨ba, 0, none⟩)] wr fun e w' => e = .returned (.bool bb) ∧ Below wr.heap.size wr w' := fun bb hbb =>
      mayFn_any A c base n a k d bt ba bs ss u bb wr (HT.out.keep hbr) hl HLT.out hn hkl e1 hbb (cell_keep hbr hbtz HBT.out) (cell_keep hbr hbaz HBA.out)
    by_cases hkx : k = x
    · have HC := Lib.hid (hC true ⟨fun _ => by rw [hkx]; exact HX.out, fun _ => rfl⟩)
      have HKX := Lib.hid hkx
      subst hA
      clear hC g0 hb0 hd e1 hbr hkx
      go_wp2_with (go_at_call 36; (with_reducible refine HC.out.mono ?_); rintro e w' ⟨rfl, hb7⟩; have HB7 := Lib.hid (HBR.out.trans (hb7.mono HBR.out.size)); clear hb7)
      go_ret
      exact ⟨by rw [← HKX.out]; rfl, HB7.out⟩
    · have HC := Lib.hid (hC false ⟨(fun h => by cases h), fun h => absurd h (HLE.out k (by omega))⟩)
      have hkx2 : k < x := by omega
      subst hA
      clear hC g0 hb0 hd e1 hbr hkx
      go_wp2_with (go_at_call 36; (with_reducible refine HC.out.mono ?_); rintro e w' ⟨rfl, hb7⟩; have HB7 := Lib.hid (HBR.out.trans (hb7.mono HBR.out.size)); clear hb7)
      go_roundw
      case rel => exact ⟨k + 1, by omega, by go_num, HB7.out⟩
      case measure => simp [intOf]; omega


/-- The streets lie below a block. -/
def TownL (w : World) (base B : Nat) (A : Option Addr) (bs : List Nat) (L : List SW) : Prop :=
  Town w base A bs L ∧ Own w 0 B A (bs.map fun b => Value.pointer (some ⟨b, 0, none⟩)) ∧ (∀ b ∈ bs, b < B) ∧ B ≤ w.heap.size
theorem TownL.keep {w w' : World} {base B : Nat} {A : Option Addr} {bs : List Nat} {L : List SW} (h : TownL w base B A bs L) (hb : Below B w w') : TownL w' base B A bs L := by
  obtain ⟨⟨h1, h2, h3, h4⟩, h5, h6, h7⟩ := h
  have hz := hb.size
  have h8 := h5.below (w' := w') hb
  refine ⟨⟨h1, h8.more (by omega), h3, fun j hj hl => ?_⟩, h8, h6, by omega⟩
  obtain ⟨g1, g2⟩ := h4 j hj hl
  exact ⟨g1, by rw [hb.block _ (h6 _ (List.getElem_mem hj))]; exact g2⟩
theorem TownL.put {w : World} {base B : Nat} {A : Option Addr} {bs : List Nat} {ss : List St} {u : Nat → Bool} {k b : Nat} (h : TownL w base B A bs (sws ss u)) (hk : k < ss.length) (hb : bs[k]? = some b) :
    TownL (w.setCell ⟨b, 3, none⟩ (.bool true)) base B A bs (sws ss (walkU u k)) := by
  obtain ⟨h1, h5, h6, h7⟩ := h
  have h8 : Town _ base A bs (sws ss (walkU u k)) := h1.put hk hb true
  have hsz : (w.setCell ⟨b, 3, none⟩ (.bool true)).heap.size = w.heap.size := by simp [World.setCell]
  refine ⟨h8, ?_, h6, by rw [hsz]; exact h7⟩
  obtain ⟨_, h9, _, _⟩ := h8
  rcases h5 with h5 | ⟨b0, o, hA, g1, g2, _, _⟩
  · exact .inl h5
  · rcases h9 with h9 | ⟨b1, o1, hA1, g3, _, g5, g6⟩
    · exact .inl h9
    · rw [hA] at hA1
      simp only [Option.some.injEq, Addr.mk.injEq, and_true] at hA1
      obtain ⟨rfl, rfl⟩ := hA1
      exact .inr ⟨b0, o, hA, g1, g2, g5, g6⟩

/-- What is known at the j-th street. -/
structure IrSt (w W : World) (bt ba B A c base : Nat) (AA : Option Addr) (bs : List Nat) (ss : List St) (u : Nat → Bool) (a : Nat) (H : Option Addr) (m c' : Nat) (xs : List Value) : Prop where
  cT : W.cell? ⟨bt, 0, none⟩ = some (.slice AA A c)
  cTB : bt < B
  cA : W.cell? ⟨ba, 0, none⟩ = some (.int .i64 (a : Int))
  cF : W.frozen? ⟨ba, 0, none⟩ = false
  cAz : ba < W.heap.size
  cAB : B ≤ ba
  tw : TownL W base bt AA bs (sws ss u)
  row : W.ownsRow B 3 1 (.slice H m c') m xs
  ne : ∀ i, (Value.slice H m c').ownBlock = some i → i ≠ ba
  low : Below w.heap.size w W
  le : w.heap.size ≤ bt
  cZ : B ≤ W.heap.size
section
variable {w W X : World} {bt ba B A c base a m c' : Nat} {AA H : Option Addr} {bs : List Nat} {ss : List St} {u : Nat → Bool} {xs : List Value}
theorem IrSt.keep (h : IrSt w W bt ba B A c base AA bs ss u a H m c' xs) (hb : Below W.heap.size W X) : IrSt w X bt ba B A c base AA bs ss u a H m c' xs := by
  obtain ⟨h1, h2, h3, h4, h5, h6, h7, h8, h9, h10, h11, h12⟩ := h
  have hz := hb.size
  exact ⟨cell_keep hb (by omega) h1, h2, cell_keep hb h5 h3, by rw [hb.frozen (p := ⟨ba, 0, none⟩) h5]; exact h4, by omega, h6, h7.keep (hb.mono (by omega)), own_keep3 h8 hb, h9, h10.trans (hb.mono h10.size), h11, by omega⟩
theorem IrSt.walk (h : IrSt w W bt ba B A c base AA bs ss u a H m c' xs) {k b : Nat} (hk : k < ss.length) (hb : bs[k]? = some b) (hw : w.heap.size ≤ base) : IrSt w (W.setCell ⟨b, 3, none⟩ (.bool true)) bt ba B A c base AA bs ss (walkU u k) a H m c' xs := by
  obtain ⟨h1, h2, h3, h4, h5, h6, h7, h8, h9, h10, h11, h12⟩ := h
  have hsz : (W.setCell ⟨b, 3, none⟩ (.bool true)).heap.size = W.heap.size := by simp [World.setCell]
  have hbl : b < bt := h7.2.2.1 b (List.mem_of_getElem? hb)
  have hbb : base ≤ b := by
    obtain ⟨⟨g1, _, _, g4⟩, _⟩ := h7
    rw [sws_len] at g1
    have hkb : k < bs.length := by omega
    have := (g4 k hkb (by rw [sws_len]; exact hk)).1
    rw [List.getElem?_eq_getElem hkb] at hb
    rw [← Option.some.inj hb]; exact this
  refine ⟨?_, h2, ?_, by rw [World.frozen?_setCell]; exact h4, by omega, h6, h7.put hk hb, ?_, h9, h10.setCell (p := ⟨b, 3, none⟩) (by show w.heap.size ≤ b; omega) _, h11, by omega⟩
  · rw [World.cell?_setCell_other _ _ _ _ (by intro e; injection e with e1 e2; omega)]; exact h1
  · rw [World.cell?_setCell_other _ _ _ _ (by intro e; injection e with e1 e2; omega)]; exact h3
  · exact h8.kept (g_set (World.grownBy.refl W (some b)) 3 (.bool true)) (own_ne h8 (by omega))
theorem IrSt.at (h : IrSt w W bt ba B A c base AA bs ss u a H m c' xs) (z : Nat) : IrSt w (W.setCell ⟨ba, 0, none⟩ (.int .i64 (z : Int))) bt ba B A c base AA bs ss u z H m c' xs := by
  obtain ⟨h1, h2, h3, h4, h5, h6, h7, h8, h9, h10, h11, h12⟩ := h
  have hsz : (W.setCell ⟨ba, 0, none⟩ (.int .i64 (z : Int))).heap.size = W.heap.size := by simp [World.setCell]
  refine ⟨?_, h2, World.cell?_setCell_same _ _ _ h3, by rw [World.frozen?_setCell]; exact h4, by omega, h6, h7.keep ((Below.refl _ _).setCell (p := ⟨ba, 0, none⟩) (by show bt ≤ ba; omega) _), ?_, h9, h10.setCell (p := ⟨ba, 0, none⟩) (by show w.heap.size ≤ ba; omega) _, h11, by omega⟩
  · rw [World.cell?_setCell_other _ _ _ _ (by intro e; injection e with e1 e2; omega)]; exact h1
  · refine h8.kept (g_set (World.grownBy.refl W (some ba)) 0 _) ?_
    cases hq : (Value.slice H m c').ownBlock with
    | none => exact .inl rfl
    | some i => exact .inr (by intro e; exact h9 i hq (Option.some.inj e))
theorem IrSt.push (h : IrSt w W bt ba B A c base AA bs ss u a H m c' xs) {H2 : Option Addr} {c2 : Nat} {v : Value} (ho : X.ownsRow B 3 1 (.slice H2 (m + 1) c2) (m + 1) (xs ++ [v])) (hg : W.grownBy X (Value.slice H m c').ownBlock) (hn : H2.map (·.block) = H.map (·.block) ∨ H2.map (·.block) = some (W.heap.size + 1)) : IrSt w X bt ba B A c base AA bs ss u a H2 (m + 1) c2 (xs ++ [v]) := by
  obtain ⟨h1, h2, h3, h4, h5, h6, h7, h8, h9, h10, h11, h12⟩ := h
  have hz := hg.size
  have hbl : X.heap[ba]? = W.heap[ba]? := hg.block ba h5 (fun e => h9 ba e.symm rfl)
  have hB : Below B W X := (Below.refl _ _).grown hg h12 (fun k hk => (h8.lt k hk).1)
  refine ⟨cell_keep hB h2 h1, h2, ?_, ?_, by omega, h6, h7.keep (hB.mono (by omega)), ho, ?_, h10.trans (hB.mono (by omega)), h11, by omega⟩
  · exact (World.cell?_of_block (a := ⟨ba, 0, none⟩) hbl).trans h3
  · exact (World.frozen?_of_block (a := ⟨ba, 0, none⟩) hbl).trans h4
  · intro i hi
    have hH : ∀ (K : Option Addr) (p q : Nat), (Value.slice K p q).ownBlock = K.map (·.block) := fun K p q => by cases K <;> rfl
    rw [hH] at hi
    rcases hn with hn | hn
    · exact h9 i (by rw [hH, ← hn]; exact hi)
    · rw [hn] at hi
      have := Option.some.inj hi
      omega
end
end Go.Proofs.Ytjklnknlifpidaa
