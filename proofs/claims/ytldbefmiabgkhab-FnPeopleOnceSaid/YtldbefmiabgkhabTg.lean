/- impl.reachedBy. No condition. -/
import Derived.Test.YtldbefmiabgkhabTf
import Derived.Deep.LoopGhost
namespace Go.Proofs.Ytldbefmiabgkhab
open Go.RowKit
open Go.Maps

theorem all_wf {zs : List Int} (h : ∀ z ∈ zs, 0 ≤ z ∧ z ≤ 8) {k : Nat} (hk : k < zs.length) : (Lit.int .i64 zs[k]).wf = true := by
  have := h _ (List.getElem_mem hk)
  exact int_wf (by omega) (by omega)

set_option maxRecDepth 100000 in
set_option maxHeartbeats 16000000 in
theorem reachedBy_any (A B : Option Addr) (c cB : Nat) (rs : List (List Int)) (ns : List Int) (p : Nat → Bool) (w : World) (hr : Grid w 0 w.heap.size A rs) (hns : Ints w w.heap.size B ns) (hg : groupsB rs = true) (hl : ns.length ≤ 1000000000)
    (hn : ∀ z ∈ ns, 0 ≤ z ∧ z ≤ 8) (hp : ∀ x : Nat, x < 9 → (p x = true ↔ Rc rs (· ∈ ns) x)) :
    Calls Try.prog 33 #[.slice A rs.length c, .slice B ns.length cB] w (iRes w (upL p 9)) := by
  have hmm := @run_makeMap Try.prog
  obtain ⟨i0, hi0, hz0, hz1, hz2⟩ := info_parts Try.infoD
  have HG := Lib.hid hg
  have HP := Lib.hid hp
  have HN := Lib.hid hn
  have HR := Lib.hid hr
  have HB := Lib.hid hns
  have HST := Lib.hid (World.ownsMap_made w Try.prog 3 (plainElem (H := Unit) Try.prog 4))
  obtain ⟨b, hbe⟩ : ∃ b, w.heap.size = b := ⟨_, rfl⟩
  have HBE := Lib.hid hbe
  clear hp hg hn hr hns
  go_enter Try.func33, Try.ntmps33
  go_wp2
  rw [hbe] at HST
  clear hbe hmm
  go_loopw [12] (fun i wr => ∃ (k : Nat) (D : DataW Unit), k ≤ 9 ∧ i = .int .i64 k ∧ wr.ownsMap Try.prog 3 (plainElem Try.prog 4) b k D ∧ Hid (KU D (fun x => decide (0 ≤ x) && decide (x < k))) ∧ Below b w wr) (fun i _ => 9 - (intOf i).toNat)
  case atStart => exact ⟨0, .map [], by omega, rfl, HST.out, Lib.hid (KU.empty.congr fun x => by simp), (Below.refl _ _).alloc (by have := HBE.out; omega) _⟩
  case round =>
    clear HST
    obtain ⟨k, D, hk, rfl, hown, HK, hbr⟩ := hrel
    have HBR := Lib.hid hbr
    have hbz := hbr.size
    have hlt0 := hown.lt
    by_cases hk9 : k < 9
    · have hkI : (k : Int) < 9 := by omega
      have hkey := keyOf_int_mk Try.underlying3 (int_wf (x := (k : Int)) (by omega) (by omega))
      have HKP := Lib.hid ((HK.out.put hown.isMap k).congr (v := fun x => decide (0 ≤ x) && decide (x < ((k + 1 : Nat) : Int))) (fun x => by
        by_cases e : x = (k : Int)
        · subst e; simp; omega
        · by_cases e2 : 0 ≤ x
          · by_cases e3 : x < (k : Int)
            · simp [e, e2, e3]; omega
            · simp [e, e2, e3]; omega
          · simp [e, e2]))
      clear hbr
      go_wp2_with (first
        | (at_mapUpdate; refine wpList_mapUpdate_own _ rfl _ _ _ 52 rfl 3 4 Try.lawInt Try.underlying52 (plainElem (H := Unit) Try.prog 4) b k _ rfl hown (by unfold maxLen; omega) _ _ _ rfl rfl hkey _ [] (plainElem_bool Try.underlying4 true) ?_; intro w1 hown1 hgrow1)
        | go_in)
      have HW := Lib.hid (And.intro hown1 (HBR.out.grown hgrow1 (by omega) (fun j hj => by injection hj with hj; omega)))
      clear hown hown1 hgrow1 hkey
      go_roundw
      case rel => exact ⟨k + 1, _, by omega, by go_num, HW.out.1, HKP, HW.out.2⟩
      case measure => simp [intOf]; omega
    · have hke : k = 9 := by omega
      subst hke
      have HS2 := Lib.hid (And.intro hown (And.intro HK.out hbr))
      clear hown hbr HBR hbz hlt0
      go_wp2_with fail
      go_loopw [20] (fun i wr => ∃ (k : Nat) (D : DataW Unit), k ≤ ns.length ∧ i = .int .i64 k ∧ wr.ownsMap Try.prog 3 (plainElem Try.prog 4) b 9 D ∧ Hid (KU D (fun x => (decide (0 ≤ x) && decide (x < 9)) && !decide (x ∈ ns.take k))) ∧ Below b w wr) (fun i _ => ns.length - (intOf i).toNat)
      case atStart => exact ⟨0, D, by omega, rfl, HS2.out.1, Lib.hid (HS2.out.2.1.congr fun x => by simp), HS2.out.2.2⟩
      case round =>
        clear HS2 HK
        obtain ⟨k, D, hk, rfl, hown, HK, hbr⟩ := hrel
        have HBR := Lib.hid hbr
        have hbz := hbr.size
        have hlt0 := hown.lt
        by_cases hlk : k < ns.length
        · obtain ⟨bn, on, rfl, hbn, hc⟩ := ((HB.out.more (B' := b) (by have := HBE.out; omega)).below hbr).open (by simp; omega)
          have hcell := ints_at hc hlk
          have hkey := keyOf_int_mk Try.underlying3 (all_wf HN.out hlk)
          have HT := Lib.hid (List.take_succ_eq_append_getElem hlk)
          obtain ⟨z, hz⟩ : ∃ z, ns[k] = z := ⟨_, rfl⟩
          rw [hz] at hcell hkey HT
          have hkI : (k : Int) < (ns.length : Int) := by omega
          have HKP := Lib.hid ((HK.out.del z).congr (v := fun x => (decide (0 ≤ x) && decide (x < 9)) && !decide (x ∈ ns.take (k + 1))) (fun x => by
            rw [HT.out]
            by_cases e : x = z
            · subst e; simp
            · simp [e]))
          clear hz hc hbr
          go_wp2_with (first
            | (at_delete; refine wpList_delete_own _ rfl _ _ 52 3 rfl 4 Try.lawInt Try.underlying52 _ b 9 _ rfl hown _ _ rfl hkey ?_; intro w1 hown1 hturn1; go_frame)
            | go_in)
          have HW := Lib.hid (And.intro hown1 (HBR.out.grown hturn1.grown (by omega) (fun j hj => by injection hj with hj; omega)))
          clear hown hown1 hturn1 hkey
          go_roundw
          case rel => exact ⟨k + 1, _, by omega, by go_num, HW.out.1, HKP, HW.out.2⟩
          case measure => simp [intOf]; omega
        · have hke : k = ns.length := by omega
          subst hke
          have HUN := Lib.hid (show Un rs (· ∈ ns) (fun x => (decide (0 ≤ x) && decide (x < 9)) && !decide (x ∈ ns)) from by
            refine ⟨fun x h => ?_, fun x h => ?_, fun x h0 h1 h => ?_⟩
            · simp at h; omega
            · simp [h]
            · simp [h0, show x < 9 by omega] at h; exact Rc.base h)
          have HS2 := Lib.hid (And.intro hown (And.intro (show KU D (fun x => (decide (0 ≤ x) && decide (x < 9)) && !decide (x ∈ ns)) by have := HK.out; rwa [List.take_length] at this) hbr))
          clear hown hbr HBR hbz hlt0
          go_wp2_with fail
          go_loopg [29] (Maps.size D + 1) (fun gk _ wr => ∃ (D : DataW Unit) (u : Int → Bool), Maps.size D < gk ∧ wr.ownsMap Try.prog 3 (plainElem Try.prog 4) b 9 D ∧ Hid (KU D u ∧ Un rs (· ∈ ns) u) ∧ Below b w wr)
          case atStart => exact ⟨D, _, by omega, HS2.out.1, Lib.hid ⟨HS2.out.2.1, HUN.out⟩, HS2.out.2.2⟩
          case round =>
            clear HS2 HUN HK
            obtain ⟨D, u, hgk, hown, HK, hbr⟩ := hrel
            have HBR := Lib.hid hbr
            have hbz := hbr.size
            have HC := Lib.hid (reachMembers_any A c b 9 rs (· ∈ ns) D u wr ((HR.out.more (B' := b) (by have := HBE.out; omega)).below hbr) HG.out hown HK.out.1 HK.out.2)
            have hlt0 := hown.lt
            clear hown hbr
            go_wp2_with fail
            refine HC.out.mono ?_
            rintro e w2 ⟨bb, D2, u2, rfl, hown2, HK2, hb2⟩
            have HW := Lib.hid (And.intro hown2 (HBR.out.trans hb2))
            have hlt2 := hown2.lt
            cases bb with
            | true =>
              have HLS := Lib.hid (HK2.out.2.2.1 rfl)
              clear hown2 hb2
              go_wp2_with fail
              go_roundg (Maps.size D2 + 1)
              case measure => have := HLS.out; omega
              case rel => exact ⟨D2, u2, by omega, HW.out.1, Lib.hid ⟨HK2.out.1, HK2.out.2.1⟩, HW.out.2⟩
            | false =>
              have HU := Lib.hid (fun (x : Int) (h0 : 0 ≤ x) (h1 : x ≤ 8) => HK2.out.2.1.done (HK2.out.2.2.2 rfl) x h0 h1)
              have HPU := Lib.hid (show ∀ x : Nat, x < 9 → p x = !u2 x from fun x hx => by
                have h1 := HU.out x (by omega) (by omega)
                have h2 := HP.out x hx
                rw [← h1] at h2
                cases h3 : u2 (x : Int) with
                | true => rw [h3] at h2; simpa using h2
                | false => rw [h3] at h2; simpa using h2)
              obtain ⟨W2, hW2⟩ : ∃ W2 : World, W2 = w2 := ⟨_, rfl⟩
              subst hW2
              clear hown2 hb2
              go_wp2_with fail
              go_loopw [9, 30] (fun v x wr => ∃ (x' m c' : Nat) (H3 : Option Addr) (T : List Int), x' ≤ 9 ∧ x = .int .i64 x' ∧ v = .slice H3 m c' ∧ m ≤ 9 ∧ Hid (m = T.length ∧ T = upL p x') ∧ wr.ownsRow W2.heap.size 3 1 (.slice H3 m c') m (T.map (Value.int .i64)) ∧ Below W2.heap.size W2 wr) (fun _ x _ => 9 - (intOf x).toNat)
              case atStart => exact ⟨0, 0, _, _, [], by omega, rfl, rfl, by omega, Lib.hid ⟨rfl, rfl⟩, World.ownsRow_nil _ _ _ _, Below.refl _ _⟩
              case round =>
                obtain ⟨x, m, cT, H3, T, hx9, rfl, rfl, hm9, HT, hown, hbr⟩ := hrel
                have HO := Lib.hid hown
                have HB2 := Lib.hid hbr
                have hbz2 := hbr.size
                by_cases hlx : x < 9
                · have hxI : (x : Int) < 9 := by omega
                  have hmap := (show wr.ownsMap Try.prog 3 (plainElem Try.prog 4) b 9 D2 by
                    obtain ⟨es, clock, h1, h2⟩ := HW.out.1
                    exact ⟨es, clock, by rw [hbr.block b hlt2]; exact h1, h2⟩)
                  have hlook := lookB hmap HK2.out.1 (x := (x : Int)) (int_wf (by omega) (by omega))
                  have HPX := Lib.hid (HPU.out x hlx)
                  clear hown hbr hmap
                  cases hux : u2 (x : Int) with
                  | true =>
                    rw [hux] at hlook HPX
                    have HE := Lib.hid (upL_no (p := p) (m := x) HPX.out)
                    clear hux
                    go_wp2_with fail
                    go_roundw
                    case rel => exact ⟨x + 1, m, cT, H3, T, by omega, by go_num, rfl, hm9, Lib.hid ⟨HT.out.1, by rw [HE.out, HT.out.2]⟩, HO.out, HB2.out⟩
                    case measure => simp [intOf]; omega
                  | false =>
                    rw [hux] at hlook HPX
                    have HE := Lib.hid (upL_yes (p := p) (m := x) HPX.out)
                    have hm8 : m + 1 ≤ 9 := by
                      have h1 := HT.out
                      have h2 := upL_len p (x + 1)
                      rw [HE.out, ← h1.2, List.length_append, ← h1.1] at h2
                      simp at h2; omega
                    clear hux
                    go_wp2_with (at_builtin; refine wpList_push rfl (.tmp 37) (.tmp 39) 24 rfl i0 (.int .i64 0) 8 Try.underlying24 hi0 hz0 hz1 hz2 rfl (by decide) _ _ rfl HO.out [.int .i64 (x : Int)] rfl rfl (by simp [Value.oneCell']) (by omega) (by omega) hbz2 ?_)
                    intro H' c' w6 hown6 hg6
                    have HW6 := Lib.hid (And.intro hown6 (HB2.out.grown hg6 hbz2 (fun i hi => (HO.out.lt _ hi).1)))
                    clear hown6 hg6 hlook
                    go_wp2
                    go_roundw
                    case rel => exact ⟨x + 1, m + 1, c', H', T ++ [(x : Int)], by omega, by go_num, rfl, hm8, Lib.hid ⟨by rw [List.length_append, ← HT.out.1]; rfl, by rw [HE.out, HT.out.2]⟩, by rw [List.map_append]; exact HW6.out.1, HW6.out.2⟩
                    case measure => simp [intOf]; omega
                · have hxe : x = 9 := by omega
                  subst hxe
                  have HF := Lib.hid (show iRes w (upL p 9) (.returned (.slice H3 m cT)) wr by
                    rw [← HT.out.2]
                    have hb3 : Below b w wr := HW.out.2.trans (HB2.out.mono (by omega))
                    exact (iRes_row HO.out HT.out.1 HB2.out).wide (by rw [HBE.out]; exact HW.out.2))
                  clear hown hbr
                  go_wp2
                  go_ret
                  exact HF.out
end Go.Proofs.Ytldbefmiabgkhab
