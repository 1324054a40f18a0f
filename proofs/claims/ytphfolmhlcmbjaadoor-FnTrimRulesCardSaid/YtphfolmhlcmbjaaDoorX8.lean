/- Shadowed rules, both sides. No condition. -/
import Derived.Test.YtphfolmhlcmbjaaDoorX5
import Derived.Test.YtphfolmhlcmbjaaDoorRd2
import Derived.Deep.RegionHeld3
import Derived.BigQuiet
import Derived.Deep.QuietTactic
namespace Go.Proofs.YtphfolmhlcmbjaaDoor
open Go.RowKit

def uRes (w : World) (V : List Int) (e : Ending) (w' : World) : Prop := ∃ A c, e = .returned (.slice A V.length c) ∧ V.length ≤ c ∧ OwnInts w' w.heap.size w'.heap.size A V ∧ Below w.heap.size w w'
theorem uRes_row {w w' : World} {A : Option Addr} {n c : Nat} {V : List Int} (h : w'.ownsRow w.heap.size 3 1 (.slice A n c) n (V.map (Value.int .i64))) (hn : n = V.length) (hb : Below w.heap.size w w') : uRes w V (.returned (.slice A n c)) w' := by
  subst hn
  obtain ⟨A', c', hv, _, ho⟩ := own_of_row h
  have hcap := own_cap h
  simp only [Value.slice.injEq] at hv
  obtain ⟨rfl, _, rfl⟩ := hv
  exact ⟨A, c, rfl, hcap, ho, hb⟩
theorem uRes.none {V : List Int} (hV : V = []) {w w' : World} (hb : Below w.heap.size w w') : uRes w V (.returned (.slice none 0 0)) w' := by
  subst hV
  exact ⟨Option.none, 0, rfl, Nat.le_refl _, .inl rfl, hb⟩
theorem ownU_below {w w' : World} {base : Nat} {e : TypeId} {size n : Nat} {v : Value} {xs : List Value} (h : w.ownsRow base e size v n xs) (hb : Below w.heap.size w w') : w'.ownsRow base e size v n xs :=
  h.kept (row := Option.none) ⟨hb.os, hb.tape, hb.output, hb.size, fun i hi _ => hb.block i hi⟩ (by by_cases h : v.ownBlock = Option.none; exact .inl h; exact .inr h)
/-- What ShadowedOf answers. -/
def shadR (rs : List (ByteArray × Int)) : List Int := if rulesB rs = true then shadT rs rs.length else []
theorem shad_hit {rs : List (ByteArray × Int)} {i : Nat} (hi : i < rs.length) {s : ByteArray} (hs : rs[i].1 = s) : shad rs i = hit (rs.take i) s := by rw [shad_at hi, hs]
theorem shad_no {rs : List (ByteArray × Int)} {n : Nat} (h : ¬ shad rs n = true) : shadT rs (n + 1) = shadT rs n := by rw [shadT_succ, if_neg h, List.append_nil]
theorem shad_yes {rs : List (ByteArray × Int)} {n : Nat} (h : shad rs n = true) : shadT rs (n + 1) = shadT rs n ++ [(n : Int)] := by rw [shadT_succ, if_pos h]

set_option maxRecDepth 100000 in
set_option maxHeartbeats 4000000 in
theorem specShadowedOf_any (A : Option Addr) (c : Nat) (rs : List (ByteArray × Int)) (w : World) (hr : Own w 0 w.heap.size A (flat rs)) (hl : rs.length ≤ 1048576) (hs : ∀ r ∈ rs, r.1.size ≤ 1048576) :
    Calls Tryd.prog 25 #[.slice A rs.length c] w (uRes w (shadR rs)) := by
  obtain ⟨i0, hi0, hz0, hz1, hz2⟩ := info_parts Tryd.info3
  have hva := specvRules_any A c rs w hr hl hs
  have HS := Lib.hid hs
  by_cases hv : rulesB rs = true
  · have h7 := rulesB_len hv
    have HR := Lib.hid (show shadR rs = shadT rs rs.length by rw [shadR, if_pos hv])
    rw [hv] at hva
    have HVA := Lib.hid hva
    rw [HR.out]
    clear hva hv hs
    go_enter Tryd.func25, Tryd.ntmps25
    go_wp2_with fail
    refine HVA.out.mono ?_
    rintro e w1 ⟨rfl, n1, hw1⟩
    have b1 : Below w.heap.size w w1 := by rw [hw1]; exact below_drewN (Below.refl _ _) n1
    have hr1 := hr.below b1
    have hz1' := b1.size
    have HST := Lib.hid (And.intro (World.ownsRow_lit w1 #[] (e := 3) (size := 1) 0 (Nat.le_refl _) (by simp [maxLen]) rfl : (w1.alloc (.cells #[] 3)).ownsRow w1.heap.size 3 1 (.slice (some ⟨w1.heap.size, 0, none⟩) 0 0) 0 []) (b1.alloc (o := .cells #[] 3) hz1'))
    have HR1 := Lib.hid hr1
    clear hw1 hr1 b1
    go_wp2
    go_loopw [3, 4] (fun v i wr => ∃ (n : Nat) (H : Option Addr) (cH : Nat), n ≤ rs.length ∧ i = .int .i64 n ∧ v = .slice H (shadT rs n).length cH ∧ wr.ownsRow w.heap.size 3 1 (.slice H (shadT rs n).length cH) (shadT rs n).length ((shadT rs n).map (Value.int .i64)) ∧ Below w.heap.size w wr) (fun _ i _ => rs.length - (intOf i).toNat)
    case atStart => exact ⟨0, _, 0, by omega, rfl, rfl, own_base HST.out.1 hz1', HST.out.2⟩
    case round =>
      obtain ⟨n, H, cH, hn, rfl, rfl, hown, hbr⟩ := hrel
      clear HST
      have HO := Lib.hid hown
      have HBR := Lib.hid hbr
      have hbz := hbr.size
      have hshl := shadT_len rs n
      obtain ⟨W, hW⟩ : ∃ W : World, W = wr := ⟨_, rfl⟩
      subst hW
      have HO2 := Lib.hid (fun (X : World) (h : Below W.heap.size W X) => ownU_below hown h)
      obtain ⟨L, hL⟩ : ∃ L, (shadT rs n).length = L := ⟨_, rfl⟩
      have HL := Lib.hid hL
      rw [hL] at hshl HO2
      rw [hL]
      clear hL hown hbr
      by_cases hlt : n < rs.length
      · have HSA := Lib.hid (fun s hs => shad_hit (rs := rs) (i := n) hlt (s := s) hs)
        obtain ⟨b, o, rfl, hb, hc⟩ := (hr.below HBR.out).open (by rw [flat_length]; omega)
        have HC := Lib.hid hc
        obtain ⟨hc1, hc2⟩ := routes_at hc hlt
        have hsz := HS.out _ (List.getElem_mem hlt)
        obtain ⟨s, hse⟩ : ∃ s, rs[n].1 = s := ⟨_, rfl⟩
        rw [hse] at hc1 hsz
        have HSH := Lib.hid (HSA.out s hse)
        have HC1 := Lib.hid hc1
        have hnI : (n : Int) < rs.length := by omega
        have hn0 : (0 : Int) ≤ (n : Int) := by omega
        have hbW : b < W.heap.size := by omega
        clear hc hc1 hc2 hse HSA
        go_wp2
        go_loopw [5, 6] (fun v i wx => ∃ j : Nat, j ≤ n ∧ i = .int .i64 j ∧ v = .bool (hit (rs.take j) s) ∧ ∃ q, wx = W.drewN q) (fun _ i _ => n - (intOf i).toNat)
        case atStart => exact ⟨0, by omega, rfl, rfl, 0, rfl⟩
        case round =>
          obtain ⟨j, hj, rfl, rfl, hq⟩ := hrel
          have HQ := Lib.hid hq
          have hbq : Below W.heap.size W wr := by obtain ⟨q, rfl⟩ := hq; exact below_drewN (Below.refl _ _) q
          obtain ⟨X, hX⟩ : ∃ X : World, X = wr := ⟨_, rfl⟩
          subst hX
          clear hq
          obtain ⟨F, hF⟩ : ∃ F, hit (rs.take j) s = F := ⟨_, rfl⟩
          have HF := Lib.hid hF
          rw [hF]
          by_cases hjn : j < n
          · have hjl : j < rs.length := by omega
            obtain ⟨hj1, _⟩ := routes_at HC.out hjl
            have g1 := cell_stay hbq hbW HC1.out
            have g2 := cell_stay hbq hbW hj1
            have HTK := Lib.hid (hit_take (m := s) hjl)
            obtain ⟨t, hte⟩ : ∃ t, rs[j].1 = t := ⟨_, rfl⟩
            rw [hte] at g2 HTK
            have hjI : (j : Int) < rs.length := by omega
            have hjnI : (j : Int) < (n : Int) := by omega
            have hj0 : (0 : Int) ≤ (j : Int) := by omega
            have hbg := fun Y => begins_any s t Y
            obtain ⟨p, hp⟩ : ∃ p, bg s t = p := ⟨_, rfl⟩
            rw [hp] at hbg HTK
            have HBG := Lib.hid hbg
            clear hte hp hbg hF hj1 hbq
            cases F with
            | true =>
              go_wp2
              go_quiet (fail)
              go_simp
              go_wp2
              go_roundw
              case rel => exact ⟨j + 1, by omega, by go_num, by rw [HTK.out, HF.out]; rfl, by obtain ⟨q, h⟩ := HQ.out; rw [h]; exact ⟨_, World.drewN_drewN ..⟩⟩
              case measure => simp [intOf]; omega
            | false =>
              go_wp2
              go_quiet ((go_at_call 56; with_reducible exact Calls.quiet_of (HBG.out _)))
              go_simp
              go_wp2
              go_roundw
              case rel => exact ⟨j + 1, by omega, by go_num, by rw [HTK.out, HF.out]; rfl, by obtain ⟨q, h⟩ := HQ.out; rw [h]; exact ⟨_, World.drewN_drewN ..⟩⟩
              case measure => simp [intOf]; omega
          · have hjn' : j = n := by omega
            subst hjn'
            have HSF := Lib.hid (show shad rs j = F by rw [HSH.out, HF.out])
            have hownX := HO2.out X hbq
            have hBX := HBR.out.trans (hbq.mono hbz)
            have hd1 : decide (j < j) = false := by simp
            cases F with
            | true =>
              have HY := Lib.hid (shad_yes HSF.out)
              have HBX := Lib.hid hBX
              clear hF hbq hBX
              go_wp2_with (at_builtin; refine wpList_push rfl (.tmp 37) (.tmp 39) 36 rfl i0 (.int .i64 0) 8 Tryd.underlying36 hi0 hz0 hz1 hz2 rfl (by decide) _ _ rfl hownX [.int .i64 (j : Int)] rfl rfl (by simp [Value.oneCell']) (by omega) (by omega) HBX.out.size ?_)
              intro H' c' w5 hown5 hg5
              have HW := Lib.hid (And.intro hown5 (HBX.out.grown hg5 HBX.out.size (fun i hi => (hownX.lt _ hi).1)))
              clear hownX hown5 hg5 hd1
              go_wp2
              go_roundw
              case rel =>
                have e : (shadT rs (j + 1)).length = L + 1 := by rw [HY.out, List.length_append, HL.out]; rfl
                refine ⟨j + 1, H', c', by omega, by go_num, by rw [e], ?_, HW.out.2⟩
                rw [e, HY.out, List.map_append]
                exact HW.out.1
              case measure => simp [intOf]; omega
            | false =>
              have HN := Lib.hid (shad_no (rs := rs) (n := j) (by rw [HSF.out]; simp))
              have HW := Lib.hid (And.intro hownX hBX)
              clear hF hbq hBX hownX
              go_wp2
              clear hd1
              go_roundw
              case rel =>
                have e : (shadT rs (j + 1)).length = L := by rw [HN.out, HL.out]
                refine ⟨j + 1, H, cH, by omega, by go_num, by rw [e], ?_, HW.out.2⟩
                rw [e, HN.out]
                exact HW.out.1
              case measure => simp [intOf]; omega
      · have hn' : n = rs.length := by omega
        subst hn'
        have HFIN := Lib.hid (uRes_row (V := shadT rs rs.length) (HO2.out W (Below.refl _ _)) HL.out.symm HBR.out)
        go_wp2
        go_ret
        exact HFIN.out
  · have hv' : rulesB rs = false := by simpa using hv
    have HR := Lib.hid (show shadR rs = [] by rw [shadR, if_neg hv])
    rw [hv'] at hva
    have HVA := Lib.hid hva
    clear hva hv hv' hs
    go_enter Tryd.func25, Tryd.ntmps25
    go_wp2_with fail
    refine HVA.out.mono ?_
    rintro e w1 ⟨rfl, n1, hw1⟩
    have b1 := Lib.hid (show Below w.heap.size w w1 by rw [hw1]; exact below_drewN (Below.refl _ _) n1)
    clear hw1
    go_wp2
    go_ret
    exact uRes.none HR.out b1.out
end Go.Proofs.YtphfolmhlcmbjaaDoor
