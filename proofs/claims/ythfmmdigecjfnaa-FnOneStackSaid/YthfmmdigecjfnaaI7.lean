/- spec.unloads, spec.CanUnload. No condition. -/
import Derived.Test.YthfmmdigecjfnaaI5
namespace Go.Proofs.Ythfmmdigecjfnaa
open Go.RowKit

theorem okU_no {zs : List Int} {st : Nat → Nat} {i k : Nat} (hk : k < i) (h1 : st k = st i) (h2 : zs.getD k 0 < zs.getD i 0) : okU zs st i = false := by
  have : okU zs st i ≠ true := fun e => okU_iff.1 e k hk h1 h2
  simpa using this
def okUto (zs : List Int) (st : Nat → Nat) (i m : Nat) : Prop := ∀ k, k < m → st k = st i → ¬ zs.getD k 0 < zs.getD i 0

set_option maxRecDepth 100000 in
set_option maxHeartbeats 4000000 in
theorem specUnloads_any (A B : Option Addr) (c0 c1 : Nat) (zs ss : List Int) (w : World) (hr : Ints w w.heap.size A zs) (hs : Ints w w.heap.size B ss) (hl : zs.length ≤ 9) (he : ss.length = zs.length) (h8 : ∀ s ∈ ss, 0 ≤ s) :
    Calls Try.prog 51 #[.slice A zs.length c0, .slice B ss.length c1] w fun e w' => e = .returned (.bool ((List.range zs.length).all (okU zs (stN ss)))) ∧ Below w.heap.size w w' := by
  have HS8 := Lib.hid (show ∀ k, k < zs.length → 0 ≤ ss.getD k 0 from fun k hk => by rw [getD_get (by omega)]; exact h8 _ (List.getElem_mem _))
  have hle1 : ss.length ≤ zs.length := by omega
  have hle2 : zs.length ≤ ss.length := by omega
  obtain ⟨V, hV⟩ : ∃ V, (List.range zs.length).all (okU zs (stN ss)) = V := ⟨_, rfl⟩
  rw [hV]
  have HV := Lib.hid hV
  clear h8 he hV
  go_enter Try.func51, Try.ntmps51
  go_wp2
  go_loopw [5] (fun i wr => ∃ k : Nat, k ≤ zs.length ∧ i = .int .i64 k ∧ (List.range k).all (okU zs (stN ss)) = true ∧ ∃ q, wr = w.drewN q) (fun i _ => zs.length - (intOf i).toNat)
  case atStart => exact ⟨0, by omega, rfl, by simp, 0, rfl⟩
  case round =>
    obtain ⟨i, hi, rfl, hall, q0, hq0⟩ := hrel
    have HA := Lib.hid hall
    obtain ⟨W, hW⟩ : ∃ W : World, W = wr := ⟨_, rfl⟩
    subst hW
    have HQ0 := Lib.hid hq0
    have hrW := hr.below (show Below w.heap.size w W by rw [hq0]; exact below_drewN (Below.refl _ _) q0)
    have hsW := hs.below (show Below w.heap.size w W by rw [hq0]; exact below_drewN (Below.refl _ _) q0)
    clear hall hq0
    by_cases hlt : i < zs.length
    · obtain ⟨b, o, rfl, hb, hc⟩ := hrW.open (by simp; omega)
      obtain ⟨b2, o2, rfl, hb2, hc2⟩ := hsW.open (by simp; omega)
      have HC := Lib.hid hc
      have HC2 := Lib.hid hc2
      clear hc hc2 hr hs hrW hsW
      go_wp2_with fail
      go_loopw [6] (fun k wr => ∃ m : Nat, m ≤ i ∧ k = .int .i64 m ∧ okUto zs (stN ss) i m ∧ ∃ q, wr = W.drewN q) (fun k _ => i - (intOf k).toNat)
      case atStart => exact ⟨0, by omega, rfl, fun k hk => by omega, 0, rfl⟩
      case round =>
        obtain ⟨m, hm, rfl, hto, q, hq⟩ := hrel
        have HTO := Lib.hid hto
        have HQ := Lib.hid hq
        clear hto
        by_cases hlt2 : m < i
        · have hc1 : ∀ p, (wr.drewN p).cell? ⟨b, o + m, none⟩ = some (.int .i64 (zs.getD m 0)) := fun p => by rw [hq]; exact ints_atD HC.out (show m < zs.length by omega)
          have hc2 : ∀ p, (wr.drewN p).cell? ⟨b, o + i, none⟩ = some (.int .i64 (zs.getD i 0)) := fun p => by rw [hq]; exact ints_atD HC.out hlt
          have hc3 : ∀ p, (wr.drewN p).cell? ⟨b2, o2 + m, none⟩ = some (.int .i64 (ss.getD m 0)) := fun p => by rw [hq]; exact ints_atD HC2.out (show m < ss.length by omega)
          have hc4 : ∀ p, (wr.drewN p).cell? ⟨b2, o2 + i, none⟩ = some (.int .i64 (ss.getD i 0)) := fun p => by rw [hq]; exact ints_atD HC2.out (show i < ss.length by omega)
          have g1 := hc1 0
          have g2 := hc2 0
          have g3 := hc3 0
          have g4 := hc4 0
          have hn1 := HS8.out m (by omega)
          have hn2 := HS8.out i hlt
          obtain ⟨zm, hzm⟩ : ∃ z, zs.getD m 0 = z := ⟨_, rfl⟩
          obtain ⟨zi, hzi⟩ : ∃ z, zs.getD i 0 = z := ⟨_, rfl⟩
          obtain ⟨sm, hsm⟩ : ∃ z, ss.getD m 0 = z := ⟨_, rfl⟩
          obtain ⟨si, hsi⟩ : ∃ z, ss.getD i 0 = z := ⟨_, rfl⟩
          rw [hzm] at g1
          rw [hzi] at g2
          rw [hsm] at g3 hn1
          rw [hsi] at g4 hn2
          have HST := Lib.hid (show stN ss m = sm.toNat ∧ stN ss i = si.toNat by unfold stN; rw [hsm, hsi]; exact ⟨rfl, rfl⟩)
          have HZ := Lib.hid (And.intro hzm hzi)
          have hmI : (m : Int) < zs.length := by omega
          have hiI : (i : Int) < zs.length := by omega
          have hmJ : (m : Int) < ss.length := by omega
          have hiJ : (i : Int) < ss.length := by omega
          have hm0 : (0 : Int) ≤ (m : Int) := by omega
          have hi0' : (0 : Int) ≤ (i : Int) := by omega
          clear hc1 hc2 hc3 hc4 hzm hzi hsm hsi hq
          change wr.cell? _ = _ at g1 g2 g3 g4
          by_cases hse : sm = si
          · have hb1 : (sm == si) = true := beq_iff_eq.2 hse
            by_cases hz : zm < zi
            · have hd : decide (zm < zi) = true := decide_eq_true hz
              have HF := Lib.hid (show V = false by rw [← HV.out]; exact all_range_no hlt (okU_no hlt2 (by rw [HST.out.1, HST.out.2, hse]) (by rw [HZ.out.1, HZ.out.2]; exact hz)))
              clear hse hz
              go_wp2
              go_quiet (fail)
              go_simp
              go_wp2
              go_ret
              exact ⟨ret_bool HF.out.symm, by rw [HQ.out, HQ0.out]; exact below_drewN (below_drewN (below_drewN (Below.refl _ _) _) _) _⟩
            · have hd : decide (zm < zi) = false := decide_eq_false hz
              have HF := Lib.hid (show okUto zs (stN ss) i (m + 1) from fun k hk hks => by
                by_cases e : k = m
                · subst e; rw [HZ.out.1, HZ.out.2]; exact hz
                · exact HTO.out k (by omega) hks)
              clear hse hz
              go_wp2
              go_quiet (fail)
              go_simp
              go_wp2
              go_roundw
              case rel => exact ⟨m + 1, by omega, by go_num, HF.out, by rw [HQ.out]; exact ⟨_, World.drewN_drewN ..⟩⟩
              case measure => simp [intOf]; omega
          · have hb1 : (sm == si) = false := beq_eq_false_iff_ne.2 hse
            have HF := Lib.hid (show okUto zs (stN ss) i (m + 1) from fun k hk hks => by
              by_cases e : k = m
              · subst e; rw [HST.out.1, HST.out.2] at hks; omega
              · exact HTO.out k (by omega) hks)
            clear hse
            go_wp2
            go_quiet (fail)
            go_simp
            go_wp2
            go_roundw
            case rel => exact ⟨m + 1, by omega, by go_num, HF.out, by rw [HQ.out]; exact ⟨_, World.drewN_drewN ..⟩⟩
            case measure => simp [intOf]; omega
        · have hmi : m = i := by omega
          have HF := Lib.hid (show okU zs (stN ss) i = true from okU_iff.2 (by rw [hmi] at HTO; exact HTO.out))
          clear hq hmi
          go_wp2
          go_roundw
          case rel => exact ⟨i + 1, by omega, by go_num, by rw [all_range_succ, HA.out, HF.out]; rfl, by rw [HQ.out, HQ0.out]; exact ⟨_, World.drewN_drewN ..⟩⟩
          case measure => simp [intOf]; omega
    · have hk' : i = zs.length := by omega
      subst hk'
      go_wp2
      go_ret
      exact ⟨ret_bool (by rw [← HV.out, HA.out]), by rw [HQ0.out]; exact below_drewN (Below.refl _ _) _⟩

theorem unlB_row {zs ss : List Int} (h : rowB 9 zs = false) : unlB zs ss = false := by simp [unlB, h]
theorem unlB_len {zs ss : List Int} (h : ¬ ss.length = zs.length) : unlB zs ss = false := by simp [unlB, h]
theorem unlB_in {zs ss : List Int} (h : ss.all (fun s => inR s 0 8) = false) : unlB zs ss = false := by simp [unlB, h]
theorem unlB_all {zs ss : List Int} (h1 : rowB 9 zs = true) (h2 : ss.length = zs.length) (h3 : ss.all (fun s => inR s 0 8) = true) : unlB zs ss = (List.range zs.length).all (okU zs (stN ss)) := by simp [unlB, h1, h2, h3]
theorem all_noI {zs : List Int} {p : Int → Bool} {k : Nat} (hk : k < zs.length) (h : p zs[k] = false) : zs.all p = false := by
  rw [List.all_eq_false]; exact ⟨zs[k], List.getElem_mem hk, by simp [h]⟩

set_option maxRecDepth 100000 in
set_option maxHeartbeats 4000000 in
theorem specCanUnload_any (A B : Option Addr) (c0 c1 : Nat) (zs ss : List Int) (w : World) (hr : Ints w w.heap.size A zs) (hs : Ints w w.heap.size B ss) (hl : zs.length ≤ 9000000000000000000) :
    Calls Try.prog 25 #[.slice A zs.length c0, .slice B ss.length c1] w fun e w' => e = .returned (.bool (unlB zs ss)) ∧ Below w.heap.size w w' := by
  have hva := specValidRow9_any A c0 zs w hr hl
  obtain ⟨V, hV⟩ : ∃ V, unlB zs ss = V := ⟨_, rfl⟩
  rw [hV]
  have HV := Lib.hid hV
  clear hV
  by_cases hv : rowB 9 zs = true
  · rw [hv] at hva
    have HVA := Lib.hid hva
    have HR := Lib.hid hv
    have hl9 := rowB_len hv
    clear hva hv
    by_cases hlen : ss.length = zs.length
    · have hd : ((ss.length : Int) != (zs.length : Int)) = false := by simp; omega
      have HLN := Lib.hid hlen
      have h1 : ss.length ≤ zs.length := by omega
      have h2 : zs.length ≤ ss.length := by omega
      clear hlen
      go_enter Try.func25, Try.ntmps25
      go_wp2_with (go_at_call 41; refine HVA.out.mono ?_; rintro e w' ⟨rfl, rfl⟩)
      clear hd
      go_loop [5] (fun i => ∃ k : Nat, k ≤ ss.length ∧ i = .int .i64 k ∧ (ss.take k).all (fun s => inR s 0 8) = true) (fun i => ss.length - (intOf i).toNat)
      case atStart => exact ⟨0, by omega, rfl, by simp⟩
      case round =>
        obtain ⟨k, hk, rfl, hall⟩ := hrel
        have HA := Lib.hid hall
        clear hall
        by_cases hlt : k < ss.length
        · obtain ⟨b, o, rfl, hb, hc⟩ := hs.open (by simp; omega)
          have hcell := ints_at hc hlt
          have HT := Lib.hid (take_all (p := fun s => inR s 0 8) hlt)
          have HNO := Lib.hid (fun h => all_noI (p := fun s => inR s 0 8) hlt h)
          obtain ⟨s, hse⟩ : ∃ s, ss[k] = s := ⟨_, rfl⟩
          rw [hse] at hcell
          have HSE := Lib.hid hse
          clear hc hse
          by_cases hin : inR s 0 8 = true
          · have HIN := Lib.hid hin
            clear hin
            go_wp2_with (go_at_call 50; refine (inRange_any _ _ _ _).mono ?_; rintro e w' ⟨rfl, rfl⟩; rw [HIN.out])
            go_round
            case rel => exact ⟨k + 1, by omega, by go_num, by rw [HT.out, HA.out, HSE.out, HIN.out]; rfl⟩
            case measure => simp [intOf]; omega
          · have hin' : inR s 0 8 = false := by simpa using hin
            have HIN := Lib.hid hin'
            have HF := Lib.hid (show V = false by rw [← HV.out]; exact unlB_in (HNO.out (by rw [HSE.out]; exact hin')))
            clear hin hin'
            go_wp2_with (go_at_call 50; refine (inRange_any _ _ _ _).mono ?_; rintro e w' ⟨rfl, rfl⟩; rw [HIN.out])
            go_ret
            exact ⟨ret_bool HF.out.symm, Below.refl _ _⟩
        · have hk' : k = ss.length := by omega
          subst hk'
          have hall := HA.out
          rw [List.take_length] at hall
          have hun := specUnloads_any A B c0 c1 zs ss w hr hs hl9 HLN.out (fun s h => by
            have := List.all_eq_true.1 hall s h
            simp [inR] at this; omega)
          have HUN := Lib.hid hun
          have HF := Lib.hid (show (List.range zs.length).all (okU zs (stN ss)) = V by rw [← HV.out, unlB_all HR.out HLN.out hall])
          clear hall hun
          go_wp2_with fail
          refine HUN.out.mono ?_
          rintro e w1 ⟨rfl, hb⟩
          rw [HF.out]
          go_wp2_with fail
          go_ret
          exact ⟨rfl, hb⟩
    · have hd : ((ss.length : Int) != (zs.length : Int)) = true := by simp; omega
      have HF := Lib.hid (show V = false by rw [← HV.out]; exact unlB_len hlen)
      clear hlen
      go_enter Try.func25, Try.ntmps25
      go_wp2_with (go_at_call 41; refine HVA.out.mono ?_; rintro e w' ⟨rfl, rfl⟩)
      go_ret
      exact ⟨ret_bool HF.out.symm, Below.refl _ _⟩
  · have hv' : rowB 9 zs = false := by simpa using hv
    rw [hv'] at hva
    have HVA := Lib.hid hva
    have HF := Lib.hid (show V = false by rw [← HV.out]; exact unlB_row hv')
    clear hva hv hv'
    go_enter Try.func25, Try.ntmps25
    go_wp2_with (go_at_call 41; refine HVA.out.mono ?_; rintro e w' ⟨rfl, rfl⟩)
    go_ret
    exact ⟨ret_bool HF.out.symm, Below.refl _ _⟩
end Go.Proofs.Ythfmmdigecjfnaa
