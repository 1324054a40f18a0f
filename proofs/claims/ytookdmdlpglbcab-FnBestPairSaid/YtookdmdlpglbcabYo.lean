/- The walk of the law FnFewestStamps. No condition. -/
import Derived.Test.YtookdmdlpglbcabY7
import Derived.Test.YtookdmdlpglbcabYk
import Derived.Test.YtookdmdlpglbcabYm
namespace Go.Proofs.Ytookdmdlpglbcab
open Go.RowKit

theorem specFS_ret (A : Option Addr) (c : Nat) (zs : List Int) (r : Int) (w : World) (hr : Ints w w.heap.size A zs) (hl : zs.length ≤ 9000000000000000000) (b : Int) (hb : fewV zs r = b) :
    Calls Try.prog 13 #[.slice A zs.length c, .int .i64 r] w fun e w' => e = .returned (.int .i64 b) ∧ Below w.heap.size w w' := by
  rw [← hb]; exact specFewestStamps_any A c zs r w hr hl
theorem impFS_ret (A : Option Addr) (c : Nat) (zs : List Int) (r : Int) (w : World) (hr : Ints w w.heap.size A zs) (b : Int) (hb : fewV zs r = b) :
    Calls Try.prog 12 #[.slice A zs.length c, .int .i64 r] w fun e w' => e = .returned (.int .i64 b) ∧ Below w.heap.size w w' := by
  rw [← hb]; exact impFewestStamps_any A c zs r w hr
theorem fewV_bd (zs : List Int) (r : Int) : -1 ≤ fewV zs r ∧ fewV zs r ≤ 140 := by
  unfold fewV
  split
  · rename_i h
    simp only [Bool.and_eq_true, inRI] at h
    have := fw_bd zs (fun s hs => (stamp_mem h.1 hs).1) r.toNat
    omega
  · omega
theorem fewV_parts {zs : List Int} {r : Int} (h : 0 ≤ fewV zs r) : stampsB zs = true ∧ ∃ m : Nat, r = m ∧ m ≤ 140 ∧ fewV zs r = fw zs m := by
  unfold fewV at h ⊢
  split at h
  · rename_i hc
    have hc' := hc
    simp only [Bool.and_eq_true, inRI] at hc
    obtain ⟨m, rfl⟩ := Int.eq_ofNat_of_zero_le hc.2.1
    exact ⟨hc.1, m, rfl, by omega, by rw [if_pos hc']; rfl⟩
  · omega
theorem stamps_top {v : List Int} (h : stampsB v = true) : ∀ s ∈ v, s ≤ v.getD (v.length - 1) 0 := by
  intro s hs
  have hl := stampsB_len h
  obtain ⟨i, hi, rfl⟩ := List.getElem_of_mem hs
  have em : v.getD (v.length - 1) 0 = v[v.length - 1]'(by omega) := getD_get (by omega)
  rw [em]
  by_cases hi2 : i = v.length - 1
  · subst hi2; exact Int.le_refl _
  · have := stamp_lt h (v.length - 1 - i - 1) i (by omega)
    have e : i + (v.length - 1 - i - 1 + 1) = v.length - 1 := by omega
    have h3 : v[i]'(by omega) < v[v.length - 1]'(by omega) := by simpa only [e] using this
    omega
/-- One more than for one stamp less. -/
def oneMore (zs : List Int) (m : Nat) (s : Int) : Bool := decide (0 ≤ fewV zs (m - s) ∧ fewV zs m = fewV zs (m - s) + 1)
theorem fewV_less {zs : List Int} (hv : stampsB zs = true) {m : Nat} (hm : m ≤ 140) {s : Int} (hs : s ∈ zs) (h : 0 ≤ fewV zs (m - s)) : fewV zs m ≤ fewV zs (m - s) + 1 := by
  obtain ⟨_, j, hj, hj1, hje⟩ := fewV_parts h
  have hs1 := stamp_mem hv hs
  have e : fewV zs m = fw zs m := fewV_yes hv (inRI.2 (by omega))
  rw [hje] at h
  rw [e, hje]
  have hjj : m - s.toNat = j := by omega
  have := fw_le (fun s hs => (stamp_mem hv hs).1) hs (r := m) (by omega) (by rw [hjj]; omega)
  rw [hjj] at this; exact this.2
theorem fewV_one {zs : List Int} (hv : stampsB zs = true) {m : Nat} (hm : m ≤ 140) (h0 : m ≠ 0) (h : 0 ≤ fewV zs m) : zs.any (oneMore zs m) = true := by
  have e : fewV zs m = fw zs m := fewV_yes hv (inRI.2 (by omega))
  rw [e] at h
  obtain ⟨s, hs, h1, h2, h3⟩ := fw_from (fun s hs => (stamp_mem hv hs).1) (by omega) h
  have hs1 := stamp_mem hv hs
  rw [List.any_eq_true]
  refine ⟨s, hs, ?_⟩
  have e2 : (m : Int) - s = ((m - s.toNat : Nat) : Int) := by omega
  have e3 : fewV zs ((m - s.toNat : Nat) : Int) = fw zs (m - s.toNat) := fewV_yes hv (inRI.2 (by omega))
  simp only [oneMore, decide_eq_true_eq, e2, e3, e]
  exact ⟨h2, h3⟩

set_option maxRecDepth 100000 in
set_option maxHeartbeats 4000000 in
theorem fnFewestStamps_law (A : Option Addr) (c : Nat) (zs : List Int) (w : World) (hr : Own w 0 w.heap.size A (zs.map (Value.int .u8))) (hx : zs.length ≤ c ∧ c ≤ maxLen ∧ ∀ z ∈ zs, (Lit.int .u8 z).wf = true) :
    Calls Try.prog 3 #[.slice A zs.length c] w fun e w' => e = .returned (.bool true) ∧ Below w.heap.size w w' := by
  have hl : zs.length ≤ 9223372036854775807 := by have := hx.1; have := hx.2.1; unfold maxLen at this; omega
  have HX := Lib.hid hx
  clear hx
  by_cases h20 : zs.length ≤ 1048576
  · go_enter Try.func3, Try.ntmps3
    go_wp2_with fail
    refine (drawFewestStamps_any _ _ _ _ hr HX.out).mono ?_
    rintro e w1 ⟨B, d, rs, rate, rfl, hrb, h6, hdc, hsm, ho, hb1⟩
    obtain ⟨hrb1, hrb2⟩ := hrb
    have hqb := fewV_bd rs rate
    obtain ⟨q, hq⟩ : ∃ q, fewV rs rate = q := ⟨_, rfl⟩
    rw [hq] at hqb
    have HQ := Lib.hid hq
    clear hsm hq
    go_wp2_with fail
    refine (impFS_ret _ _ _ _ _ ho _ HQ.out).mono ?_
    rintro e w2 ⟨rfl, hb2⟩
    have ho2 := ho.past hb2
    go_wp2_with fail
    refine (specFS_ret _ _ _ _ _ ho2 (by omega) _ HQ.out).mono ?_
    rintro e w3 ⟨rfl, hb3⟩
    have ho3 := ho2.past hb3
    have hb13 := (hb1.trans (hb2.mono hb1.size))
    have hb13 := hb13.trans (hb3.mono hb13.size)
    have hqq : (q != q) = false := by simp
    clear hb1 hb2 hb3 ho ho2
    by_cases hq0 : q < 0
    · go_wp2_with fail
      refine (specFS_ret _ _ _ _ _ ho3 (by omega) _ HQ.out).mono ?_
      rintro e w4 ⟨rfl, hb4⟩
      have hqe : (q == q) = true := by simp
      go_wp2_with fail
      go_ret
      exact ⟨rfl, hb13.trans (hb4.mono hb13.size)⟩
    · obtain ⟨hv, m, rfl, hm, hqm⟩ := fewV_parts (zs := rs) (r := rate) (by rw [HQ.out]; omega)
      have HV := Lib.hid hv
      have HB := Lib.hid hb13
      rw [HQ.out] at hqm
      have HQM := Lib.hid hqm
      have hlen := stampsB_len hv
      clear hv hqm hb13
      by_cases hm0 : m = 0
      · subst hm0
        have HQ0 := Lib.hid (show (q == 0) = true by rw [HQM.out]; rfl)
        have h00 : (((0 : Nat) : Int) == 0) = true := rfl
        have hq00 := HQ0.out
        go_wp2_with fail
        go_ret
        exact ⟨rfl, HB.out⟩
      · have hm0' : ((m : Int) == 0) = false := beq_eq_false_iff_ne.2 (by omega)
        have HM0 := Lib.hid hm0
        clear hm0
        go_wp2_with fail
        go_loopw [7, 6] (fun i f wr => ∃ k : Nat, k ≤ rs.length ∧ i = .int .i64 k ∧ f = .bool ((rs.take k).any (oneMore rs m)) ∧ Below w3.heap.size w3 wr) (fun i _ _ => rs.length - (intOf i).toNat)
        case atStart => exact ⟨0, by omega, rfl, by simp, Below.refl _ _⟩
        case round =>
          obtain ⟨k, hk, rfl, rfl, hbr⟩ := hrel
          have hor := ho3.past hbr
          have HBR := Lib.hid hbr
          by_cases hlt : k < rs.length
          · obtain ⟨b, o, rfl, hb, hc⟩ := hor.open (by simp; omega)
            have hcell := ints_at hc hlt
            have HLE := Lib.hid (fewV_less HV.out hm (List.getElem_mem hlt))
            have HTK := Lib.hid (show (rs.take (k + 1)).any (oneMore rs m) = ((rs.take k).any (oneMore rs m) || oneMore rs m rs[k]) by rw [← List.take_append_getElem hlt, List.any_append]; simp)
            have hs12 := stamp_mem HV.out (List.getElem_mem hlt)
            obtain ⟨s, hse⟩ : ∃ s, rs[k] = s := ⟨_, rfl⟩
            rw [hse] at hcell HLE HTK hs12
            obtain ⟨hs1, hs2⟩ := hs12
            have hws : IntKind.i64.wrap ((m : Int) - s) = (m : Int) - s := IntWalk.i64_in _ (by omega)
            have hxb := fewV_bd rs ((m : Int) - s)
            obtain ⟨x, hx⟩ : ∃ x, fewV rs ((m : Int) - s) = x := ⟨_, rfl⟩
            have HXX := Lib.hid (impFS_ret (some ⟨b, o, none⟩) d rs ((m : Int) - s) wr hor x hx)
            have HOM := Lib.hid (show oneMore rs m s = decide (0 ≤ x ∧ q = x + 1) by simp only [oneMore, hx, HQ.out])
            rw [hx] at HLE hxb
            have HLE2 := Lib.hid (show 0 ≤ x → q ≤ x + 1 from fun h => by have := HLE.out h; rw [HQ.out] at this; exact this)
            obtain ⟨fb, hfb⟩ : ∃ fb, (rs.take k).any (oneMore rs m) = fb := ⟨_, rfl⟩
            rw [hfb] at HTK ⊢
            clear hc hse hx hfb HLE hor hbr
            have hwx : IntKind.i64.wrap (x + 1) = x + 1 := IntWalk.i64_in _ (by omega)
            by_cases hx0 : 0 ≤ x
            · have hle := HLE2.out hx0
              have hgt : ¬ x + 1 < q := by omega
              by_cases hqx : q = x + 1
              · have HE := Lib.hid (show (rs.take (k + 1)).any (oneMore rs m) = true by rw [HTK.out, HOM.out, decide_eq_true ⟨hx0, hqx⟩]; simp)
                have hqxb : (q == x + 1) = true := beq_iff_eq.2 hqx
                clear hqx
                cases fb
                · go_wp2_with (go_at_call 12; refine HXX.out.mono ?_; rintro e w4 ⟨rfl, hb4⟩)
                  go_roundw
                  case rel => exact ⟨k + 1, by omega, by go_num, by rw [HE.out], HBR.out.trans (hb4.mono HBR.out.size)⟩
                  case measure => simp [intOf]; omega
                · go_wp2_with (go_at_call 12; refine HXX.out.mono ?_; rintro e w4 ⟨rfl, hb4⟩)
                  go_roundw
                  case rel => exact ⟨k + 1, by omega, by go_num, by rw [HE.out], HBR.out.trans (hb4.mono HBR.out.size)⟩
                  case measure => simp [intOf]; omega
              · have HE := Lib.hid (show (rs.take (k + 1)).any (oneMore rs m) = fb by rw [HTK.out, HOM.out, decide_eq_false (fun h => hqx h.2)]; simp)
                have hqxb : (q == x + 1) = false := beq_eq_false_iff_ne.2 hqx
                clear hqx
                cases fb
                · go_wp2_with (go_at_call 12; refine HXX.out.mono ?_; rintro e w4 ⟨rfl, hb4⟩)
                  go_roundw
                  case rel => exact ⟨k + 1, by omega, by go_num, by rw [HE.out], HBR.out.trans (hb4.mono HBR.out.size)⟩
                  case measure => simp [intOf]; omega
                · go_wp2_with (go_at_call 12; refine HXX.out.mono ?_; rintro e w4 ⟨rfl, hb4⟩)
                  go_roundw
                  case rel => exact ⟨k + 1, by omega, by go_num, by rw [HE.out], HBR.out.trans (hb4.mono HBR.out.size)⟩
                  case measure => simp [intOf]; omega
            · have HE := Lib.hid (show (rs.take (k + 1)).any (oneMore rs m) = fb by rw [HTK.out, HOM.out, decide_eq_false (fun h => hx0 h.1)]; simp)
              cases fb
              · go_wp2_with (go_at_call 12; refine HXX.out.mono ?_; rintro e w4 ⟨rfl, hb4⟩)
                go_roundw
                case rel => exact ⟨k + 1, by omega, by go_num, by rw [HE.out], HBR.out.trans (hb4.mono HBR.out.size)⟩
                case measure => simp [intOf]; omega
              · go_wp2_with (go_at_call 12; refine HXX.out.mono ?_; rintro e w4 ⟨rfl, hb4⟩)
                go_roundw
                case rel => exact ⟨k + 1, by omega, by go_num, by rw [HE.out], HBR.out.trans (hb4.mono HBR.out.size)⟩
                case measure => simp [intOf]; omega
          · have hk' : k = rs.length := by omega
            subst hk'
            have HF := Lib.hid (show (rs.take rs.length).any (oneMore rs m) = true by rw [List.take_length]; exact fewV_one HV.out hm HM0.out (by rw [HQ.out]; omega))
            rw [HF.out]
            obtain ⟨b, o, rfl, hb, hc⟩ := hor.open (by simp; omega)
            obtain ⟨t, ht⟩ : ∃ t, rs.length - 1 = t := ⟨_, rfl⟩
            have hcell := ints_at hc (show t < rs.length by omega)
            have hmx : rs[t]'(by omega) = rs.getD (rs.length - 1) 0 := by rw [← getD_get, ht]
            have hup := stamps_top HV.out
            have hge := fw_ge (fun s hs => (stamp_mem HV.out hs).1) hup m (by rw [← HQM.out]; omega)
            have hm12 := stamp_mem HV.out (List.getElem_mem (show t < rs.length by omega))
            rw [← HQM.out] at hge
            rw [← hmx] at hge
            obtain ⟨s, hse⟩ : ∃ s, rs[t]'(by omega) = s := ⟨_, rfl⟩
            rw [hse] at hcell hge hm12
            have hsub : (rs.length : Int) - 1 = (t : Int) := by omega
            have hwt : IntKind.i64.wrap ((rs.length : Int) - 1) = (t : Int) := by rw [hsub]; exact IntWalk.i64_in _ (by omega)
            have htl : (t : Int) < (rs.length : Int) := by omega
            have hqs : q * s ≤ 141 * 12 := Int.mul_le_mul (by omega) hm12.2 (by omega) (by omega)
            have hqs0 : 0 ≤ q * s := Int.mul_nonneg (by omega) (by omega)
            have hwq : IntKind.i64.wrap (q * s) = q * s := IntWalk.i64_in _ (by omega)
            have HFIN := Lib.hid (HB.out.trans (HBR.out.mono HB.out.size))
            clear hc hmx hup hse hsub hm12 hqs hqs0 ht hor hbr ho3
            go_wp2
            go_ret
            exact ⟨rfl, HFIN.out⟩
  · go_enter Try.func3, Try.ntmps3
    go_wp2
    go_ret
    exact ⟨rfl, Below.refl _ _⟩
end Go.Proofs.Ytookdmdlpglbcab
