/- spec.fewest, the other table; spec.FewestStamps. No condition. -/
import Derived.Test.YtookdmdlpglbcabY1
import Derived.Test.YtookdmdlpglbcabDr
import Derived.Test.YtookdmdlpglbcabRd2
namespace Go.Proofs.Ytookdmdlpglbcab
open Go.RowKit

theorem fwT_bd (v : List Int) (hp : ∀ s ∈ v, 1 ≤ s) (n : Nat) {i : Nat} (hi : i ≤ n) : -1 ≤ (fwT v n).getD i 0 ∧ (fwT v n).getD i 0 ≤ n := by
  rw [fwT_get v n hi]
  have := fw_bd v hp i
  omega
theorem foldl_take_succ' {α : Type} (f : α → Int → α) (l : List Int) (a : α) {k : Nat} (h : k < l.length) : (l.take (k + 1)).foldl f a = f ((l.take k).foldl f a) l[k] := by
  rw [← List.take_append_getElem h, List.foldl_append]; rfl
theorem fold_bd {f : Nat → Int} {r m : Nat} {l : List Int} (hp : ∀ s ∈ l, 1 ≤ s) (hf : ∀ i, i < r → -1 ≤ f i ∧ f i ≤ m) : ∀ x : Int, -1 ≤ x → x ≤ m + 1 → -1 ≤ l.foldl (stepS f r) x ∧ l.foldl (stepS f r) x ≤ m + 1 := by
  induction l with
  | nil => intro x h1 h2; exact ⟨h1, h2⟩
  | cons s l ih =>
    intro x h1 h2
    rw [List.foldl_cons]
    have hs := hp s (by simp)
    refine ih (fun t ht => hp t (by simp [ht])) _ ?_ ?_
    · unfold stepS; split
      · omega
      · exact h1
    · unfold stepS; split
      · rename_i h
        have := hf (r - s.toNat) (by omega)
        omega
      · exact h2
def foldK (v : List Int) (n k : Nat) : Int := (v.take k).foldl (stepS (fun i => (fwT v n).getD i 0) (n + 1)) (-1)

set_option maxRecDepth 100000 in
set_option maxHeartbeats 4000000 in
theorem specFewest_any (A : Option Addr) (c : Nat) (v : List Int) (m : Nat) (w : World) (hr : Ints w w.heap.size A v) (hp : ∀ s ∈ v, 1 ≤ s ∧ s ≤ 12) (hl : v.length ≤ 100) (hm : m ≤ 1000) :
    Calls Try.prog 41 #[.slice A v.length c, .int .i64 (m : Int)] w fun e w' => ∃ (A' : Option Addr) (c' : Nat), e = .returned (.slice A' (m + 1) c') ∧ m + 1 ≤ c' ∧ OwnInts w' w.heap.size w'.heap.size A' (fwT v m) ∧ Below w.heap.size w w' := by
  obtain ⟨i0, hi0, hz0, hz1, hz2⟩ := info_parts Try.info3
  have HP := Lib.hid hp
  clear hp
  have hstart : (w.alloc (.cells #[.int .i64 0] 3)).ownsRow w.heap.size 3 1 (.slice (some ⟨w.heap.size, 0, none⟩) 1 1) 1 [.int .i64 0] := World.ownsRow_lit w #[.int .i64 0] 1 (Nat.le_refl _) (by simp [maxLen]) rfl
  have HSt := Lib.hid hstart
  clear hstart
  go_enter Try.func41, Try.ntmps41
  go_wp2
  go_loopw [6, 5] (fun r o wr => ∃ (n : Nat) (A' : Option Addr) (c' : Nat), n ≤ m ∧ r = .int .i64 ((n + 1 : Nat) : Int) ∧ o = .slice A' (n + 1) c' ∧
      wr.ownsRow w.heap.size 3 1 (.slice A' (n + 1) c') (n + 1) ((fwT v n).map (Value.int .i64)) ∧ Below w.heap.size w wr)
    (fun r _ _ => m + 1 - (intOf r).toNat)
  case atStart => exact ⟨0, _, _, by omega, rfl, rfl, HSt.out, (Below.refl _ _).alloc (Nat.le_refl _) _⟩
  case round =>
    obtain ⟨n, A', c', hn, rfl, rfl, hown, hB⟩ := hrel
    clear HSt
    obtain ⟨r, hrn⟩ : ∃ r, n + 1 = r := ⟨_, rfl⟩
    rw [hrn] at hown ⊢
    have HRN := Lib.hid hrn
    have hr0 : 0 < r := by omega
    have HOWN := Lib.hid hown
    obtain ⟨g, rfl, hg1, hg2⟩ := own_some hown hr0
    have hcells : ∀ j, j ≤ n → wr.cell? ⟨g, j, none⟩ = some (.int .i64 ((fwT v n).getD j 0)) := by
      intro j hj
      have h2 := hown.cellAt j (by omega)
      rw [h2, List.getElem?_map, List.getElem?_eq_getElem (show j < (fwT v n).length by rw [fwT_len]; omega)]
      simp [List.getElem?_eq_getElem (show j < (fwT v n).length by rw [fwT_len]; omega)]
    have HC := Lib.hid hcells
    have hrv := hr.below hB
    have HB := Lib.hid hB
    have HTS := Lib.hid (show fwT v (n + 1) = fwT v n ++ [foldK v n v.length] by rw [foldK, List.take_length]; rfl)
    clear hown hcells hr hB
    clear hrn
    by_cases hlt : r ≤ m
    · have hle : (r : Int) ≤ (m : Int) := by omega
      go_wp2
      clear hle
      go_loop [8, 7] (fun i x => ∃ k : Nat, k ≤ v.length ∧ i = .int .i64 k ∧ x = .int .i64 (foldK v n k)) (fun i _ => v.length - (intOf i).toNat)
      case atStart => exact ⟨0, by omega, rfl, rfl⟩
      case round =>
        obtain ⟨k, hk, rfl, rfl⟩ := hrel
        by_cases hkl : k < v.length
        · obtain ⟨b, o, rfl, hb, hc⟩ := hrv.open (by simp; omega)
          have hcell := ints_at hc hkl
          have HTK := Lib.hid (show foldK v n (k + 1) = stepS (fun i => (fwT v n).getD i 0) (n + 1) (foldK v n k) v[k] from foldl_take_succ' _ _ _ hkl)
          have hs12 := HP.out _ (List.getElem_mem hkl)
          have hcb := fold_bd (f := fun i => (fwT v n).getD i 0) (r := n + 1) (m := n) (l := v.take k) (fun s hs => (HP.out s (List.mem_of_mem_take hs)).1) (fun i hi => fwT_bd v (fun s hs => (HP.out s hs).1) n (by omega)) (-1) (by omega) (by omega)
          obtain ⟨s, hse⟩ : ∃ s, v[k] = s := ⟨_, rfl⟩
          rw [hse] at hcell hs12 HTK
          obtain ⟨cur, hcur⟩ : ∃ cur, foldK v n k = cur := ⟨_, rfl⟩
          have hcb' : -1 ≤ cur ∧ cur ≤ n + 1 := by rw [← hcur]; exact hcb
          rw [hcur] at HTK ⊢
          obtain ⟨hs1, hs2⟩ := hs12
          obtain ⟨hc1, hc2⟩ := hcb'
          clear hc hse hcur hcb hrv
          by_cases hgt : s ≤ (r : Int)
          · obtain ⟨j, hj⟩ : ∃ j, r - s.toNat = j := ⟨_, rfl⟩
            have hjr : j ≤ n := by have := HRN.out; omega
            have hsj : (r : Int) - s = (j : Int) := by omega
            have hwr : IntKind.i64.wrap ((r : Int) - s) = (j : Int) := by rw [hsj]; exact IntWalk.i64_in _ (by omega)
            have hjn : (j : Int) < (r : Int) := by omega
            have hcj := HC.out j hjr
            have hyb := fwT_bd v (fun s hs => (HP.out s hs).1) n (i := j) hjr
            have HF := Lib.hid (show stepS (fun i => (fwT v n).getD i 0) (n + 1) cur s = (if s ≤ (r : Int) ∧ 0 ≤ (fwT v n).getD j 0 ∧ (cur < 0 ∨ (fwT v n).getD j 0 + 1 < cur) then (fwT v n).getD j 0 + 1 else cur) by rw [← hj, ← HRN.out]; rfl)
            obtain ⟨y, hy⟩ : ∃ y, (fwT v n).getD j 0 = y := ⟨_, rfl⟩
            rw [hy] at hcj hyb HF
            obtain ⟨hy1, hy2⟩ := hyb
            clear hj hsj hy
            have hwy : IntKind.i64.wrap (y + 1) = y + 1 := IntWalk.i64_in _ (by omega)
            by_cases hy0 : 0 ≤ y
            · by_cases hcm : cur < 0
              · have HE := Lib.hid (show foldK v n (k + 1) = y + 1 by rw [HTK.out, HF.out, if_pos (by omega)])
                go_wp2
                go_round
                case rel => exact ⟨k + 1, by omega, by go_num, by rw [HE.out]⟩
                case measure => simp [intOf]; omega
              · by_cases hyl : y + 1 < cur
                · have HE := Lib.hid (show foldK v n (k + 1) = y + 1 by rw [HTK.out, HF.out, if_pos (by omega)])
                  go_wp2
                  go_round
                  case rel => exact ⟨k + 1, by omega, by go_num, by rw [HE.out]⟩
                  case measure => simp [intOf]; omega
                · have HE := Lib.hid (show foldK v n (k + 1) = cur by rw [HTK.out, HF.out, if_neg (by omega)])
                  go_wp2
                  go_round
                  case rel => exact ⟨k + 1, by omega, by go_num, by rw [HE.out]⟩
                  case measure => simp [intOf]; omega
            · have HE := Lib.hid (show foldK v n (k + 1) = cur by rw [HTK.out, HF.out, if_neg (by omega)])
              go_wp2
              go_round
              case rel => exact ⟨k + 1, by omega, by go_num, by rw [HE.out]⟩
              case measure => simp [intOf]; omega
          · have HE := Lib.hid (show foldK v n (k + 1) = cur by rw [HTK.out]; unfold stepS; rw [if_neg (fun h => by have := HRN.out; omega)])
            go_wp2
            go_round
            case rel => exact ⟨k + 1, by omega, by go_num, by rw [HE.out]⟩
            case measure => simp [intOf]; omega
        · have hk' : k = v.length := by omega
          subst hk'
          obtain ⟨x, hx⟩ : ∃ x, foldK v n v.length = x := ⟨_, rfl⟩
          rw [hx] at HTS ⊢
          have hown := HOWN.out
          clear hx
          go_wp2_with (at_builtin; refine wpList_push rfl (.tmp 67) (.tmp 69) 23 rfl i0 (.int .i64 0) 8 Try.underlying23 hi0 hz0 hz1 hz2 rfl (by decide) _ _ rfl hown [.int .i64 x] rfl rfl (by simp [Value.oneCell']) (by omega) (by omega) (by omega) ?_)
          intro A2 c2 w2 hown2 hg2
          have HF := Lib.hid (And.intro hown2 (HB.out.grown hg2 HB.out.size (fun i hi => (hown.lt _ hi).1)))
          clear hown hown2 hg2
          go_wp2
          go_roundw
          case rel => exact ⟨n + 1, A2, c2, by have := HRN.out; omega, by rw [HRN.out]; go_num, by rw [HRN.out], by rw [HTS.out, List.map_append, HRN.out]; exact HF.out.1, HF.out.2⟩
          case measure => simp [intOf]; omega
    · have hnm : n = m := by have := HRN.out; omega
      subst hnm
      have hle : ¬ (r : Int) ≤ (n : Int) := by omega
      go_wp2
      go_ret
      obtain ⟨A2, c2, hv, _, ho⟩ := own_of_row HOWN.out
      simp only [Value.slice.injEq] at hv
      obtain ⟨rfl, _, rfl⟩ := hv
      have hcp := own_cap HOWN.out
      have hrn := HRN.out
      subst hrn
      exact ⟨some ⟨g, 0, none⟩, c', rfl, hcp, ho, HB.out⟩

def fewV (v : List Int) (rate : Int) : Int := if stampsB v && inR rate 0 140 then fw v rate.toNat else -1
theorem fewV_yes {v : List Int} {m : Nat} (h : stampsB v = true) (h2 : inR (m : Int) 0 140 = true) : fewV v (m : Int) = fw v m := by simp [fewV, h, h2]
theorem fewV_no {v : List Int} {r : Int} (h : stampsB v = false ∨ inR r 0 140 = false) : fewV v r = -1 := by rcases h with h | h <;> simp [fewV, h]

theorem specVS_E (A : Option Addr) (c : Nat) (zs : List Int) (w : World) (hr : Ints w w.heap.size A zs) (hl : zs.length ≤ 9000000000000000000) :
    Calls Try.prog 39 #[.slice A zs.length c] w fun e w' => e = .returned (.bool (stampsB zs)) ∧ Below w.heap.size w w' :=
  (specVS_low A c zs w hr hl).mono fun _ _ ⟨he, n, hn⟩ => ⟨he, by rw [hn]; exact drewBelow _ _⟩

set_option maxRecDepth 100000 in
set_option maxHeartbeats 1000000 in
theorem specFewestStamps_any (A : Option Addr) (c : Nat) (zs : List Int) (rate : Int) (w : World) (hr : Ints w w.heap.size A zs) (hl : zs.length ≤ 9000000000000000000) :
    Calls Try.prog 13 #[.slice A zs.length c, .int .i64 rate] w fun e w' => e = .returned (.int .i64 (fewV zs rate)) ∧ Below w.heap.size w w' := by
  have HVA := Lib.hid (specVS_E A c zs w hr hl)
  by_cases hv : stampsB zs = true
  · rw [hv] at HVA
    have HV := Lib.hid hv
    by_cases hk : inR rate 0 140 = true
    · have hkb := inRI.1 hk
      obtain ⟨m, rfl⟩ := Int.eq_ofNat_of_zero_le hkb.1
      have HE := Lib.hid (fewV_yes hv hk)
      have HIR := Lib.hid (fun W => inRangeE (m : Int) 0 140 true hk W)
      clear hv hk
      go_enter Try.func13, Try.ntmps13
      go_wp2_with (first | (go_at_call 39; refine HVA.out.mono ?_; rintro e w1 ⟨rfl, hb1⟩) | (go_at_call 40; refine (HIR.out _).mono ?_; rintro e w' ⟨rfl, rfl⟩))
      have HF := Lib.hid (specFewest_any A c zs m w1 (hr.past hb1) (fun s hs => stamp_mem HV.out hs) (by have := stampsB_len HV.out; omega) (by omega))
      go_wp2_with fail
      refine HF.out.mono ?_
      rintro e w2 ⟨A', c', rfl, hcp, ho, hb2⟩
      obtain ⟨b, o, rfl, hb, hc⟩ := ho.open (by rw [List.length_map, fwT_len]; omega)
      have hcell := ints_at hc (show m < (fwT zs m).length by rw [fwT_len]; omega)
      have hg : (fwT zs m)[m]'(by rw [fwT_len]; omega) = fw zs m := by rw [← getD_get]; rfl
      rw [hg] at hcell
      have hmm : ((m : Nat) : Int) < ((m + 1 : Nat) : Int) := by omega
      clear hc hg hkb hr ho hcp
      go_wp2
      go_ret
      exact ⟨ret_int HE.out.symm, hb1.trans (hb2.mono hb1.size)⟩
    · have hk' : inR rate 0 140 = false := by simpa using hk
      have HE := Lib.hid (fewV_no (v := zs) (r := rate) (.inr hk'))
      have HIR := Lib.hid (fun W => inRangeE rate 0 140 false hk' W)
      clear hv hk hk'
      go_enter Try.func13, Try.ntmps13
      go_wp2_with (first | (go_at_call 39; refine HVA.out.mono ?_; rintro e w1 ⟨rfl, hb1⟩) | (go_at_call 40; refine (HIR.out _).mono ?_; rintro e w' ⟨rfl, rfl⟩))
      go_ret
      exact ⟨ret_int HE.out.symm, hb1⟩
  · have hv' : stampsB zs = false := by simpa using hv
    rw [hv'] at HVA
    have HE := Lib.hid (fewV_no (v := zs) (r := rate) (.inl hv'))
    clear hv hv'
    go_enter Try.func13, Try.ntmps13
    go_wp2_with (go_at_call 39; refine HVA.out.mono ?_; rintro e w1 ⟨rfl, hb1⟩)
    go_ret
    exact ⟨ret_int HE.out.symm, hb1⟩
end Go.Proofs.Ytookdmdlpglbcab
