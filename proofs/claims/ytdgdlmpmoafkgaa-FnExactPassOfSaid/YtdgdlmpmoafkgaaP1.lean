/- A pass by boxes: plain, and the contract of spec.pass. No condition. -/
import Derived.Test.YtdgdlmpmoafkgaaS6
import Derived.Test.YtdgdlmpmoafkgaaDr
namespace Go.Proofs.Ytdgdlmpmoafkgaa
open Go.RowKit

/-- The letters among the first n that go to box b. -/
def buck (zs bs : List Int) (b : Nat) : Nat → List Int
  | 0 => []
  | n + 1 => buck zs bs b n ++ if bs.getD n 0 = (b : Int) then [zs.getD n 0] else []
def passL (zs bs : List Int) : Nat → List Int
  | 0 => []
  | b + 1 => passL zs bs b ++ buck zs bs b zs.length

theorem buck_len (zs bs : List Int) (b n : Nat) : (buck zs bs b n).length ≤ n := by
  induction n with
  | zero => simp [buck]
  | succ n ih => simp only [buck, List.length_append]; split <;> simp <;> omega
theorem passL_len (zs bs : List Int) (k : Nat) : (passL zs bs k).length ≤ k * zs.length := by
  induction k with
  | zero => simp [passL]
  | succ k ih => simp only [passL, List.length_append]; have := buck_len zs bs k zs.length; rw [Nat.add_mul]; omega

theorem buck_yes {zs bs : List Int} {b n : Nat} (hn : n < zs.length) (hb : n < bs.length) (h : bs[n] = (b : Int)) : buck zs bs b (n + 1) = buck zs bs b n ++ [zs[n]] := by
  simp only [buck, getD_get hn, getD_get hb, h, if_true]
theorem buck_no {zs bs : List Int} {b n : Nat} (hb : n < bs.length) (h : ¬ bs[n] = (b : Int)) : buck zs bs b (n + 1) = buck zs bs b n := by
  simp only [buck, getD_get hb, if_neg h, List.append_nil]

set_option maxRecDepth 100000 in
set_option maxHeartbeats 2000000 in
theorem specPass_any (A B : Option Addr) (c d : Nat) (zs bs : List Int) (k : Nat) (w : World) (hr : Ints w w.heap.size A zs) (hs : Ints w w.heap.size B bs) (hl : zs.length ≤ 9) (hlb : bs.length = zs.length) (hk : k ≤ 4) :
    Calls Try.prog 34 #[.slice A zs.length c, .slice B bs.length d, .int .i64 k] w fun e w' => ∃ A' c', e = .returned (.slice A' (passL zs bs k).length c') ∧ (passL zs bs k).length ≤ c' ∧ OwnInts w' w.heap.size w'.heap.size A' (passL zs bs k) ∧ Below w.heap.size w w' := by
  obtain ⟨i0, hi0, hz0, hz1, hz2⟩ := info_parts Try.info3
  have hstart : (w.alloc (.cells #[] 3)).ownsRow w.heap.size 3 1 (.slice (some ⟨w.heap.size, 0, none⟩) 0 0) 0 [] := World.ownsRow_lit w #[] 0 (Nat.le_refl _) (by simp [maxLen]) rfl
  have hb0 : Below w.heap.size w (w.alloc (.cells #[] 3)) := (Below.refl _ _).alloc (Nat.le_refl _) _
  have HLB := Lib.hid hlb
  have hlb1 : zs.length ≤ bs.length := by omega
  have hlb2 : bs.length ≤ 9 := by omega
  clear hlb
  go_enter Try.func34, Try.ntmps34
  go_wp2
  go_loopw [7, 8] (fun v i wr => ∃ (b : Nat) (A : Option Addr) (c : Nat), b ≤ k ∧ i = .int .i64 b ∧ v = .slice A (passL zs bs b).length c ∧ wr.ownsRow w.heap.size 3 1 (.slice A (passL zs bs b).length c) (passL zs bs b).length ((passL zs bs b).map (Value.int .i64)) ∧ Below w.heap.size w wr) (fun _ i _ => k - (intOf i).toNat)
  case atStart => exact ⟨0, _, _, by omega, rfl, rfl, hstart, hb0⟩
  case round =>
    obtain ⟨b, A1, c1, hb, rfl, rfl, hown, hbr⟩ := hrel
    clear hstart hb0
    by_cases hlt : b < k
    · have hpl := passL_len zs bs b
      have hpl2 : (passL zs bs b).length ≤ 36 := Nat.le_trans hpl (Nat.le_trans (Nat.mul_le_mul (show b ≤ 4 by omega) hl) (by decide))
      obtain ⟨pre, hpre⟩ : ∃ pre, passL zs bs b = pre := ⟨_, rfl⟩
      have HP := Lib.hid hpre
      rw [hpre] at hown hpl2 ⊢
      clear hpre hpl
      obtain ⟨W, hW⟩ : ∃ W : World, W = wr := ⟨_, rfl⟩
      subst hW
      have hd1 : decide (b < k) = true := decide_eq_true hlt
      go_wp2
      clear hd1
      go_loopw [7, 9] (fun v i wr => ∃ (n : Nat) (A : Option Addr) (c : Nat), n ≤ zs.length ∧ i = .int .i64 n ∧ v = .slice A (pre ++ buck zs bs b n).length c ∧ wr.ownsRow w.heap.size 3 1 (.slice A (pre ++ buck zs bs b n).length c) (pre ++ buck zs bs b n).length ((pre ++ buck zs bs b n).map (Value.int .i64)) ∧ Below w.heap.size w wr) (fun _ i _ => zs.length - (intOf i).toNat)
      case atStart => exact ⟨0, A1, c1, by omega, rfl, by simp [buck], by simpa [buck] using hown, hbr⟩
      case round =>
        obtain ⟨n, A2, c2, hn, rfl, rfl, hown2, hbs⟩ := hrel
        clear hown hbr
        by_cases hnl : n < zs.length
        · obtain ⟨ba, oa, rfl, _, hca⟩ := (hr.below hbs).open (by simp; omega)
          obtain ⟨bb, ob, rfl, _, hcb⟩ := (hs.below hbs).open (by simp; omega)
          have hcell := ints_at hca hnl
          have hcellb := ints_at hcb (show n < bs.length by omega)
          have hnb : (n : Int) < bs.length := by omega
          have hbl := buck_len zs bs b n
          have hlen : (pre ++ buck zs bs b n).length ≤ 1000 := by rw [List.length_append]; omega
          clear hca hcb
          by_cases hx : bs[n]'(by omega) = (b : Int)
          · have hy := buck_yes (b := b) hnl (show n < bs.length by omega) hx
            obtain ⟨cur, hcur⟩ : ∃ cur, pre ++ buck zs bs b n = cur := ⟨_, rfl⟩
            have hnew : pre ++ buck zs bs b (n + 1) = cur ++ [zs[n]] := by rw [hy, ← hcur, List.append_assoc]
            have HN := Lib.hid hnew
            rw [hcur] at hown2 hlen ⊢
            have hxb : (bs[n]'(by omega) == (b : Int)) = true := beq_iff_eq.2 hx
            have HX := Lib.hid hx
            clear hy hcur hnew hx
            go_wp2_with (at_builtin; refine wpList_push rfl (.tmp 28) (.tmp 33) 22 rfl i0 (.int .i64 0) 8 Try.underlying22 hi0 hz0 hz1 hz2 rfl (by decide) _ _ rfl hown2 [.int .i64 zs[n]] rfl rfl (by simp [Value.oneCell']) (by omega) (by omega) hbs.size ?_)
            intro A' c' w2 hown3 hg2
            have hbs2 := hbs.grown hg2 hbs.size (fun i hi => (hown2.lt _ hi).1)
            clear hown2 hbs hg2 hxb hcell hcellb
            go_wp2
            go_roundw
            case rel =>
              refine ⟨n + 1, A', c', by omega, by go_num, by rw [HN.out]; simp, ?_, hbs2⟩
              rw [HN.out]; simpa using hown3
            case measure => simp [intOf]; omega
          · have hy := buck_no (zs := zs) (b := b) (show n < bs.length by omega) hx
            have hxb : (bs[n]'(by omega) == (b : Int)) = false := beq_eq_false_iff_ne.2 hx
            have HY := Lib.hid hy
            clear hy hx
            go_wp2
            clear hxb
            go_roundw
            case rel => exact ⟨n + 1, A2, c2, by omega, by go_num, by rw [HY.out], by rw [HY.out]; exact hown2, hbs⟩
            case measure => simp [intOf]; omega
        · have hn' : n = zs.length := by omega
          subst hn'
          have hnew : pre ++ buck zs bs b zs.length = passL zs bs (b + 1) := by simp only [passL, HP.out]
          rw [hnew] at hown2 ⊢
          clear hnew
          go_wp2
          go_roundw
          case rel => exact ⟨b + 1, A2, c2, by omega, by go_num, rfl, hown2, hbs⟩
          case measure => simp [intOf]; omega
    · have hb' : b = k := by omega
      subst hb'
      go_wp2
      go_ret
      have hcap := own_cap hown
      obtain ⟨A2, c2, hv, _, ho⟩ := own_of_row hown
      simp only [Value.slice.injEq] at hv
      obtain ⟨rfl, _, rfl⟩ := hv
      exact ⟨_, _, rfl, hcap, ho, hbr⟩
end Go.Proofs.Ytdgdlmpmoafkgaa
