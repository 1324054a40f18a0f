/- impl.PassesTried. No condition. -/
import Derived.Test.YtaklhpjbgjccgaaPt2
import Derived.Test.YtaklhpjbgjccgaaS4
namespace Go.Proofs.Ytaklhpjbgjccgaa
open Go.RowKit

def triedV (zs : List Int) (k : Int) : Int := if rowB 4 zs && inR k 2 4 then (passN (runsNat zs) k.toNat : Int) else -1
theorem triedV_yes {zs : List Int} {k : Nat} (h : rowB 4 zs = true) (h2 : inR (k : Int) 2 4 = true) : triedV zs (k : Int) = (passN (runsNat zs) k : Int) := by simp [triedV, h, h2]
theorem triedV_no {zs : List Int} {k : Int} (h : rowB 4 zs = false ∨ inR k 2 4 = false) : triedV zs k = -1 := by rcases h with h | h <;> simp [triedV, h]
theorem row4 (zs : List Int) : rowB 4 zs = (rowB 9 zs && decide (zs.length ≤ 4)) := by
  unfold rowB
  by_cases h : zs.length ≤ 4
  · rw [decide_eq_true h, decide_eq_true (show zs.length ≤ 9 by omega)]; simp
  · rw [decide_eq_false h]; simp
theorem row9_of {zs : List Int} (h : rowB 4 zs = true) : rowB 9 zs = true := by rw [row4] at h; simp at h; exact h.1

theorem grid_one {w : World} {A : Option Addr} {c : Nat} {zs : List Int} (hr : Ints w w.heap.size A zs) (hc : zs.length ≤ c) : Grid (w.alloc (.cells #[.slice A zs.length c] 23)) 0 (w.alloc (.cells #[.slice A zs.length c] 23)).heap.size (some ⟨w.heap.size, 0, none⟩) [zs] := by
  refine ⟨[.slice A zs.length c], (own_new w #[.slice A zs.length c] 23).more (by simp), rfl, fun i hi => ?_⟩
  simp only [List.length_cons, List.length_nil, Nat.zero_add, Nat.lt_one_iff] at hi
  subst hi
  exact ⟨A, c, rfl, hc, (hr.below ((Below.refl _ _).alloc (Nat.le_refl _) _)).more (by simp)⟩

set_option maxRecDepth 100000 in
set_option maxHeartbeats 4000000 in
theorem impTried_any (A : Option Addr) (c0 : Nat) (zs : List Int) (k : Int) (w : World) (hr : Ints w w.heap.size A zs) (hc0 : zs.length ≤ c0) :
    Calls Try.prog 34 #[.slice A zs.length c0, .int .i64 k] w fun e w' => e = .returned (.int .i64 (triedV zs k)) ∧ Below w.heap.size w w' := by
  have hva := impValidRow_any A c0 zs w hr hc0
  obtain ⟨V, hV⟩ : ∃ V, triedV zs k = V := ⟨_, rfl⟩
  rw [hV]
  have HV := Lib.hid hV
  clear hV
  by_cases hv : rowB 9 zs = true
  · rw [hv] at hva
    have HVA := Lib.hid hva
    clear hva
    by_cases h4 : zs.length ≤ 4
    · have hd4 : decide ((4 : Int) < (zs.length : Int)) = false := decide_eq_false (by omega)
      by_cases hk : inR k 2 4 = true
      · obtain ⟨k, rfl⟩ : ∃ k' : Nat, k = (k' : Int) := ⟨k.toNat, by simp [inR] at hk; omega⟩
        have hk2 : 2 ≤ k ∧ k ≤ 4 := by simp [inR] at hk; omega
        obtain ⟨hk2, hk4⟩ := hk2
        have hv4 : rowB 4 zs = true := by rw [row4, hv, decide_eq_true h4]; rfl
        have HVV := Lib.hid (show V = (passN (runsNat zs) k : Int) by rw [← HV.out]; exact triedV_yes hv4 hk)
        have HKR := Lib.hid hk
        have HR := Lib.hid hv
        have hL2 : passN (runsNat zs) k ≤ 2 := passN_two (Nat.le_trans runsNat_few h4) hk2
        have HGO := Lib.hid (reach_goal hk2 hk4 hv)
        have HNO := Lib.hid (fun p r (h : Reach zs k p r) (hp : p < passN (runsNat zs) k) => reach_not hk2 hk4 hv h hp)
        have hLn : 0 < passN (runsNat zs) k → 1 ≤ zs.length := fun h => by
          refine Decidable.by_contra fun hc => ?_
          have h0 : zs.length = 0 := by omega
          have : runsNat zs = 0 := by unfold runsNat; rw [if_pos h0]
          rw [this] at h
          simp [passN] at h
        obtain ⟨L, hL⟩ : ∃ L, passN (runsNat zs) k = L := ⟨_, rfl⟩
        rw [hL] at HVV hL2 HGO HNO hLn
        have HG1 := Lib.hid (grid_one hr hc0)
        have hb0 : Below w.heap.size w (w.alloc (.cells #[.slice A zs.length c0] 23)) := (Below.refl _ _).alloc (Nat.le_refl _) _
        have HB0 := Lib.hid hb0
        clear hv hk hv4 hL hb0
        go_enter Try.func34, Try.ntmps34
        go_wp2_with (first | (go_at_call 16; refine HVA.out.mono ?_; rintro e w' ⟨rfl, rfl⟩) | (go_at_call 67; refine (canSort_any _ _).mono ?_; rintro e w' ⟨rfl, rfl⟩; rw [HKR.out]))
        go_loopw [5, 6] (fun pa v wr => ∃ (p m c : Nat) (H : Option Addr) (R : List (List Int)), p ≤ L ∧ pa = .int .i64 p ∧ v = .slice H m c ∧ m = R.length ∧ m ≤ 256 ^ p ∧ Grid wr 0 wr.heap.size H R ∧ Hid ((∀ r ∈ R, Reach zs k p r) ∧ ∀ r, Reach zs k p r → r ∈ R) ∧ Below w.heap.size w wr) (fun pa _ _ => L - (intOf pa).toNat)
        case atStart => exact ⟨0, 1, 1, _, [zs], by omega, rfl, rfl, rfl, by simp, HG1.out, Lib.hid ⟨fun r h => by simp only [List.mem_singleton] at h; exact h, fun r h => by simp only [Reach] at h; simp [h]⟩, HB0.out⟩
        case round =>
          clear HG1 HB0
          obtain ⟨p, m, c, H, R, hp, rfl, rfl, hm, hmp, hg, HRE, hbr⟩ := hrel
          have HBR := Lib.hid hbr
          have hm65 : m ≤ 65536 := by
            have : 256 ^ p ≤ 256 ^ 2 := Nat.pow_le_pow_right (by omega) (by omega)
            omega
          have hco := containsSorted_any H c zs.length R wr hg (by omega) (fun r h => ⟨(HRE.out.1 r h).row HR.out, (HRE.out.1 r h).len⟩)
          rw [← hm] at hco
          by_cases hpL : p < L
          · have hgn : (tab zs.length fun j => (j : Int)) ∉ R := fun h => HNO.out p _ (HRE.out.1 _ h) hpL rfl
            rw [decide_eq_false hgn] at hco
            have HCO := Lib.hid hco
            have hmp2 : m ≤ 256 := by
              have : 256 ^ p ≤ 256 ^ 1 := Nat.pow_le_pow_right (by omega) (by omega)
              omega
            have HGR := Lib.hid hg
            have hn1 := hLn (by omega)
            have HRB := Lib.hid (fun (X : World) (hX : Grid X 0 X.heap.size H R) => rowsBehind_any H c k zs.length R X hX hn1 h4 (fun r h => (HRE.out.1 r h).len) hk2 hk4 (by omega))
            have HM := Lib.hid hm
            have HMP := Lib.hid hmp
            clear hco hgn hg hbr hm hmp
            go_wp2_with fail
            refine HCO.out.mono ?_
            rintro e w2 ⟨rfl, z, rfl⟩
            have hgz : Grid (wr.drewN z) 0 (wr.drewN z).heap.size H R := HGR.out
            have hrb := HRB.out _ hgz
            rw [← HM.out] at hrb
            have HRB2 := Lib.hid hrb
            have HBZ := Lib.hid (below_drewN HBR.out z)
            clear hgz hrb
            go_wp2_with fail
            refine HRB2.out.mono ?_
            rintro e w3 ⟨H', c', R', rfl, hl', hg', hs', hc', hb'⟩
            have HW := Lib.hid (And.intro hg' (HBZ.out.trans (hb'.mono HBZ.out.size)))
            have HN := Lib.hid (show (∀ r ∈ R', Reach zs k (p + 1) r) ∧ ∀ r, Reach zs k (p + 1) r → r ∈ R' from ⟨fun r h => by
              obtain ⟨r0, h0, bs, hbs, rfl⟩ := hs' r h
              exact (HRE.out.1 r0 h0).next hbs, fun r h => by
              obtain ⟨r0, bs, h0, hbs, rfl⟩ := h
              exact hc' r0 (by rw [List.take_length]; exact HRE.out.2 r0 h0) bs hbs⟩)
            have HL := Lib.hid (show R'.length ≤ 256 ^ (p + 1) by
              rw [Nat.pow_succ]
              refine Nat.le_trans hl' (Nat.mul_le_mul_right _ ?_)
              rw [← HM.out]; exact HMP.out)
            obtain ⟨m', hm'⟩ : ∃ m', R'.length = m' := ⟨_, rfl⟩
            rw [hm'] at HL ⊢
            have HM' := Lib.hid hm'
            clear hl' hg' hs' hc' hb' hm'
            go_wp2_with fail
            go_roundw
            case rel => exact ⟨p + 1, m', c', H', R', by omega, by go_num, rfl, HM'.out.symm, HL.out, HW.out.1, HN, HW.out.2⟩
            case measure => simp [intOf]; omega
          · have hpe : p = L := by omega
            have hgn : (tab zs.length fun j => (j : Int)) ∈ R := HRE.out.2 _ (by rw [hpe]; exact HGO.out)
            rw [decide_eq_true hgn] at hco
            have HCO := Lib.hid hco
            have HF := Lib.hid (show V = (p : Int) by rw [HVV.out, hpe])
            clear hco hgn hg hbr hm hmp hpe
            go_wp2_with fail
            refine HCO.out.mono ?_
            rintro e w2 ⟨rfl, z, rfl⟩
            go_wp2_with fail
            go_ret
            exact ⟨ret_int HF.out.symm, below_drewN HBR.out z⟩
      · have hk' : inR k 2 4 = false := by simpa using hk
        have HKR := Lib.hid hk'
        have HF := Lib.hid (show V = -1 by rw [← HV.out]; exact triedV_no (.inr hk'))
        clear hk hk' hv
        go_enter Try.func34, Try.ntmps34
        go_wp2_with (first | (go_at_call 16; refine HVA.out.mono ?_; rintro e w' ⟨rfl, rfl⟩) | (go_at_call 67; refine (canSort_any _ _).mono ?_; rintro e w' ⟨rfl, rfl⟩; rw [HKR.out]))
        go_ret
        exact ⟨ret_int HF.out.symm, Below.refl _ _⟩
    · have hd4 : decide ((4 : Int) < (zs.length : Int)) = true := decide_eq_true (by omega)
      have HF := Lib.hid (show V = -1 by rw [← HV.out]; exact triedV_no (.inl (by rw [row4, decide_eq_false h4, Bool.and_false])))
      clear h4 hv
      go_enter Try.func34, Try.ntmps34
      go_wp2_with (first | (go_at_call 16; refine HVA.out.mono ?_; rintro e w' ⟨rfl, rfl⟩))
      go_ret
      exact ⟨ret_int HF.out.symm, Below.refl _ _⟩
  · have hv' : rowB 9 zs = false := by simpa using hv
    rw [hv'] at hva
    have HVA := Lib.hid hva
    have HF := Lib.hid (show V = -1 by rw [← HV.out]; exact triedV_no (.inl (by rw [row4, hv', Bool.false_and])))
    clear hva hv hv'
    go_enter Try.func34, Try.ntmps34
    go_wp2_with (first | (go_at_call 16; refine HVA.out.mono ?_; rintro e w' ⟨rfl, rfl⟩))
    go_ret
    exact ⟨ret_int HF.out.symm, Below.refl _ _⟩
end Go.Proofs.Ytaklhpjbgjccgaa
