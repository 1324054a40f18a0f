/- impl.risingRow, impl.RisingOf, impl.RisingRow. No condition. -/
import Derived.Test.YtdgdlmpmoafkgaaJ3
import Derived.ArgAppend
namespace Go.Proofs.Ytdgdlmpmoafkgaa
open Go.RowKit

theorem slice3 (R : Option Addr) (m c : Nat) (hmc : m ≤ c) (hz : (R = none ∧ m = 0 ∧ c = 0) ∨ ∃ b o, R = some ⟨b, o, none⟩) (W : World) :
    (Instr.slice 22 (.slice R m c) none (some (.int .i64 (m : Int))) (some (.int .i64 (m : Int)))).run Try.prog W = .ok (.slice R m m) W := by
  rcases hz with ⟨rfl, rfl, rfl⟩ | ⟨b, o, rfl⟩
  · go_simp
  · have h1 : (0 : Int) ≤ (m : Int) := by omega
    have h2 : (m : Int) ≤ (c : Int) := by omega
    go_simp

theorem rowsTo_pos {zs : List Int} {k : Nat} : ∀ r ∈ rowsTo zs k, 0 < r.length ∧ r.length ≤ k := by
  induction k with
  | zero => simp [rowsTo]
  | succ k ih =>
    intro r hr
    simp only [rowsTo] at hr
    rcases List.mem_append.1 hr with h | h
    · have := ih r h; omega
    · simp only [List.mem_singleton] at h
      subst h
      have := bestTo_len (rows := rowsTo zs k) (limit := zs.getD k 0) (k := k) (M := k) (fun r hr => (ih r hr).2)
      rw [List.length_append, List.length_singleton]; omega

set_option maxRecDepth 100000 in
set_option maxHeartbeats 8000000 in
theorem impRisingRow_any (A : Option Addr) (c0 : Nat) (zs : List Int) (w : World) (hr : Ints w w.heap.size A zs) (hl : zs.length ≤ 9) :
    Calls Try.prog 54 #[.slice A zs.length c0] w (iRes w (riseL zs)) := by
  obtain ⟨i0, hi0, hz0, hz1, hz2⟩ := info_parts Try.info3
  obtain ⟨iR, hiR, hR0, hR1, hR2⟩ := info_parts Try.infoR
  go_enter Try.func54, Try.ntmps54
  go_wp2_with (at_make; refine wpList_make_own _ rfl (.const (.int .i64 0)) (.tmp 8) _ rfl w.heap.size 22 iR (.slice none 0 0) 1 Try.underlying37 hiR hR0 hR1 _ _ _ _ rfl rfl rfl (by rw [hR2]; omega) (by unfold maxLen; omega) (Nat.le_refl _) ?_)
  intro w1 hown1 hg1
  have hb1 : Below w.heap.size w w1 := (Below.refl _ _).grown hg1 (Nat.le_refl _) (by simp)
  have hbu : Built w1 w.heap.size (some ⟨w.heap.size, 0, none⟩) zs.length [] (rowsTo zs 0) := ⟨hown1, ⟨rfl, fun i hi => by simp [rowsTo] at hi⟩, ⟨fun i j hi => by simp [rowsTo] at hi, fun i hi => by simp [rowsTo] at hi⟩⟩
  have HIN := Lib.hid (And.intro hbu hb1)
  clear hown1 hg1 hb1 hbu
  go_wp2
  go_loopw [3, 12] (fun v i wr => ∃ (k : Nat) (H : Option Addr) (c : Nat) (hs : List Value), k ≤ zs.length ∧ i = .int .i64 k ∧ v = .slice H k c ∧ Built wr w.heap.size H c hs (rowsTo zs k) ∧ Below w.heap.size w wr) (fun _ i _ => zs.length - (intOf i).toNat)
  case atStart => exact ⟨0, _, _, _, by omega, rfl, rfl, HIN.out.1, HIN.out.2⟩
  case round =>
    clear HIN
    obtain ⟨k, H, c, hs, hk, rfl, rfl, hbu, hbr⟩ := hrel
    have HBU := Lib.hid hbu
    have HBR := Lib.hid hbr
    have hbz := hbr.size
    have hrl := rowsTo_len zs k
    have hbb := fun limit : Int => bestBelow_any (w.heap.size + 1) wr.heap.size H c (rowsTo zs k) limit wr hbu.mgrid.grid (Nat.le_refl _) (by omega) (fun r h => by have := rowsTo_pos r h; omega)
    rw [hrl] at hbb
    have HBB := Lib.hid hbb
    by_cases hlt : k < zs.length
    · obtain ⟨b, o, rfl, hb, hc⟩ := (hr.below hbr).open (by simp; omega)
      have hcI := ints_atD hc hlt
      have HRT := Lib.hid (show rowsTo zs (k + 1) = rowsTo zs k ++ [bestTo (rowsTo zs k) (zs.getD k 0) k ++ [zs.getD k 0]] from rfl)
      have hbl := bestTo_len (rows := rowsTo zs k) (limit := zs.getD k 0) (k := k) (M := k) (fun r hr => (rowsTo_pos r hr).2)
      obtain ⟨x, hx⟩ : ∃ x, zs.getD k 0 = x := ⟨_, rfl⟩
      rw [hx] at hcI HRT hbl
      have hk1 : k + 1 ≤ zs.length := by omega
      clear hc hx hbu hbr hbb hrl
      go_wp2_with fail
      refine (HBB.out x).mono ?_
      rintro e w2 ⟨R, cR, rfl, hRc, hRo, hRz, hb2⟩
      obtain ⟨T, hT⟩ : ∃ T, bestTo (rowsTo zs k) x k = T := ⟨_, rfl⟩
      rw [hT] at HRT hbl hRc hRo hRz ⊢
      obtain ⟨m, hm⟩ : ∃ m, T.length = m := ⟨_, rfl⟩
      have HM := Lib.hid hm
      rw [hm] at hbl hRc hRz ⊢
      have HB2 := Lib.hid hb2
      have hsz2 := hb2.size
      have hRn : (R = none → m = 0 ∧ cR = 0) := fun e => by
        by_cases h0 : m = 0
        · exact ⟨h0, (hRz h0).2⟩
        · obtain ⟨b', o', e', _⟩ := hRo.open (by simp; omega)
          rw [e] at e'; cases e'
      have hRf : (R = none ∧ m = 0 ∧ cR = 0) ∨ ∃ b o, R = some ⟨b, o, none⟩ := by
        by_cases h0 : m = 0
        · exact .inl ⟨(hRz h0).1, h0, (hRz h0).2⟩
        · obtain ⟨b', o', e', _⟩ := hRo.open (by simp; omega)
          exact .inr ⟨b', o', e'⟩
      have hsl := slice3 R m cR hRc hRf
      have HROW := Lib.hid hRo
      have HRN := Lib.hid (And.intro hRn hRf)
      clear hT hm hb2 hRz hRn hRf hRo
      go_wp2_with (at_builtin; refine wpList_append_grows _ rfl (.tmp 25) (.tmp 27) 22 rfl 3 i0 (.int .i64 0) 1 8 Try.underlying22 hi0 hz0 hz1 hz2 rfl (by decide) R m m (T.map (Value.int .i64)) rfl (fun e => by have := (HRN.out.1 e).1; omega) (by rw [List.length_map, HM.out, Nat.mul_one]) ?olds ⟨w2.heap.size, 0, none⟩ 1 1 [.int .i64 x] rfl rfl ?news (by simp [Value.oneCell']) (by omega) (by unfold maxLen; omega) (by omega) ?next)
      case olds =>
        intro a e j u hu
        rcases (HROW.out.below ((Below.refl _ _).alloc hsz2 (.cells #[.int .i64 x] 3))) with h | ⟨b', o', hA, _, _, hc', _⟩
        · rw [h] at hu; simp at hu
        · rw [e] at hA
          simp only [Option.some.injEq] at hA
          subst hA
          rw [Addr.add_lit]
          exact hc' j u hu
      case news =>
        intro j u hu
        rw [Addr.add_lit, Nat.zero_add, World.cell?_alloc_at _ _ _ _ rfl]
        simpa using hu
      case next =>
        intro v' w4 hown4 hg4
        obtain ⟨A2, c2, rfl⟩ := own_form hown4
        have hb4 : Below wr.heap.size wr w4 := (HB2.out.alloc hsz2 (.cells #[.int .i64 x] 3)).grown hg4 (by simp; omega) (by simp)
        have hcap := own_cap hown4
        have hnew : OwnInts w4 wr.heap.size w4.heap.size A2 (T ++ [x]) := by
          have h1 := own_of_rowS (by decide) hown4
          show Own w4 (wr.heap.size + 1) w4.heap.size A2 ((T ++ [x]).map (Value.int .i64))
          rw [List.map_append]
          exact h1.less (by simp; omega)
        have hrl := rowsTo_len zs k
        have hownC : w4.ownsRow w.heap.size 22 1 (.slice H k c) k hs := by have := (HBU.out.keep hb4).1; rwa [hrl] at this
        have HNW := Lib.hid (And.intro hnew (And.intro hb4 hcap))
        have hsz4 := hb4.size
        have HRL := Lib.hid hrl
        clear hown4 hg4 hb4 hnew hcap hrl hsl
        go_wp2_with (at_builtin; refine wpList_push_at rfl (.tmp 19) (.tmp 29) 37 rfl iR (.slice none 0 0) 24 Try.underlying37 hiR hR0 hR1 hR2 rfl (by decide) _ _ rfl hownC [.slice A2 (m + 1) c2] rfl rfl (by simp [Value.oneCell']) (by omega) (by omega) (by omega) ?_)
        intro H' c' w5 hown5 hg5 hat5
        have hpl : (T ++ [x]).length = m + 1 := by rw [List.length_append, HM.out]; rfl
        have hbuilt := Built.push (R := A2) (cR := c2) (r := T ++ [x]) HBU.out hbz HNW.out.2.1 HNW.out.1 (by rw [hpl]; exact HNW.out.2.2) (by rw [HRL.out, hpl]; exact hown5) (by rw [HRL.out]; exact hg5) (by rcases hat5 with h | ⟨a, rfl, h⟩; exact .inl h; exact .inr (by simp [h]))
        have hb5 : Below w.heap.size w w5 := (HBR.out.trans (HNW.out.2.1.mono hbz)).grown hg5 (by omega) (fun i hi => (hownC.lt i hi).1)
        have HW := Lib.hid (And.intro hbuilt hb5)
        clear hbuilt hb5 hown5 hg5 hat5 hownC hpl
        go_wp2
        go_roundw
        case rel => exact ⟨k + 1, H', c', _, hk1, by go_num, rfl, by rw [HRT.out]; exact HW.out.1, HW.out.2⟩
        case measure => simp [intOf]; omega
    · have hkn : k = zs.length := by omega
      subst hkn
      clear hbu hbr hbb
      go_wp2_with fail
      refine (HBB.out _).mono ?_
      rintro e w2 ⟨R, cR, rfl, hRc, hRo, hRz, hb2⟩
      have HF := Lib.hid (show iRes w (riseL zs) (.returned (.slice R (bestTo (rowsTo zs zs.length) zs.length zs.length).length cR)) w2 from ⟨R, cR, rfl, hRc, hRo.more hb2.size, HBR.out.trans (hb2.mono hbz)⟩)
      clear hRc hRo hRz hb2
      go_wp2
      go_ret
      exact HF.out

set_option maxRecDepth 100000 in
theorem impRisingOf_any (A : Option Addr) (c0 : Nat) (zs : List Int) (w : World) (hr : Ints w w.heap.size A zs) (hc0 : zs.length ≤ c0) :
    Calls Try.prog 30 #[.slice A zs.length c0] w fun e w' => e = .returned (.int .i64 (risV zs)) ∧ Below w.heap.size w w' := by
  have hva := impValidRow_any A c0 zs w hr hc0
  by_cases hv : rowB 9 zs = true
  · rw [hv] at hva
    have HVA := Lib.hid hva
    have HRI := Lib.hid (impRisingRow_any A c0 zs w hr (rowB_len hv))
    have HF := Lib.hid (show risV zs = ((riseL zs).length : Int) by rw [risV_yes hv, riseL_len hv])
    clear hva hv
    go_enter Try.func30, Try.ntmps30
    go_wp2_with (go_at_call 18; refine HVA.out.mono ?_; rintro e w' ⟨rfl, rfl⟩)
    refine HRI.out.mono ?_
    rintro e w1 ⟨A1, c1, rfl, -, -, hb⟩
    have HB := Lib.hid hb
    clear hb
    go_wp2_with fail
    go_ret
    exact ⟨ret_int HF.out.symm, HB.out⟩
  · have hv' : rowB 9 zs = false := by simpa using hv
    rw [hv'] at hva
    have HVA := Lib.hid hva
    have HF := Lib.hid (risV_no hv')
    clear hva hv hv'
    go_enter Try.func30, Try.ntmps30
    go_wp2_with (go_at_call 18; refine HVA.out.mono ?_; rintro e w' ⟨rfl, rfl⟩)
    go_ret
    exact ⟨ret_int HF.out.symm, Below.refl _ _⟩

def rowV (zs : List Int) : List Int := if rowB 9 zs then riseL zs else []
theorem rowV_yes {zs : List Int} (h : rowB 9 zs = true) : rowV zs = riseL zs := by simp [rowV, h]
theorem rowV_no {zs : List Int} (h : rowB 9 zs = false) : rowV zs = [] := by simp [rowV, h]
theorem rowV_len (zs : List Int) : (rowV zs).length ≤ 9 := by
  unfold rowV
  by_cases h : rowB 9 zs = true
  · rw [if_pos h, riseL_len h]; have := lis_le_len zs; have := rowB_len h; omega
  · rw [if_neg h]; simp
end Go.Proofs.Ytdgdlmpmoafkgaa
