/- spec.RisingOf; laws.greatestOf, laws.placeOf. No condition. -/
import Derived.Test.YthfmmdigecjfnaaI4
import Derived.Test.YthfmmdigecjfnaaI3
import Derived.Test.YthfmmdigecjfnaaS6
namespace Go.Proofs.Ythfmmdigecjfnaa
open Go.RowKit

def risV (zs : List Int) : Int := if rowB 9 zs then (lis zs : Int) else -1
theorem risV_yes {zs : List Int} (h : rowB 9 zs = true) : risV zs = (lis zs : Int) := by simp [risV, h]
theorem risV_no {zs : List Int} (h : rowB 9 zs = false) : risV zs = -1 := by simp [risV, h]
theorem lis_le_len (zs : List Int) : lis zs ≤ zs.length := lisTo_le zs _

set_option maxRecDepth 100000 in
theorem specRisingOf_any (A : Option Addr) (c0 : Nat) (zs : List Int) (w : World) (hr : Ints w w.heap.size A zs) (hl : zs.length ≤ 9000000000000000000) :
    Calls Try.prog 21 #[.slice A zs.length c0] w fun e w' => e = .returned (.int .i64 (risV zs)) ∧ Below w.heap.size w w' := by
  have hva := specValidRow9_any A c0 zs w hr hl
  by_cases hv : rowB 9 zs = true
  · rw [hv] at hva
    have HVA := Lib.hid hva
    have hl9 := rowB_len hv
    have HV := Lib.hid (risV_yes hv)
    have HRI := Lib.hid (specRising_any A c0 zs w hr hl9)
    clear hva hv
    go_enter Try.func21, Try.ntmps21
    go_wp2_with (go_at_call 41; refine HVA.out.mono ?_; rintro e w' ⟨rfl, rfl⟩)
    refine HRI.out.mono ?_
    rintro e w1 ⟨A1, c1, rfl, hc1, ho, hb⟩
    rw [tab_length] at hc1 ⊢
    obtain ⟨W, hW⟩ : ∃ W : World, W = w1 := ⟨_, rfl⟩
    subst hW
    have HB := Lib.hid hb
    clear hb hr
    go_wp2
    go_loop [3, 5] (fun m i => ∃ k : Nat, k ≤ zs.length ∧ i = .int .i64 k ∧ m = .int .i64 (lisTo zs k : Nat)) (fun _ i => zs.length - (intOf i).toNat)
    case atStart => exact ⟨0, by omega, rfl, rfl⟩
    case round =>
      obtain ⟨k, hk, rfl, rfl⟩ := hrel
      have hlk := lisTo_le zs k
      by_cases hlt : k < zs.length
      · obtain ⟨b, o, rfl, hb, hc⟩ := ho.open (by simp [tab_length]; omega)
        have hcell := hc k _ (tab_vals_get hlt)
        have hup := up_le zs k
        have HF := Lib.hid (show lisTo zs (k + 1) = max (lisTo zs k) (up zs k) from rfl)
        obtain ⟨m, hm⟩ : ∃ m, lisTo zs k = m := ⟨_, rfl⟩
        obtain ⟨u, hu⟩ : ∃ u, up zs k = u := ⟨_, rfl⟩
        rw [hm] at HF hlk ⊢
        rw [hu] at HF hcell hup
        clear hc hm hu
        go_wp2
        go_round
        case rel => exact ⟨k + 1, by omega, by go_num, by rw [HF.out]; go_num⟩
        case measure => simp [intOf]; omega
      · have hk' : k = zs.length := by omega
        subst hk'
        go_wp2
        go_ret
        exact ⟨ret_int HV.out.symm, HB.out⟩
  · have hv' : rowB 9 zs = false := by simpa using hv
    rw [hv'] at hva
    have HVA := Lib.hid hva
    have HV := Lib.hid (risV_no hv')
    clear hva hv hv'
    go_enter Try.func21, Try.ntmps21
    go_wp2_with (go_at_call 41; refine HVA.out.mono ?_; rintro e w' ⟨rfl, rfl⟩)
    go_ret
    exact ⟨ret_int HV.out.symm, Below.refl _ _⟩

/-- The greatest of the first k, 0 if there is none. -/
def grt (zs : List Int) : Nat → Int
  | 0 => 0
  | k + 1 => max (grt zs k) (zs.getD k 0)
theorem grt_ge {zs : List Int} {k i : Nat} (h : i < k) : zs.getD i 0 ≤ grt zs k := by
  induction k with
  | zero => omega
  | succ k ih =>
    simp only [grt]
    by_cases e : i = k
    · subst e; omega
    · have := ih (by omega); omega
theorem grt_at (zs : List Int) (k : Nat) : grt zs k = 0 ∨ ∃ i, i < k ∧ grt zs k = zs.getD i 0 := by
  induction k with
  | zero => exact .inl rfl
  | succ k ih =>
    simp only [grt]
    by_cases h : grt zs k ≤ zs.getD k 0
    · exact .inr ⟨k, by omega, by omega⟩
    · rcases ih with h1 | ⟨i, h1, h2⟩
      · exact .inl (by omega)
      · exact .inr ⟨i, by omega, by omega⟩

set_option maxRecDepth 100000 in
theorem greatestOf_any (A : Option Addr) (c0 : Nat) (zs : List Int) (w : World) (hr : Ints w w.heap.size A zs) (hl : zs.length ≤ 1000000) :
    Calls Try.prog 31 #[.slice A zs.length c0] w fun e w' => e = .returned (.int .i64 (grt zs zs.length)) ∧ w = w' := by
  go_enter Try.func31, Try.ntmps31
  go_wp2
  go_loop [3, 4] (fun m i => ∃ k : Nat, k ≤ zs.length ∧ i = .int .i64 k ∧ m = .int .i64 (grt zs k)) (fun _ i => zs.length - (intOf i).toNat)
  case atStart => exact ⟨0, by omega, rfl, rfl⟩
  case round =>
    obtain ⟨k, hk, rfl, rfl⟩ := hrel
    by_cases hlt : k < zs.length
    · obtain ⟨b, o, rfl, hb, hc⟩ := hr.open (by simp; omega)
      have hcell := ints_atD hc hlt
      have HF := Lib.hid (show grt zs (k + 1) = max (grt zs k) (zs.getD k 0) from rfl)
      obtain ⟨m, hm⟩ : ∃ m, grt zs k = m := ⟨_, rfl⟩
      obtain ⟨u, hu⟩ : ∃ u, zs.getD k 0 = u := ⟨_, rfl⟩
      rw [hm] at HF ⊢
      rw [hu] at HF hcell
      clear hc hm hu
      go_wp2
      go_round
      case rel => exact ⟨k + 1, by omega, by go_num, by rw [HF.out]⟩
      case measure => simp [intOf]; omega
    · have hk' : k = zs.length := by omega
      subst hk'
      go_wp2
      go_ret
      exact ⟨rfl, rfl⟩

set_option maxRecDepth 100000 in
theorem placeOf_any (A : Option Addr) (c0 : Nat) (zs : List Int) (x : Int) (w : World) (hr : Ints w w.heap.size A zs) (hl : zs.length ≤ 1000000) (hx : x ∈ zs) :
    Calls Try.prog 38 #[.slice A zs.length c0, .int .i64 x] w fun e w' => e = .returned (.int .i64 (pl zs x : Int)) ∧ w = w' := by
  have HX := Lib.hid hx
  clear hx
  go_enter Try.func38, Try.ntmps38
  go_wp2
  go_loop [5] (fun i => ∃ k : Nat, k ≤ zs.length ∧ i = .int .i64 k ∧ ¬ x ∈ zs.take k) (fun i => zs.length - (intOf i).toNat)
  case atStart => exact ⟨0, by omega, rfl, by simp⟩
  case round =>
    obtain ⟨k, hk, rfl, hno⟩ := hrel
    have HN := Lib.hid hno
    clear hno
    by_cases hlt : k < zs.length
    · obtain ⟨b, o, rfl, hb, hc⟩ := hr.open (by simp; omega)
      have hcell := ints_at hc hlt
      clear hc
      by_cases hzx : zs[k] = x
      · have hpl : pl zs x = k := by rw [← hzx]; exact pl_first hlt (by rw [hzx]; exact HN.out)
        have HP := Lib.hid hpl
        have ht : (zs[k] == x) = true := beq_iff_eq.2 hzx
        clear hpl hzx
        go_wp2
        go_ret
        exact ⟨ret_int (by rw [HP.out]), rfl⟩
      · have ht : (zs[k] == x) = false := beq_eq_false_iff_ne.2 hzx
        have HZ := Lib.hid hzx
        clear hzx
        go_wp2
        clear ht
        go_round
        case rel => exact ⟨k + 1, by omega, by go_num, by rw [List.take_succ_eq_append_getElem hlt, List.mem_append, List.mem_singleton]; rintro (h | h); exact HN.out h; exact HZ.out h.symm⟩
        case measure => simp [intOf]; omega
    · exact absurd HX.out (by have := HN.out; rwa [List.take_of_length_le (by omega)] at this)
end Go.Proofs.Ythfmmdigecjfnaa
