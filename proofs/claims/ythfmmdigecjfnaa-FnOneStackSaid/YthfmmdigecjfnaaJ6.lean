/- What the laws of chapter 8 draw; laws.different. No condition. -/
import Derived.Test.YthfmmdigecjfnaaS10
import Derived.Test.YthfmmdigecjfnaaDi
import Derived.Test.YthfmmdigecjfnaaJ4
import Derived.Test.YthfmmdigecjfnaaJ1
namespace Go.Proofs.Ythfmmdigecjfnaa
open Go.RowKit

set_option maxRecDepth 100000 in
theorem drawRisingOf_any (A : Option Addr) (c : Nat) (zs : List Int) (w : World) (hr : Own w 0 w.heap.size A (zs.map (Value.int .u8))) (hx : zs.length ≤ c ∧ c ≤ maxLen ∧ ∀ z ∈ zs, (Lit.int .u8 z).wf = true) :
    Calls Try.prog 33 #[.slice A zs.length c] w fun e w' => ∃ (A : Option Addr) (c : Nat) (ds : List Int), e = .returned (.slice A ds.length c) ∧ ds.length ≤ 10 ∧ ds.length ≤ c ∧ Own w' 0 w'.heap.size A (ds.map (Value.int .i64)) ∧ Below w.heap.size w w' := by
  have H := Lib.hid hx
  clear hx
  go_enter Try.func33, Try.ntmps33
  go_wp2_with fail
  refine (newReader_any _ _ _ _ hr H.out).mono ?_
  rintro e w1 ⟨rfl, hrd, hb1⟩
  go_wp2_with fail
  refine (someRow_any _ 0 _ hrd (by omega)).mono ?_
  rintro e w2 ⟨A2, c2, ds, rfl, h10, hc, ho, _, hg⟩
  go_wp2_with fail
  go_ret
  exact ⟨A2, c2, ds, rfl, h10, hc, ho.row, hb1.grown hg hb1.size (fun k hk => by injection hk with hk; omega)⟩
set_option maxRecDepth 100000 in
theorem drawStacksOf_any (A : Option Addr) (c : Nat) (zs : List Int) (w : World) (hr : Own w 0 w.heap.size A (zs.map (Value.int .u8))) (hx : zs.length ≤ c ∧ c ≤ maxLen ∧ ∀ z ∈ zs, (Lit.int .u8 z).wf = true) :
    Calls Try.prog 29 #[.slice A zs.length c] w fun e w' => ∃ (A : Option Addr) (c : Nat) (ds : List Int), e = .returned (.slice A ds.length c) ∧ ds.length ≤ 10 ∧ ds.length ≤ c ∧ Own w' 0 w'.heap.size A (ds.map (Value.int .i64)) ∧ Below w.heap.size w w' := by
  have H := Lib.hid hx
  clear hx
  go_enter Try.func29, Try.ntmps29
  go_wp2_with fail
  refine (newReader_any _ _ _ _ hr H.out).mono ?_
  rintro e w1 ⟨rfl, hrd, hb1⟩
  go_wp2_with fail
  refine (someRow_any _ 0 _ hrd (by omega)).mono ?_
  rintro e w2 ⟨A2, c2, ds, rfl, h10, hc, ho, _, hg⟩
  go_wp2_with fail
  go_ret
  exact ⟨A2, c2, ds, rfl, h10, hc, ho.row, hb1.grown hg hb1.size (fun k hk => by injection hk with hk; omega)⟩

set_option maxRecDepth 100000 in
theorem drawRisingRow_any (A : Option Addr) (c : Nat) (zs : List Int) (w : World) (hr : Own w 0 w.heap.size A (zs.map (Value.int .u8))) (hx : zs.length ≤ c ∧ c ≤ maxLen ∧ ∀ z ∈ zs, (Lit.int .u8 z).wf = true) :
    Calls Try.prog 36 #[.slice A zs.length c] w fun e w' => ∃ (A : Option Addr) (c : Nat) (ds : List Int), e = .returned (.slice A ds.length c) ∧ ds.length ≤ 10 ∧ ds.length ≤ c ∧ Own w' 0 w'.heap.size A (ds.map (Value.int .i64)) ∧ Below w.heap.size w w' := by
  have H := Lib.hid hx
  clear hx
  go_enter Try.func36, Try.ntmps36
  go_wp2_with fail
  refine (newReader_any _ _ _ _ hr H.out).mono ?_
  rintro e w1 ⟨rfl, hrd, hb1⟩
  go_wp2_with fail
  refine (someRow_any _ 0 _ hrd (by omega)).mono ?_
  rintro e w2 ⟨A2, c2, ds, rfl, h10, hc, ho, _, hg⟩
  go_wp2_with fail
  go_ret
  exact ⟨A2, c2, ds, rfl, h10, hc, ho.row, hb1.grown hg hb1.size (fun k hk => by injection hk with hk; omega)⟩

set_option maxRecDepth 100000 in
theorem drawOneStack_any (A : Option Addr) (c : Nat) (zs : List Int) (w : World) (hr : Own w 0 w.heap.size A (zs.map (Value.int .u8))) (hx : zs.length ≤ c ∧ c ≤ maxLen ∧ ∀ z ∈ zs, (Lit.int .u8 z).wf = true) :
    Calls Try.prog 40 #[.slice A zs.length c] w fun e w' => ∃ (A : Option Addr) (c : Nat) (ds : List Int), e = .returned (.slice A ds.length c) ∧ ds.length ≤ 10 ∧ ds.length ≤ c ∧ Own w' 0 w'.heap.size A (ds.map (Value.int .i64)) ∧ Below w.heap.size w w' := by
  have H := Lib.hid hx
  clear hx
  go_enter Try.func40, Try.ntmps40
  go_wp2_with fail
  refine (newReader_any _ _ _ _ hr H.out).mono ?_
  rintro e w1 ⟨rfl, hrd, hb1⟩
  go_wp2_with fail
  refine (someRow_any _ 0 _ hrd (by omega)).mono ?_
  rintro e w2 ⟨A2, c2, ds, rfl, h10, hc, ho, _, hg⟩
  go_wp2_with fail
  go_ret
  exact ⟨A2, c2, ds, rfl, h10, hc, ho.row, hb1.grown hg hb1.size (fun k hk => by injection hk with hk; omega)⟩

set_option maxRecDepth 100000 in
set_option maxHeartbeats 2000000 in
theorem different2_any (A : Option Addr) (c : Nat) (zs : List Int) (w : World) (hr : Ints w w.heap.size A zs) (hc : zs.length ≤ c) (hl : zs.length ≤ 1000000) :
    Calls Try.prog 32 #[.slice A zs.length c] w fun e w' => e = .returned (.int .i64 (diffC zs : Nat)) ∧ ∃ n, w' = w.drewN n := by
  go_enter Try.func32, Try.ntmps32
  go_wp2
  go_loopw [3, 4] (fun m i wr => ∃ k : Nat, k ≤ zs.length ∧ i = .int .i64 k ∧ m = .int .i64 (diffC (zs.take k) : Nat) ∧ ∃ n, wr = w.drewN n) (fun _ i _ => zs.length - (intOf i).toNat)
  case atStart => exact ⟨0, by omega, rfl, rfl, 0, rfl⟩
  case round =>
    obtain ⟨k, hk, rfl, rfl, hwr⟩ := hrel
    have HWR := Lib.hid hwr
    have hbw : Below w.heap.size w wr := by obtain ⟨n, rfl⟩ := hwr; exact below_drewN (Below.refl _ _) n
    have hrr := hr.below hbw
    have hz := hbw.size
    have hdl : diffC (zs.take k) ≤ k := by have := diffC_le (zs.take k); rw [List.length_take] at this; omega
    obtain ⟨W, hW⟩ : ∃ W : World, W = wr := ⟨_, rfl⟩
    subst hW
    clear hwr
    by_cases hlt : k < zs.length
    · obtain ⟨b, o, rfl, hb, hcc⟩ := hrr.open (by simp; omega)
      have hcell := ints_at hcc hlt
      have HST := Lib.hid (diffC_step hlt)
      obtain ⟨z, hze⟩ : ∃ z, zs[k] = z := ⟨_, rfl⟩
      rw [hze] at hcell HST
      have hsl := slice_uptoI b o zs.length c k (by omega)
      have hrow : Ints W W.heap.size (some ⟨b, o, none⟩) (zs.take k) := by
        have := (hrr.more hz).take k
        rwa [← List.map_take] at this
      have hml : (zs.take k).length = k := by rw [List.length_take]; omega
      have hq := fun m => isIn_any (some ⟨b, o, none⟩) c (zs.take k) z (W.drewN m) (hrow.below (below_drewN (Below.refl _ _) m)) (by omega)
      rw [hml] at hq
      obtain ⟨D, hD⟩ : ∃ D, diffC (zs.take k) = D := ⟨_, rfl⟩
      rw [hD] at HST hdl ⊢
      have hk0 : (0 : Int) ≤ (k : Int) := by omega
      have hkI : (k : Int) < zs.length := by omega
      by_cases hin : z ∈ zs.take k
      · rw [decide_eq_true hin] at hq
        have HQ := Lib.hid hq
        have HF := Lib.hid (show diffC (zs.take (k + 1)) = D by rw [HST.out, if_pos hin]; rfl)
        clear hcc hin hze hq hrow hml hD
        go_wp2
        go_quiet ((go_at_call 57; exact Calls.quiet_of ((HQ.out _).mono fun _ _ ⟨h1, h2⟩ => ⟨h1, 0, h2.symm⟩)))
        go_simp
        clear hsl
        go_wp2
        go_roundw
        case rel => exact ⟨k + 1, by omega, by go_num, by rw [HF.out], by obtain ⟨n, hn⟩ := HWR.out; rw [hn]; exact ⟨_, World.drewN_drewN ..⟩⟩
        case measure => simp [intOf]; omega
      · rw [decide_eq_false hin] at hq
        have HQ := Lib.hid hq
        have HF := Lib.hid (show diffC (zs.take (k + 1)) = D + 1 by rw [HST.out, if_neg hin])
        clear hcc hin hze hq hrow hml hD
        go_wp2
        go_quiet ((go_at_call 57; exact Calls.quiet_of ((HQ.out _).mono fun _ _ ⟨h1, h2⟩ => ⟨h1, 0, h2.symm⟩)))
        go_simp
        clear hsl
        go_wp2
        go_roundw
        case rel => exact ⟨k + 1, by omega, by go_num, by rw [HF.out]; go_num, by obtain ⟨n, hn⟩ := HWR.out; rw [hn]; exact ⟨_, World.drewN_drewN ..⟩⟩
        case measure => simp [intOf]; omega
    · have hk' : k = zs.length := by omega
      subst hk'
      rw [List.take_length]
      clear hdl
      go_wp2
      go_ret
      exact ⟨rfl, HWR.out⟩
end Go.Proofs.Ythfmmdigecjfnaa
