/- The text of a code: contracts of spec.codeText and impl.codeText. No condition. -/
import Derived.Test.YtempfagjbpnlcaaA4
import Derived.Test.YtempfagjbpnlcaaRd2
import Derived.Laws.Concat
import Derived.Laws.BytesArg
import Derived.Outline
namespace Go.Proofs.Ytempfagjbpnlcaa
open Go.RowKit

/-- The sign of a number from 0 to 10. -/
def sg (n : Int) : UInt8 := if n = 10 then 120 else UInt8.ofNat (48 + n.toNat)
/-- A string out of its bytes. -/
def str (l : List UInt8) : Value := .string ⟨l.toArray⟩
/-- The text of digits with the check c. -/
def codeL (zs : List Int) (c : Int) : List UInt8 := zs.map sg ++ [45, sg c]

theorem digit_cases {n : Int} (h : 0 ≤ n ∧ n ≤ 10) : n = 0 ∨ n = 1 ∨ n = 2 ∨ n = 3 ∨ n = 4 ∨ n = 5 ∨ n = 6 ∨ n = 7 ∨ n = 8 ∨ n = 9 ∨ n = 10 := by omega

theorem sign_at (n : Int) (h : 0 ≤ n ∧ n ≤ 10) (w : World) : (Instr.index 9 (.string ⟨#[48, 49, 50, 51, 52, 53, 54, 55, 56, 57, 120]⟩) (.int .i64 n)).run Try.prog w = .ok (.int .u8 ((sg n).toNat : Int)) w := by
  rcases digit_cases h with rfl | rfl | rfl | rfl | rfl | rfl | rfl | rfl | rfl | rfl | rfl <;> kernel_rfl

theorem cut_at10 (n : Int) (h : 0 ≤ n ∧ n ≤ 9) (w : World) : (Instr.slice 9 (.string ⟨#[48, 49, 50, 51, 52, 53, 54, 55, 56, 57]⟩) (some (.int .i64 n)) (some (.int .i64 (n + 1))) none).run Try.prog w = .ok (.string ⟨[sg n].toArray⟩) w := by
  rcases digit_cases ⟨h.1, by omega⟩ with rfl | rfl | rfl | rfl | rfl | rfl | rfl | rfl | rfl | rfl | rfl <;> first | omega | kernel_rfl

theorem cut_at11 (n : Int) (h : 0 ≤ n ∧ n ≤ 10) (w : World) : (Instr.slice 9 (.string ⟨#[48, 49, 50, 51, 52, 53, 54, 55, 56, 57, 120]⟩) (some (.int .i64 n)) (some (.int .i64 (n + 1))) none).run Try.prog w = .ok (.string ⟨[sg n].toArray⟩) w := by
  rcases digit_cases h with rfl | rfl | rfl | rfl | rfl | rfl | rfl | rfl | rfl | rfl | rfl <;> kernel_rfl

theorem ba_snoc (l : List UInt8) (x : UInt8) : (⟨l.toArray⟩ : ByteArray) ++ ⟨[x].toArray⟩ = ⟨(l ++ [x]).toArray⟩ := ByteArray.mk_append_mk _ _

set_option maxRecDepth 100000 in
set_option maxHeartbeats 1000000 in
theorem specCodeText_any' (A : Option Addr) (c : Nat) (zs : List Int) (w : World) (hr : Ints w w.heap.size A zs) (hv : validD zs = true) :
    Calls Try.prog 32 #[.slice A zs.length c] w fun e w' => e = .returned (str (codeL zs (chk zs 0 % 11))) ∧ ∃ n, w' = w.drewN n := by
  have hl : zs.length = 4 := by simp only [validD, Bool.and_eq_true, beq_iff_eq] at hv; exact hv.2
  have hl2 : zs.length ≤ 4 := by omega
  have HV := Lib.hid hv
  have HL := Lib.hid hl
  clear hv hl
  go_enter Try.func32, Try.ntmps32
  go_wp2
  go_loopw [3, 4] (fun s i wr => ∃ k : Nat, k ≤ zs.length ∧ i = .int .i64 k ∧ s = .string ⟨((zs.take k).map sg).toArray⟩ ∧ ∃ n, wr = w.drewN n) (fun _ i _ => zs.length - (intOf i).toNat)
  case atStart => exact ⟨0, by omega, rfl, rfl, 0, rfl⟩
  case round =>
    obtain ⟨k, hk, rfl, rfl, n, rfl⟩ := hrel
    by_cases hlt : k < zs.length
    · obtain ⟨b, o, rfl, hb, hc⟩ := hr.open (by simp; omega)
      have hcell := ints_at hc hlt
      clear hc
      have hz := digit_of HV.out hlt
      have hcut := cut_at10 zs[k] hz
      have hw1 : IntKind.i64.wrap (zs[k] + 1) = zs[k] + 1 := IntWalk.i64_in _ (by omega)
      go_wp2_with fail
      go_quiet (fail)
      go_wp2
      go_roundw
      case rel =>
        refine ⟨k + 1, by omega, by go_num, ?_, n + nq, rfl⟩
        rw [← List.map_take, ba_snoc, List.take_succ_eq_append_getElem hlt, List.map_append]
        rfl
      case measure => simp [intOf]; omega
    · have hk' : k = zs.length := by omega
      subst hk'
      rw [List.take_length]
      have hch : 0 ≤ chk zs 0 % 11 ∧ chk zs 0 % 11 ≤ 10 := by omega
      obtain ⟨q, hq⟩ : ∃ q, chk zs 0 % 11 = q := ⟨_, rfl⟩
      have hcont := check_any A c zs (w.drewN n) (hr.below (below_drewN (Below.refl _ _) n)) HV.out
      rw [hq] at hch hcont
      have hcut := cut_at11 q hch
      have hsz : (zs.map sg).length = 4 := by rw [List.length_map]; exact HL.out
      have HQ := Lib.hid hq
      have HC := Lib.hid hcont
      have HS := Lib.hid hsz
      clear hq hcont hsz
      generalize hM : zs.map sg = M at *
      have HM := Lib.hid hM
      clear hM
      obtain ⟨m0, m1, m2, m3, rfl⟩ : ∃ m0 m1 m2 m3, M = [m0, m1, m2, m3] := by
        match M, HS.out with
        | [a, b, c, d], _ => exact ⟨a, b, c, d, rfl⟩
      clear HS
      go_wp2_with (go_at_call 48; refine HC.out.mono ?_; rintro e w' ⟨rfl, rfl⟩)
      go_ret
      refine ⟨?_, n, rfl⟩
      rw [HQ.out, codeL, HM.out]
      exact congrArg (fun b => Ending.returned (Value.string b)) (by rw [ByteArray.mk_append_mk, ByteArray.mk_append_mk]; rfl)

def codeV (zs : List Int) : Value := str (if validD zs then codeL zs (checkF zs) else [])
theorem codeV_yes {zs : List Int} (h : validD zs = true) : codeV zs = str (codeL zs (checkF zs)) := by simp [codeV, h]
theorem codeV_no {zs : List Int} (h : ¬ validD zs = true) : codeV zs = .string ⟨#[]⟩ := by simp [codeV, h, str]

set_option maxRecDepth 100000 in
set_option maxHeartbeats 1000000 in
theorem specCodeText_any (A : Option Addr) (c : Nat) (zs : List Int) (w : World) (hr : Ints w w.heap.size A zs) (hl : zs.length ≤ 9000000000000000000) :
    Calls Try.prog 11 #[.slice A zs.length c] w fun e w' => e = .returned (codeV zs) ∧ ∃ n, w' = w.drewN n := by
  by_cases hv : validD zs = true
  · have HV := Lib.hid hv
    clear hv
    have hC := specCodeText_any' A c zs w hr HV.out
    rw [show chk zs 0 % 11 = checkF zs by simp [checkF, HV.out]] at hC
    have HC := Lib.hid hC
    have hD := validDigits_any A c zs w hr hl
    rw [HV.out] at hD
    have HD := Lib.hid hD
    clear hC hD
    obtain ⟨L, hL⟩ : ∃ L, str (codeL zs (checkF zs)) = L := ⟨_, rfl⟩
    have HL := Lib.hid hL
    rw [hL] at HC
    clear hL
    go_enter Try.func11, Try.ntmps11
    go_wp2_with (first | (go_at_call 31; refine HD.out.mono ?_; rintro e w' ⟨rfl, rfl⟩) | (go_at_call 32; refine HC.out.mono ?_; rintro e w' ⟨rfl, n, rfl⟩))
    go_ret
    rw [codeV_yes HV.out, HL.out]
    exact ⟨rfl, n, rfl⟩
  · have hv' : validD zs = false := by simpa using hv
    have hD := validDigits_any A c zs w hr hl
    rw [hv'] at hD
    have HD := Lib.hid hD
    have HV := Lib.hid hv
    clear hv hv' hD
    go_enter Try.func11, Try.ntmps11
    go_wp2_with (first | (go_at_call 31; refine HD.out.mono ?_; rintro e w' ⟨rfl, rfl⟩))
    go_ret
    rw [codeV_no HV.out]
    exact ⟨rfl, 0, rfl⟩

theorem Try.info5 : (Try.prog.info? 5).map (fun i => (i.zero, i.size, i.bytes)) = some (some (.int .u8 0), 1, 1) := by kernel_rfl

theorem sg_bytes (zs : List Int) : strOfNums (zs.map fun z => ((sg z).toNat : Int)) = ⟨(zs.map sg).toArray⟩ := by
  simp [strOfNums, List.map_map, Function.comp_def]

set_option maxRecDepth 100000 in
set_option maxHeartbeats 2000000 in
theorem impCodeText_any' (p q r s : Int) (w : World) (hp : 0 ≤ p ∧ p ≤ 9) (hq : 0 ≤ q ∧ q ≤ 9) (hr : 0 ≤ r ∧ r ≤ 9) (hs : 0 ≤ s ∧ s ≤ 9) :
    Calls Try.prog 30 #[.agg #[.int .i64 p, .int .i64 q, .int .i64 r, .int .i64 s]] w fun e w' =>
      e = .returned (str (codeL [p, q, r, s] ((p + 2 * q + 3 * r + 4 * s) % 11))) ∧ Below w.heap.size w w' := by
  obtain ⟨i0, hi0, hz0, hz1, hz2⟩ := info_parts Try.info5
  have i0 : ∀ w, (Instr.index 42 (.agg #[.int .i64 p, .int .i64 q, .int .i64 r, .int .i64 s]) (.int .i64 0)).run Try.prog w = .ok (.int .i64 p) w := fun _ => by kernel_rfl
  have i1 : ∀ w, (Instr.index 42 (.agg #[.int .i64 p, .int .i64 q, .int .i64 r, .int .i64 s]) (.int .i64 1)).run Try.prog w = .ok (.int .i64 q) w := fun _ => by kernel_rfl
  have i2 : ∀ w, (Instr.index 42 (.agg #[.int .i64 p, .int .i64 q, .int .i64 r, .int .i64 s]) (.int .i64 2)).run Try.prog w = .ok (.int .i64 r) w := fun _ => by kernel_rfl
  have i3 : ∀ w, (Instr.index 42 (.agg #[.int .i64 p, .int .i64 q, .int .i64 r, .int .i64 s]) (.int .i64 3)).run Try.prog w = .ok (.int .i64 s) w := fun _ => by kernel_rfl
  have hmk : ∀ w, (Instr.makeSlice 22 (.int .i64 0) (.int .i64 6)).run Try.prog w = .ok (.slice (some ⟨w.heap.size, 0, none⟩) 0 6) (w.alloc (.cells #[.int .u8 0, .int .u8 0, .int .u8 0, .int .u8 0, .int .u8 0, .int .u8 0] 5)) := fun _ => by kernel_rfl
  have s0 := sign_at p ⟨hp.1, by omega⟩
  have s1 := sign_at q ⟨hq.1, by omega⟩
  have s2 := sign_at r ⟨hr.1, by omega⟩
  have s3 := sign_at s ⟨hs.1, by omega⟩
  go_enter Try.func30, Try.ntmps30
  go_wp2_with fail
  refine wp_loop_rounds 5 ?_
  repeat any_goals (rw [rounds_succ]; go_wp2_with fail)
  refine (checkOf_any p q r s _ hp hq hr hs).mono ?_
  rintro e w1 ⟨rfl, hb1⟩
  have hz := hb1.size
  simp only [World.size_alloc] at hz
  have hz1 : w.heap.size + 1 < w1.heap.size := by omega
  have hblk : w1.heap[w.heap.size + 1]? = some (.cells #[.int .u8 ((sg p).toNat : Int), .int .u8 ((sg q).toNat : Int), .int .u8 ((sg r).toNat : Int), .int .u8 ((sg s).toNat : Int), .int .u8 0, .int .u8 0] 5 (0, 0)) := by
    refine (hb1.block (w.heap.size + 1) (by simp only [World.size_alloc]; omega)).trans ?_
    exact heap_more _ (heap_more _ (heap_more _ (heap_more _ (heap_new _ (by simp)))))
  obtain ⟨c, hc⟩ : ∃ c, (p + 2 * q + 3 * r + 4 * s) % 11 = c := ⟨_, rfl⟩
  have hc11 : 0 ≤ c ∧ c ≤ 10 := by omega
  rw [hc]
  have HC := Lib.hid hc
  have HB := Lib.hid hblk
  have s4 := sign_at c hc11
  have c4 : w1.cell? ⟨w.heap.size + 1, 4, none⟩ = some (.int .u8 0) := cell_of_row w1 _ 4 _ _ _ hblk
  have c5 : w1.cell? ⟨w.heap.size + 1, 5, none⟩ = some (.int .u8 0) := cell_of_row w1 _ 5 _ _ _ hblk
  have f4 := frozen_of_row w1 _ 4 _ _ hblk
  have f5 := frozen_of_row w1 _ 5 _ _ hblk
  clear hc hblk i0 i1 i2 i3 hmk s0 s1 s2 s3
  go_wp2_with fail
  have hblk2 := heap_more (.cells #[.int .u8 45, .int .u8 ((sg c).toNat : Int)] 5) (heap_setCell_same _ (w.heap.size + 1) 5 _ _ (.int .u8 ((sg c).toNat : Int)) (heap_setCell_same w1 (w.heap.size + 1) 4 _ _ (.int .u8 45) HB.out))
  have hconv := run_convert_bytes_arg (P := Try.prog) _ 22 5 Try.underlying22 Try.underlying5 (w.heap.size + 1) 0 6 6 (([p, q, r, s].map fun z => ((sg z).toNat : Int)) ++ [45, ((sg c).toNat : Int)]) rfl (fun i hi => by
    rw [cell_of_row _ _ _ _ _ _ hblk2]
    match i, hi with
    | 0, _ => rfl
    | 1, _ => rfl
    | 2, _ => rfl
    | 3, _ => rfl
    | 4, _ => rfl
    | 5, _ => rfl) 9 Try.underlying9
  rw [hconv]
  have hstr : strOfNums (([p, q, r, s].map fun z => ((sg z).toNat : Int)) ++ [45, ((sg c).toNat : Int)]) = ⟨(codeL [p, q, r, s] c).toArray⟩ := by simp [strOfNums, codeL]
  have hb0 : Below w.heap.size w w1 := Below.trans (by go_grown) (hb1.mono (by simp only [World.size_alloc]; omega))
  have hbf := ((hb0.setCell (p := ⟨w.heap.size + 1, 4, none⟩) (by simp) (.int .u8 45)).setCell (p := ⟨w.heap.size + 1, 5, none⟩) (by simp) (.int .u8 ((sg c).toNat : Int))).alloc (by simp [World.setCell]; omega) (.cells #[.int .u8 45, .int .u8 ((sg c).toNat : Int)] 5)
  clear hblk2 hconv c4 c5 f4 f5 s4
  obtain ⟨L, hL⟩ : ∃ L, strOfNums (([p, q, r, s].map fun z => ((sg z).toNat : Int)) ++ [45, ((sg c).toNat : Int)]) = L := ⟨_, rfl⟩
  rw [hL] at hstr ⊢
  have HL := Lib.hid hstr
  clear hstr hL
  go_wp2
  go_ret
  rw [HL.out]
  exact ⟨by rw [HC.out]; rfl, hbf⟩

set_option maxRecDepth 100000 in
theorem impCodeText_any (A : Option Addr) (c : Nat) (zs : List Int) (w : World) (hr : Ints w w.heap.size A zs) :
    Calls Try.prog 10 #[.slice A zs.length c] w fun e w' => e = .returned (codeV zs) ∧ Below w.heap.size w w' := by
  by_cases hv : validD zs = true
  · have h4 : zs.length = 4 := by simp only [validD, Bool.and_eq_true, beq_iff_eq] at hv; exact hv.2
    obtain ⟨p, q, r, s, rfl⟩ := four_of h4
    have hp := digit_of hv (k := 0) (by simp)
    have hq := digit_of hv (k := 1) (by simp)
    have hr' := digit_of hv (k := 2) (by simp)
    have hs := digit_of hv (k := 3) (by simp)
    simp only [List.getElem_cons_zero, List.getElem_cons_succ] at hp hq hr' hs
    have hF : codeV [p, q, r, s] = str (codeL [p, q, r, s] ((p + 2 * q + 3 * r + 4 * s) % 11)) := by
      rw [codeV_yes hv]; congr 2; simp only [checkF, hv, if_true, chk]; congr 1; omega
    have HF := Lib.hid hF
    clear h4 hv hF
    have hct := fun W => impCodeText_any' p q r s W hp hq hr' hs
    rw [← HF.out] at hct
    obtain ⟨L, hL⟩ : ∃ L, codeV [p, q, r, s] = L := ⟨_, rfl⟩
    rw [hL] at hct ⊢
    have HCT := Lib.hid hct
    clear hct hL HF
    go_enter Try.func10, Try.ntmps10
    go_wp2_with (first | (go_at_call 29; refine (digitsOf_ok _ _ _ _ _ _ _ hr hp hq hr' hs).mono ?_; rintro e w1 ⟨rfl, hb1⟩) | (go_at_call 30; refine (HCT.out _).mono ?_; rintro e w2 ⟨rfl, hb2⟩))
    go_ret
    exact ⟨rfl, (hb1.alloc hb1.size _).trans (hb2.mono (by have := hb1.size; simp; omega))⟩
  · have hv' : validD zs = false := by simpa using hv
    have HV := Lib.hid hv
    have HV' := Lib.hid hv'
    clear hv hv'
    go_enter Try.func10, Try.ntmps10
    go_wp2_with (first | (go_at_call 29; refine (digitsOf_bad _ _ _ _ hr HV'.out).mono ?_; rintro e w1 ⟨rfl, hb1⟩))
    go_ret
    exact ⟨by rw [codeV_no HV.out]; rfl, hb1.alloc hb1.size _⟩
end Go.Proofs.Ytempfagjbpnlcaa
