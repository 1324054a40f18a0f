/- impl.cheapestChain. No condition. -/
import Derived.Test.YtmbpcilgjolaeaaUn
import Derived.BigRegion
import Derived.WalkMore
import Derived.Deep.LoopGhost
namespace Go.Proofs.Ytmbpcilgjolaeaa
open Go.RowKit

section
variable {n : Nat} {D : Nat → Nat → Int} {i : Nat} {C : List Nat}
theorem ends_take (x : Nat) (C : List Nat) {p : Nat} (hp : p ≤ C.length) : ends x (C.take p) = (x :: C)[p]'(by simp; omega) := by
  induction C generalizing x p with
  | nil => simp at hp; subst hp; rfl
  | cons y C ih =>
    cases p with
    | zero => rfl
    | succ p =>
      simp only [List.length_cons] at hp
      show ends y (C.take p) = _
      rw [ih y (by omega)]; rfl
theorem csum_take {p : Nat} (hp : p < C.length) : csum D i (C.take (p + 1)) = csum D i (C.take p) + D ((i :: C)[p]'(by simp; omega)) C[p] := by
  rw [List.take_succ_eq_append_getElem hp, csum_app, ends_take i C (by omega)]
  simp [csum]
theorem csum_prefix (h : RM n D) (hi : i < n) (hC : ∀ y ∈ C, y < n) (p : Nat) : csum D i (C.take p) ≤ csum D i C := by
  have h1 : csum D i C = csum D i (C.take p ++ C.drop p) := by rw [List.take_append_drop]
  rw [h1, csum_app]
  have h2 := csum_nonneg h (x := ends i (C.take p)) (ends_lt hi (t := C.take p) (fun y hy => hC y (List.mem_of_mem_take hy))) (t := C.drop p) (fun y hy => hC y (List.mem_of_mem_drop hy))
  omega
theorem tryN_more (D : Nat → Nat → Int) (n i k b : Nat) (s : Best) (r : Nat) : tryN D n i k b s (r + 1) = tryOne D i (tryN D n i k b s r) (digs n b r ++ [k]) := rfl
theorem tryB_more (D : Nat → Nat → Int) (n i k b : Nat) : tryB D n i k (b + 1) = tryN D n i k (b + 1) (tryB D n i k b) (n ^ (b + 1)) := rfl
end
theorem pow_small {n b : Nat} (hn : n ≤ 5) (hb : b ≤ 3) : n ^ b ≤ 125 := by
  have h1 := Nat.pow_le_pow_left hn b
  have h2 : (5 : Nat) ^ b ≤ 5 ^ 3 := Nat.pow_le_pow_right (by omega) hb
  omega
/-- A chain that is kept. -/
def Kept (w : World) (base : Nat) (v l : Value) (i : Nat) (s : Best) : Prop := ∃ A c, v = .slice A (s.1.length + 1) c ∧ l = .int .i64 s.2 ∧ s.1.length + 1 ≤ c ∧ OwnInts w base w.heap.size A (ints (i :: s.1))

set_option maxRecDepth 100000 in
set_option maxHeartbeats 8000000 in
theorem cheapestChain_any (A : Option Addr) (c n i k : Nat) (D : Nat → Nat → Int) (w : World) (hr : Grid w 0 w.heap.size A (mat n D)) (hm : RM n D) (hi : i < n) (hk : k < n) (hn2 : 2 ≤ n) :
    Calls Try.prog 53 #[.slice A n c, .int .i64 (i : Int), .int .i64 (k : Int)] w (iRes w (ints (i :: (tryB D n i k (n - 2)).1))) := by
  have hn5 := hm.n5
  have HM := Lib.hid hm
  obtain ⟨bA, oA, p, q, cc, rfl, hsq⟩ := hr.sq (by omega)
  have HSQ := Lib.hid hsq
  obtain ⟨hbA, hall⟩ := hsq
  obtain ⟨x1, x2, x3⟩ := hall i hi
  have x4 := x3 k hk
  have d1 := hm.lo i k hi hk
  have d2 := hm.hi i k hi hk
  have HB0 := Lib.hid (show (tryB D n i k 0).2 = D i k from rfl)
  obtain ⟨u, hu⟩ : ∃ u, D i k = u := ⟨_, rfl⟩
  rw [hu] at x4 d1 d2 HB0
  have i1 : (0 : Int) ≤ i := by omega
  have i2 : (i : Int) < n := by omega
  have i3 : (0 : Int) ≤ k := by omega
  have i4 : (k : Int) < n := by omega
  clear hr hall x3 hu hm
  go_enter Try.func53, Try.ntmps53
  go_wp2_with fail
  go_region
  have hb0 : Below w.heap.size w (w.alloc (.cells #[.int .i64 (i : Int), .int .i64 (k : Int)] 3)).drew := below_drew ((Below.refl _ _).alloc (Nat.le_refl _) _)
  have hk0 : OwnInts (w.alloc (.cells #[.int .i64 (i : Int), .int .i64 (k : Int)] 3)).drew w.heap.size (w.alloc (.cells #[.int .i64 (i : Int), .int .i64 (k : Int)] 3)).drew.heap.size (some ⟨w.heap.size, 0, none⟩) (ints [i, k]) :=
    (own_block (xs := [.int .i64 (i : Int), .int .i64 (k : Int)]) (heap_alloc_new w _) (Nat.le_refl _)).below (below_drewT _)
  obtain ⟨W0, hW0⟩ : ∃ W0, (w.alloc (.cells #[.int .i64 (i : Int), .int .i64 (k : Int)] 3)).drew = W0 := ⟨_, rfl⟩
  rw [hW0] at hb0 hk0 ⊢
  have HK0 := Lib.hid (show Kept W0 w.heap.size (.slice (some ⟨w.heap.size, 0, none⟩) 2 2) (.int .i64 u) i (tryB D n i k 0) from ⟨_, _, rfl, by rw [HB0.out], Nat.le_refl _, hk0⟩)
  have HB1 := Lib.hid hb0
  clear hW0 hb0 hk0 x1 x2 x4 d1 d2
  go_wp2_with fail
  go_loopw [7, 8, 10, 11] (fun v l ch bt wr => ∃ b : Nat, b + 2 ≤ n ∧ ch = .int .i64 ((n ^ b : Nat) : Int) ∧ bt = .int .i64 ((b : Int) + 1) ∧ Hid (Kept wr w.heap.size v l i (tryB D n i k b)) ∧ Below w.heap.size w wr) (fun _ _ _ bt _ => n - (intOf bt).toNat)
  case atStart => exact ⟨0, by omega, by simp, by simp, HK0, HB1.out⟩
  case round =>
    obtain ⟨b, hb, rfl, rfl, ⟨Ak, ck, rfl, rfl, hck, hok⟩, hbr⟩ := hrel
    clear HK0 HB1
    obtain ⟨S, hS⟩ : ∃ S, tryB D n i k b = S := ⟨_, rfl⟩
    rw [hS] at hck hok ⊢
    have HS := Lib.hid hS
    have HBR := Lib.hid hbr
    have hbz := hbr.size
    by_cases hlb : b + 3 ≤ n
    · have hd : decide ((b : Int) + 1 ≤ (n : Int) - 2) = true := decide_eq_true (by omega)
      have hw0 : IntKind.i64.wrap ((n : Int) - 2) = (n : Int) - 2 := IntWalk.i64_in _ (by omega)
      have hpw := pow_small hn5 (show b + 1 ≤ 3 by omega)
      obtain ⟨P, hP⟩ : ∃ P, n ^ b = P := ⟨_, rfl⟩
      obtain ⟨N, hN⟩ : ∃ N, n ^ (b + 1) = N := ⟨_, rfl⟩
      have hPN : (P : Int) * (n : Int) = (N : Int) := by rw [← hN, Nat.pow_succ, hP]; push_cast; rfl
      rw [hN] at hpw
      rw [hP]
      have HNN := Lib.hid hN
      have hwN : IntKind.i64.wrap ((P : Int) * (n : Int)) = (N : Int) := by rw [hPN]; exact IntWalk.i64_in _ (by omega)
      have HK1 := Lib.hid (show Kept wr w.heap.size (.slice Ak (S.1.length + 1) ck) (.int .i64 S.2) i (tryN D n i k (b + 1) S 0) from ⟨_, _, rfl, rfl, hck, hok⟩)
      clear hPN hP hN hck hok hS hbr
      go_wp2_with fail
      go_step3
      go_wp2_with fail
      go_step3
      go_wp2_with fail
      go_loopw [7, 8, 38] (fun v l x wr => ∃ r : Nat, r ≤ N ∧ x = .int .i64 (r : Int) ∧ Hid (Kept wr w.heap.size v l i (tryN D n i k (b + 1) S r)) ∧ Below w.heap.size w wr) (fun _ _ x _ => N - (intOf x).toNat)
      case atStart => exact ⟨0, by omega, rfl, HK1, HBR.out⟩
      case round =>
        clear HK1 HBR hbz
        obtain ⟨r, hr, rfl, ⟨Ak, ck, rfl, rfl, hck, hok⟩, hbr⟩ := hrel
        have HBR := Lib.hid hbr
        have hbz := hbr.size
        obtain ⟨s, hs⟩ : ∃ s, tryN D n i k (b + 1) S r = s := ⟨_, rfl⟩
        rw [hs] at hck hok ⊢
        have HSS := Lib.hid hs
        have HOK := Lib.hid (And.intro hck hok)
        clear hs hck hok hbr
        by_cases hlr : r < N
        · have hco := chainOver_any r (b + 1) n i k wr (by omega) (by omega) (by omega) hn5
          rw [show ((b + 1 : Nat) : Int) = (b : Int) + 1 by omega] at hco
          obtain ⟨C, hC⟩ : ∃ C, digs n (b + 1) r ++ [k] = C := ⟨_, rfl⟩
          have HCC := Lib.hid hC
          have hcl : C.length = b + 2 := by rw [← hC]; simp [digs_len]
          have HCN := Lib.hid (show ∀ y ∈ C, y < n from fun y hy => by
            rw [← hC] at hy
            rcases List.mem_append.1 hy with hy | hy
            · exact digs_lt (by omega) _ _ y hy
            · simp at hy; omega)
          rw [hC] at hco
          have HCO := Lib.hid hco
          clear hco hC hd hw0 hwN
          go_wp2_with fail
          refine HCO.out.mono ?_
          rintro e w2 ⟨A2, c2, rfl, hc2, ho2, hb2⟩
          obtain ⟨bc, oc, rfl, hbc, hcc⟩ := ho2.open (by simp [ints_len])
          have HO2 := Lib.hid (And.intro hc2 ho2)
          have HCE := Lib.hid hcc
          have HB2 := Lib.hid (HBR.out.trans (hb2.mono hbz))
          have HOK2 := Lib.hid (And.intro HOK.out.1 (HOK.out.2.past hb2))
          have hz2 := HB2.out.size
          have hw1 : IntKind.i64.wrap ((b : Int) + 1 + 1) = ((b + 2 : Nat) : Int) := by rw [show (b : Int) + 1 + 1 = ((b + 2 : Nat) : Int) by omega]; exact IntWalk.i64_in _ (by omega)
          clear hc2 ho2 hcc hb2
          go_wp2_with fail
          go_loopw [14, 49] (fun z v wr => ∃ p : Nat, p ≤ b + 2 ∧ z = .int .i64 (csum D i (C.take p)) ∧ v = .int .i64 (p : Int) ∧ (p = 0 ∨ csum D i (C.take p) < s.2) ∧ ∃ m, wr = w2.drewN m) (fun _ v _ => b + 2 - (intOf v).toNat)
          case atStart => exact ⟨0, by omega, by simp [csum], rfl, .inl rfl, 0, rfl⟩
          case round =>
            obtain ⟨p, hp, rfl, rfl, hps, hdr⟩ := hrel
            clear hw1
            have HDR := Lib.hid hdr
            have HPS := Lib.hid hps
            clear hps
            by_cases hlp : p < b + 2
            · have hb3 : Below w2.heap.size w2 wr := by obtain ⟨m, rfl⟩ := hdr; exact drewBelow _ _
              have hpC : p < C.length := by omega
              have hpL : p < (i :: C).length := by rw [List.length_cons]; omega
              have hpL2 : p + 1 < (i :: C).length := by rw [List.length_cons]; omega
              have hct := csum_take (D := D) (i := i) hpC
              have y1 := cell_keep hb3 (by omega) (HCE.out p (.int .i64 (((i :: C)[p] : Nat) : Int)) (by unfold ints; rw [List.getElem?_map, List.getElem?_map, List.getElem?_eq_getElem hpL]; rfl))
              have y2 := cell_keep hb3 (by omega) (HCE.out (p + 1) (.int .i64 ((C[p] : Nat) : Int)) (by unfold ints; rw [List.getElem?_map, List.getElem?_map, List.getElem?_eq_getElem hpL2]; rfl))
              have hx : (i :: C)[p] < n := by
                rcases List.mem_cons.1 (List.getElem_mem hpL) with h | h
                · rw [h]; exact hi
                · exact HCN.out _ h
              have hy : C[p] < n := HCN.out _ (List.getElem_mem hpC)
              obtain ⟨_, hall⟩ := (HSQ.out.below (HB2.out.trans (hb3.mono (by omega))))
              have t1 := csum_nonneg HM.out hi (t := C.take p) (fun y hy => HCN.out y (List.mem_of_mem_take hy))
              have t2 := csum_hi HM.out hi (t := C.take p) (fun y hy => HCN.out y (List.mem_of_mem_take hy))
              rw [List.length_take] at t2
              have hpre := csum_prefix HM.out hi HCN.out (p + 1)
              obtain ⟨x, hx0⟩ : ∃ x, (i :: C)[p] = x := ⟨_, rfl⟩
              obtain ⟨y, hy0⟩ : ∃ y, C[p] = y := ⟨_, rfl⟩
              rw [hx0] at y1 hx hct
              rw [hy0] at y2 hy hct
              obtain ⟨z1, _, z3⟩ := hall x hx
              have z4 := z3 y hy
              have e1 := HM.out.lo x y hx hy
              have e2 := HM.out.hi x y hx hy
              obtain ⟨d, hd⟩ : ∃ d, D x y = d := ⟨_, rfl⟩
              rw [hd] at z4 e1 e2 hct
              obtain ⟨t, ht⟩ : ∃ t, csum D i (C.take p) = t := ⟨_, rfl⟩
              rw [ht] at t1 t2 hct HPS ⊢
              rw [hct] at hpre
              have HCT := Lib.hid hct
              have HPRE := Lib.hid hpre
              have hwp : IntKind.i64.wrap ((p : Int) + 1) = ((p + 1 : Nat) : Int) := by rw [show (p : Int) + 1 = ((p + 1 : Nat) : Int) by omega]; exact IntWalk.i64_in _ (by omega)
              have hwt : IntKind.i64.wrap (t + d) = t + d := IntWalk.i64_in _ (by omega)
              have j1 : (0 : Int) ≤ p := by omega
              have j2 : (p : Int) < ((b + 1 + 2 : Nat) : Int) := by omega
              have j3 : (0 : Int) ≤ ((p + 1 : Nat) : Int) := by omega
              have j4 : ((p + 1 : Nat) : Int) < ((b + 1 + 2 : Nat) : Int) := by omega
              have j5 : (0 : Int) ≤ x := by omega
              have j6 : (x : Int) < n := by omega
              have j7 : (0 : Int) ≤ y := by omega
              have j8 : (y : Int) < n := by omega
              clear hb3 hpC hpL hpL2 hall z3 hx0 hy0 hd ht hct hpre hdr
              go_wp2_with fail
              go_quiet (fail)
              rename_i nq
              have hbx : Below w2.heap.size w2 (wr.drewN nq) := by obtain ⟨m, hm⟩ := HDR.out; rw [hm]; exact (drewBelow _ _).trans ((drewBelow _ _).mono (Nat.le_refl _))
              by_cases hge : s.2 ≤ t + d
              · have hdg : decide (s.2 ≤ t + d) = true := decide_eq_true hge
                have HF := Lib.hid (show Kept (wr.drewN nq) w.heap.size (.slice Ak (s.1.length + 1) ck) (.int .i64 s.2) i (tryN D n i k (b + 1) S (r + 1)) ∧ Below w.heap.size w (wr.drewN nq) from by
                  have hto : tryN D n i k (b + 1) S (r + 1) = s := by
                    rw [tryN_more, HSS.out, HCC.out]
                    unfold tryOne
                    rw [if_neg (by have := HPRE.out; omega)]
                  rw [hto]
                  exact ⟨⟨_, _, rfl, rfl, HOK2.out.1, HOK2.out.2.past hbx⟩, HB2.out.trans (hbx.mono hz2)⟩)
                clear hge hbx
                go_wp2_with fail
                exact ⟨⟨r + 1, by omega, by go_num, Lib.hid HF.out.1, HF.out.2⟩, by simp [intOf]; omega⟩
              · have hdg : decide (s.2 ≤ t + d) = false := decide_eq_false hge
                have HDN := Lib.hid (show ∃ m, wr.drewN nq = w2.drewN m by obtain ⟨m, hm⟩ := HDR.out; rw [hm]; exact ⟨_, World.drewN_drewN ..⟩)
                have HLT := Lib.hid (show t + d < s.2 by omega)
                clear hge hbx
                go_wp2_with fail
                go_roundw
                case rel => exact ⟨p + 1, by omega, by rw [HCT.out], by go_num, .inr (by rw [HCT.out]; exact HLT.out), HDN.out⟩
                case measure => simp [intOf]; omega
            · have hpp : p = b + 2 := by omega
              subst hpp
              have hall : C.take (b + 2) = C := List.take_of_length_le (by omega)
              have hlt := HPS.out
              rw [hall] at hlt ⊢
              have hbx : Below w2.heap.size w2 wr := by obtain ⟨m, rfl⟩ := hdr; exact drewBelow _ _
              have HF := Lib.hid (show Kept wr w.heap.size (.slice (some ⟨bc, oc, none⟩) (b + 1 + 2) c2) (.int .i64 (csum D i C)) i (tryN D n i k (b + 1) S (r + 1)) ∧ Below w.heap.size w wr from by
                  have hto : tryN D n i k (b + 1) S (r + 1) = (C, csum D i C) := by
                    rw [tryN_more, HSS.out, HCC.out]
                    unfold tryOne
                    rw [if_pos (by omega)]
                  rw [hto]
                  exact ⟨⟨_, _, by rw [hcl], rfl, by rw [hcl]; exact HO2.out.1, (HO2.out.2.past hbx).less (by omega)⟩, HB2.out.trans (hbx.mono hz2)⟩)
              clear hbx hlt hall hdr
              go_wp2_with fail
              go_roundw
              case rel => exact ⟨r + 1, by omega, by go_num, Lib.hid HF.out.1, HF.out.2⟩
              case measure => simp [intOf]; omega
        · have hrN : r = N := by omega
          subst hrN
          have HF := Lib.hid (show Kept wr w.heap.size (.slice Ak (s.1.length + 1) ck) (.int .i64 s.2) i (tryB D n i k (b + 1)) from by
            rw [tryB_more, HS.out, HNN.out, HSS.out]
            exact ⟨_, _, rfl, rfl, HOK.out.1, HOK.out.2⟩)
          clear hd hw0 hwN
          go_wp2_with fail
          rw [Exit.noGoto_normal]
          go_wp2_with fail
          go_roundw
          case rel => exact ⟨b + 1, by omega, by rw [HNN.out], by go_num, Lib.hid HF.out, HBR.out⟩
          case measure => simp [intOf]; omega
    · have hbn : b = n - 2 := by omega
      subst hbn
      have hd : decide (((n - 2 : Nat) : Int) + 1 ≤ (n : Int) - 2) = false := decide_eq_false (by omega)
      have hw0 : IntKind.i64.wrap ((n : Int) - 2) = (n : Int) - 2 := IntWalk.i64_in _ (by omega)
      have HF := Lib.hid (And.intro hck hok)
      clear hck hok hbr
      go_wp2_with fail
      go_ret
      rw [hS]
      exact ⟨Ak, ck, by rw [ints_len]; rfl, by rw [ints_len]; exact HF.out.1, HF.out.2, HBR.out⟩
end Go.Proofs.Ytmbpcilgjolaeaa
