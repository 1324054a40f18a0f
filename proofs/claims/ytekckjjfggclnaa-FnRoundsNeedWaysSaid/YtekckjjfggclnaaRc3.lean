/- impl.leastPaired. No condition. -/
import Derived.Test.YtekckjjfggclnaaGr
import Derived.Deep.RegionLaw
namespace Go.Proofs.Ytekckjjfggclnaa
open Go.RowKit

theorem slice_uptoP (b o n c j : Nat) (h : j ≤ c) (W : World) :
    (Instr.slice 32 (.slice (some ⟨b, o, none⟩) n c) none (some (.int .i64 (j : Int))) none).run Try.prog W = .ok (.slice (some ⟨b, o, none⟩) j c) W := by
  have h1 : (0 : Int) ≤ (j : Int) := by omega
  have h2 : (j : Int) ≤ (c : Int) := by omega
  go_simp
theorem slice_tailP (b o n c : Nat) (hc : n ≤ c) (hn : 1 < n) (W : World) :
    (Instr.slice 32 (.slice (some ⟨b, o, none⟩) n c) (some (.int .i64 1)) none none).run Try.prog W = .ok (.slice (some ⟨b, o + 1, none⟩) (n - 1) (c - 1)) W := by
  have h2 : (1 : Int) ≤ (n : Int) := by omega
  have h4 : ¬ c = 1 := by omega
  have h5 : 1 ≤ n := by omega
  go_simp

set_option maxRecDepth 100000 in
set_option maxHeartbeats 16000000 in
theorem leastPaired_any (D : Nat → Nat → Int) (n : Nat) (hD : ∀ i k, i < n → k < n → 0 ≤ D i k ∧ D i k ≤ 140) (m : Nat) : ∀ (A B : Option Addr) (c cB N : Nat) (l : List Nat) (w : World), m ≤ 2 → l.length = N → N = 2 * m → N ≤ cB → (∀ y ∈ l, y < n) →
    Grid w 0 w.heap.size A (mat n D) → Own w 0 w.heap.size B ((intsR l).map (Value.int .i64)) →
    Calls Try.prog 21 #[.slice B N cB, .slice A n c] w fun e w' => e = .returned (.int .i64 (pairF D m l)) ∧ Below w.heap.size w w' := by
  have HDD := Lib.hid hD
  clear hD
  induction m with
  | zero =>
    intro A B c cB N l w hm hl hN hcB hln hg hB
    have h0 : ((N : Int) == 0) = true := by rw [hN]; rfl
    clear hl hN hg hB hln
    go_enter Try.func21, Try.ntmps21
    go_wp2_with fail
    go_ret
    exact ⟨rfl, Below.refl _ _⟩
  | succ m ih =>
    intro A B c cB N l w hm hl hN hcB hln hg hB
    have HIH := Lib.hid ih
    clear ih
    have h0 : ((N : Int) == 0) = false := beq_eq_false_iff_ne.2 (by omega)
    have hNm : 2 ≤ N := by omega
    have hN4 : N ≤ 6 := by omega
    have HNM := Lib.hid hN
    clear hN
    cases l with
    | nil => simp at hl; omega
    | cons x r =>
    have hrl : r.length + 1 = N := by simpa using hl
    have HRL := Lib.hid hrl
    have hx : x < n := hln x (by simp)
    have HRN := Lib.hid (show ∀ y ∈ r, y < n from fun y hy => hln y (by simp [hy]))
    obtain ⟨bB, oB, rfl, hbB, hcells⟩ := hB.open (by rw [List.length_map, intsR_len]; simp)
    obtain ⟨bA, oA, p, q, cc, rfl, hsq⟩ := hg.sq (by omega)
    have HSQ := Lib.hid hsq
    have HG := Lib.hid hg
    have HBT := Lib.hid (show Own w 0 w.heap.size (some ⟨bB, oB + 1, none⟩) ((intsR r).map (Value.int .i64)) from hB.drop 1)
    have HCE := Lib.hid (fun j (hj : j < r.length) => show w.cell? ⟨bB, oB + 1 + j, none⟩ = some (.int .i64 ((r.getD j 0 : Nat) : Int)) from by
      have h := hcells (j + 1) _ (intsR_at (l := x :: r) (j := j + 1) (by simp; omega))
      rw [List.getElem_cons_succ] at h
      rw [show oB + 1 + j = oB + (j + 1) by omega, h, List.getD, List.getElem?_eq_getElem hj]; rfl)
    have x0 := hcells 0 (.int .i64 (x : Int)) rfl
    rw [Nat.add_zero] at x0
    obtain ⟨F, hF⟩ : ∃ F, pairF D m = F := ⟨_, rfl⟩
    have HF := Lib.hid hF
    have HBD := Lib.hid (fun j (hj : j < r.length) => show 0 ≤ D x (r.getD j 0) ∧ D x (r.getD j 0) ≤ 140 ∧ 0 ≤ F (dropAt r j) ∧ F (dropAt r j) ≤ 140 from by
      have h2 : r.getD j 0 < n := by rw [List.getD, List.getElem?_eq_getElem hj]; exact HRN.out _ (List.getElem_mem hj)
      have h3 := HDD.out x _ hx h2
      have h4 := pairF_bd HDD.out m (dropAt r j) (by have := dropAt_len hj; have := HNM.out; omega) (dropAt_lt HRN.out)
      rw [hF] at h4
      have h5 : (140 : Int) * m ≤ 140 := by omega
      omega)
    have HV := Lib.hid (show pairMin D F x r r.length = pairF D (m + 1) (x :: r) by
      rw [pairMin_to (fun j hj => by have := HBD.out j hj; omega) r.length (Nat.le_refl _), if_neg (by omega), ← hF]; rfl)
    have hsl0 := slice_tailP bB oB N cB hcB (by omega)
    obtain ⟨R, hR⟩ : ∃ R, N - 1 = R := ⟨_, rfl⟩
    obtain ⟨cR, hcR⟩ : ∃ cR, cB - 1 = cR := ⟨_, rfl⟩
    rw [hR, hcR] at hsl0
    have HRR := Lib.hid (show r.length = R by omega)
    have hRc : R ≤ cR := by omega
    have hR5 : R ≤ 5 := by omega
    have hR1 : 1 ≤ R := by omega
    have hN0 : 0 < N := by omega
    have hN0I : (0 : Int) < N := by omega
    have HNR := Lib.hid (show N = R + 1 by omega)
    clear hl hln hg hB hsq hcells hF hrl hR hcR
    go_enter Try.func21, Try.ntmps21
    go_wp2_with fail
    go_quiet (fail)
    rename_i nq
    go_wp2_with fail
    have hb0 : Below w.heap.size w (w.drewN nq) := drewBelow _ _
    go_loopw [7, 21] (fun v u wr => ∃ k : Nat, k ≤ R ∧ u = .int .i64 (k : Int) ∧ v = .int .i64 (pairMin D F x r k) ∧ Below w.heap.size w wr) (fun _ u _ => R - (intOf u).toNat)
    case atStart => exact ⟨0, by omega, rfl, rfl, hb0⟩
    case round =>
      obtain ⟨k, hk, rfl, rfl, hbr⟩ := hrel
      have HBR := Lib.hid hbr
      have hbz := hbr.size
      clear hbr hb0 x0 hsl0
      by_cases hlk : k < R
      · have hkr : k < r.length := by rw [HRR.out]; exact hlk
        have hck := HCE.out k hkr
        have xk := cell_keep HBR.out (by omega) hck
        have y0 := HBD.out k hkr
        have hyk : r.getD k 0 < n := by rw [List.getD, List.getElem?_eq_getElem hkr]; exact HRN.out _ (List.getElem_mem hkr)
        have hlen := dropAt_len hkr
        have HDLEN := Lib.hid (show (dropAt r k).length = R - 1 by have := HRR.out; omega)
        have hpm := pairMin_to (D := D) (F := F) (x := x) (r := r) (fun j hj => by have := HBD.out j hj; omega) k (by omega)
        have hpt := pairTo_bd (D := D) (F := F) (x := x) (r := r) (M := 280) (fun j hj => by have := HBD.out j hj; omega) k (by omega)
        have hbs1 : 0 ≤ pairMin D F x r k ∧ pairMin D F x r k ≤ 281 := by rw [hpm]; split <;> omega
        have HMO := Lib.hid (show pairMin D F x r (k + 1) = minI (pairMin D F x r k) (D x (r.getD k 0) + F (dropAt r k)) from rfl)
        obtain ⟨y, hy⟩ : ∃ y, r.getD k 0 = y := ⟨_, rfl⟩
        rw [hy] at xk hyk y0 HMO
        obtain ⟨_, hall⟩ := HSQ.out.below HBR.out
        obtain ⟨z1, zp, z3⟩ := hall x hx
        have z4 := z3 y hyk
        obtain ⟨d, hd⟩ : ∃ d, D x y = d := ⟨_, rfl⟩
        rw [hd] at z4 y0 HMO
        obtain ⟨f, hf⟩ : ∃ f, F (dropAt r k) = f := ⟨_, rfl⟩
        have HFF := Lib.hid hf
        rw [hf] at y0 HMO
        obtain ⟨bs, hbs⟩ : ∃ bs, pairMin D F x r k = bs := ⟨_, rfl⟩
        rw [hbs] at hbs1 HMO ⊢
        have hslU := slice_uptoP bB (oB + 1) R cR k (by omega)
        obtain ⟨k2, hk2⟩ : ∃ k2, k + 1 = k2 := ⟨_, rfl⟩
        obtain ⟨oo, hslF, hoo⟩ := slice_fromP bB (oB + 1) R cR k2 (by omega) hRc
        have hw : IntKind.i64.wrap ((k : Int) + 1) = (k2 : Int) := by rw [← hk2]; push_cast; exact IntWalk.i64_in _ (by omega)
        have hBr : Own wr 0 wr.heap.size (some ⟨bB, oB + 1, none⟩) ((intsR r).map (Value.int .i64)) := (HBT.out.below HBR.out).more hbz
        have HS1 := Lib.hid (show Own wr 0 wr.heap.size (some ⟨bB, oB + 1, none⟩) (((intsR r).map (Value.int .i64)).take k) from hBr.take k)
        have HS2 := Lib.hid (show Own wr 0 wr.heap.size (some ⟨bB, oo, none⟩) (((intsR r).map (Value.int .i64)).drop (k + 1)) from by
          by_cases e : k2 < R
          · rw [hoo e, ← hk2]
            exact hBr.drop (k + 1)
          · exact .inl (List.drop_of_length_le (by rw [List.length_map, intsR_len]; have := HRR.out; omega)))
        have HK2 := Lib.hid hk2
        have HCO := Lib.hid (fun (W : World) (hW : Below wr.heap.size wr W) (h1 : W.cell? ⟨wr.heap.size, 0, none⟩ = some (.slice (some ⟨bB, oB + 1, none⟩) k cR)) (h2 : W.cell? ⟨wr.heap.size, 1, none⟩ = some (.slice (some ⟨bB, oo, none⟩) (R - k2) (cR - k2))) (h3 : wr.heap.size < W.heap.size) => concat_any (some ⟨bB, oB + 1, none⟩) (some ⟨bB, oo, none⟩) k cR (R - k2) (cR - k2) wr.heap.size wr.heap.size wr.heap.size _ _ W h1 h2 h3 (by omega) (by omega) (HS1.out.below hW) (HS2.out.below hW) (by rw [List.length_take, List.length_map, intsR_len]; have := HRR.out; omega) (by rw [List.length_drop, List.length_map, intsR_len]; have := HRR.out; have := HK2.out; omega) (fun u hu => intsR_cells r u (List.mem_of_mem_take hu)) (fun u hu => intsR_cells r u (List.mem_of_mem_drop hu)) (by omega) (by omega))
        have HSZ := Lib.hid (show k + (R - k2) = R - 1 by omega)
        have HALX := Lib.hid (show Below wr.heap.size wr (wr.drew.alloc (.cells #[.slice (some ⟨bB, oB + 1, none⟩) k cR, .slice (some ⟨bB, oo, none⟩) (R - k2) (cR - k2)] 32)) from (below_drewT wr).alloc (show wr.heap.size ≤ wr.drew.heap.size from Nat.le_refl _) _)
        have HCL0 := Lib.hid (show (wr.drew.alloc (.cells #[.slice (some ⟨bB, oB + 1, none⟩) k cR, .slice (some ⟨bB, oo, none⟩) (R - k2) (cR - k2)] 32)).heap[wr.heap.size]? = some (.cells #[.slice (some ⟨bB, oB + 1, none⟩) k cR, .slice (some ⟨bB, oo, none⟩) (R - k2) (cR - k2)] 32 (0, 0)) from heap_alloc_new wr.drew _)
        have hkI : (k : Int) < R := by omega
        have hk0 : (0 : Int) ≤ k := by omega
        have i1 : (0 : Int) ≤ x := by omega
        have i2 : (x : Int) < n := by omega
        have i3 : (0 : Int) ≤ y := by omega
        have i4 : (y : Int) < n := by omega
        have hbA := HSQ.out.1
        have HKEEP := Lib.hid (fun (X : World) (hX : Below wr.heap.size wr X) => show X.cell? ⟨bA, oA + x, none⟩ = some (.slice (some ⟨p x, q x, none⟩) n (cc x)) ∧ X.cell? ⟨p x, q x + y, none⟩ = some (.int .i64 d) from ⟨cell_keep hX (by omega) z1, cell_keep hX (by omega) z4⟩)
        have HDL := Lib.hid (show dropAt r k = r.take k ++ r.drop (k + 1) from rfl)
        have HCALL := Lib.hid (fun (W W2 : World) (hW : Below wr.heap.size wr W) (hW2 : Below W.heap.size W W2) (bs : Nat) (A3 : Option Addr) (c3 : Nat) (h3 : W.ownsRow bs 3 1 (.slice A3 (R - 1) c3) (R - 1) (((intsR r).map (Value.int .i64)).take k ++ ((intsR r).map (Value.int .i64)).drop (k + 1))) => show Calls Try.prog 21 #[.slice A3 (R - 1) c3, .slice (some ⟨bA, oA, none⟩) n c] W2 (fun e w' => e = .returned (.int .i64 f) ∧ Below W2.heap.size W2 w') from by
          have h4 := HIH.out (some ⟨bA, oA, none⟩) A3 c c3 (R - 1) (dropAt r k) W2 (by omega) HDLEN.out (by have := HNM.out; have := HNR.out; omega) (own_cap h3) (dropAt_lt HRN.out) ((HG.out.below (HBR.out.trans ((hW.trans (hW2.mono hW.size)).mono hbz))).more (by have := hW.size; have := hW2.size; omega)) (by
            have h5 := (own_of_rowS (by decide) h3).row
            rw [HDL.out, intsR, List.map_append, List.map_append, List.map_take, List.map_take, List.map_drop, List.map_drop]
            exact h5.past hW2)
          rwa [HF.out, HFF.out] at h4)
        clear hkr hck hlen hpm hpt hall z3 hy hd hf hbs hk2 hoo hBr zp
        go_wp2_with fail
        go_region_law (first
          | (go_simp; go_at_call 32; refine (HCO.out _ HALX.out (by rw [cell_of_row _ _ _ _ _ _ HCL0.out]; rfl) (by rw [cell_of_row _ _ _ _ _ _ HCL0.out]; rfl) (by exact lt_of_heap HCL0.out)).mono ?_; rintro e w3 ⟨A3, c3, rfl, hown3, hb3⟩; rw [HSZ.out] at hown3; rw [HSZ.out]))
        have HB3 := Lib.hid (HALX.out.trans (hb3.mono HALX.out.size))
        have HO3 := Lib.hid hown3
        have hz3 := HB3.out.size
        have hwf : IntKind.i64.wrap (d + f) = d + f := IntWalk.i64_in _ (by omega)
        clear hown3 hb3 hslU hslF hw xk z1 z4
        go_simp
        by_cases e1 : d + f < bs
        · have hmin : min bs (d + f) = d + f := by omega
          have hmi2 : min (d + f) bs = d + f := by omega
          have hdl : decide (d + f < bs) = true := by simp; omega
          have HT := Lib.hid (show pairMin D F x r (k + 1) = d + f by rw [HMO.out]; unfold minI; rw [if_pos e1])
          go_wp2_with fail
          go_region_held3 (fun w' => w'.cell? ⟨bA, oA + x, none⟩ = some (.slice (some ⟨p x, q x, none⟩) n (cc x)) ∧ w'.cell? ⟨p x, q x + y, none⟩ = some (.int .i64 d))
            (exact HKEEP.out _ (by first | exact HB5.out | exact HB3.out.trans ((below_drewT _).mono hz3)))
            (first
            | (go_at_call 21; refine (HCALL.out w3 _ HB3.out (below_drewT _) _ A3 c3 HO3.out).mono ?_; rintro e w5 ⟨rfl, hb5⟩; have HB5 := Lib.hid (HB3.out.trans (((below_drewT _).trans (hb5.mono (Nat.le_refl _))).mono hz3)); clear hb5))
          go_simp
          have HBW := Lib.hid (HBR.out.trans (HB5.out.mono hbz))
          clear e1 hmin hmi2 hdl
          go_wp2_with fail
          go_roundw
          case rel => exact ⟨k + 1, by omega, by go_num, by rw [HT.out], HBW.out⟩
          case measure => simp [intOf]; omega
        · have hmin : min bs (d + f) = bs := by omega
          have hmi2 : min (d + f) bs = bs := by omega
          have hdl : decide (d + f < bs) = false := by simp; omega
          have HT := Lib.hid (show pairMin D F x r (k + 1) = bs by rw [HMO.out]; unfold minI; rw [if_neg e1])
          go_wp2_with fail
          go_region_held3 (fun w' => w'.cell? ⟨bA, oA + x, none⟩ = some (.slice (some ⟨p x, q x, none⟩) n (cc x)) ∧ w'.cell? ⟨p x, q x + y, none⟩ = some (.int .i64 d))
            (exact HKEEP.out _ (by first | exact HB5.out | exact HB3.out.trans ((below_drewT _).mono hz3)))
            (first
            | (go_at_call 21; refine (HCALL.out w3 _ HB3.out (below_drewT _) _ A3 c3 HO3.out).mono ?_; rintro e w5 ⟨rfl, hb5⟩; have HB5 := Lib.hid (HB3.out.trans (((below_drewT _).trans (hb5.mono (Nat.le_refl _))).mono hz3)); clear hb5))
          go_simp
          have HBW := Lib.hid (HBR.out.trans (HB5.out.mono hbz))
          clear e1 hmin hmi2 hdl
          go_wp2_with fail
          go_roundw
          case rel => exact ⟨k + 1, by omega, by go_num, by rw [HT.out], HBW.out⟩
          case measure => simp [intOf]; omega
      · have hkN : R = k := by omega
        subst hkN
        have HR := Lib.hid (show pairMin D F x r R = pairF D (m + 1) (x :: r) by rw [← HV.out, HRR.out])
        go_wp2_with fail
        go_ret
        exact ⟨by rw [HR.out]; rfl, HBR.out⟩
end Go.Proofs.Ytekckjjfggclnaa
